/-
  pos.Convert by units that are none, and within a rune.
  Operations as lists: what a gathering keeps, and gap by gap: both come to the same least form.
  Two operations side by side: the model of what Compose and Transform go through (pure).
  Gaps, from the left on (pure); the document's Transform over them.
  Side by side is gap by gap (pure), where puts stand alone in both.
  Transform: the program's pairs add up to the document's parts (pure).
  What a least form is made of (pure).
  Operations in other units: what comes of them (pure).
  The document's own Ahead: all places are looked at.
  The closures of ops.gather: parts are added, told, and in the end there.
  ops.gather, and its closures tell, add and done, walked.
  ops.gather's add and done, and ops.isKeep, isDrop, isPut, walked.
  ops.Norm of any operation that is not too great: its least form.
  Lens, the program's and the document's; whether an operation is small; whether two are the same.
  The document's Spread: an operation as gaps.
  bridge.steps, and what it tells, by runes.
  The library's contract of utf8.ValidString, laid at this program.
  ops.isOne, and what ops.Check says of any operation.
-/
import Derived.Test.YtedonckeomccpabGreatDoorPartD
import Derived.Test.YtedonckeomccpabGreatDoorProg
import Derived.Test.YtedonckeomccpabGreatDoorPartA
import Derived.Lib.AppendStr
import Derived.Laws.OwnMore
import Derived.Maps.AppendAt
import Derived.Laws.EntriesVeiled
import Derived.Shelf.Unicode.ValidAny
namespace Go.Proofs.YtedonckeomccpabGreatDoor
open Go.RowKit
set_option linter.unusedVariables false
attribute [local go_sem] Oper.semAt_some

def unitOk (u : Int) : Prop := u = 1 ∨ u = 2 ∨ u = 3
theorem isUnit_bad (u : Int) (hu : ¬ unitOk u) (w : World) : Calls Tryz.prog 127 #[.int .i64 u] w fun e w' => e = .returned (.bool false) ∧ w' = w := by
  have k1 : (u == 1) = false := beq_eq_false_iff_ne.2 fun e => hu (.inl e)
  have k2 : (u == 2) = false := beq_eq_false_iff_ne.2 fun e => hu (.inr (.inl e))
  have k3 : (u == 3) = false := beq_eq_false_iff_ne.2 fun e => hu (.inr (.inr e))
  clear hu
  go_enter Tryz.func127, Tryz.ntmps127
  go_wp2
  go_ret
  exact ⟨rfl, rfl⟩
set_option maxRecDepth 100000 in
set_option maxHeartbeats 1000000 in
theorem ahead_bad (b : Nat) (u at_ : Int) (hu : ¬ unitOk u) (w : World) :
    Calls Tryz.prog 107 #[.pointer (some ⟨b, 0, none⟩), .int .i64 u, .int .i64 at_] w fun e w' => e = .returned (.tuple #[cntV [], errV 1]) ∧ Below w.heap.size w w' := by
  have cN := fun wx => isUnit_bad u hu wx
  have hb2 : Below w.heap.size w (((w.alloc (.cells #[.int .i64 u] 3)).alloc (.cells #[.int .i64 at_] 3)).alloc (.cells #[.int .i64 0, .int .i64 0, .int .i64 0, .int .i64 0] 25)) := (((Below.refl _ w).alloc (Nat.le_refl _) _).alloc (by simp) _).alloc (by simp; omega) _
  have HB2 : Hid _ := hb2
  have hV : errV 1 = .iface 26 (.int .i64 1) := rfl
  have hC : cntV [] = .agg #[.int .i64 0, .int .i64 0, .int .i64 0, .int .i64 0] := rfl
  rw [hV, hC]
  clear hu hb2 hV hC
  go_enter Tryz.func107, Tryz.ntmps107
  go_wp2_with (first
    | (go_at_call 127; refine (cN _).mono ?_; rintro e w1 ⟨rfl, hw1⟩; obtain rfl := hw1.symm)
    | fail)
  refine bodyPost_ret (v := .tuple #[.agg #[.int .i64 0, .int .i64 0, .int .i64 0, .int .i64 0], .iface 26 (.int .i64 1)]) (by simp [results, Tryz.results107, go_sem]) rfl ⟨rfl, HB2.out⟩
set_option maxHeartbeats 1000000 in
theorem unitError_bad (b : Nat) (u : Int) (hu : ¬ unitOk u) (w : World) :
    Calls Tryz.prog 106 #[.pointer (some ⟨b, 0, none⟩), .int .i64 u] w fun e w' => e = .returned (errV 1) ∧ Below w.heap.size w w' := by
  have cA : Hid _ := ahead_bad b u 0 hu w
  have hV : errV 1 = .iface 26 (.int .i64 1) := rfl
  have hC : cntV [] = .agg #[.int .i64 0, .int .i64 0, .int .i64 0, .int .i64 0] := rfl
  rw [hV] at cA ⊢
  rw [hC] at cA
  clear hu hV hC
  go_enter Tryz.func106, Tryz.ntmps106
  go_wp2_with (first
    | (go_at_call 107; refine Calls.mono cA.out ?_; rintro e w1 ⟨rfl, hb1⟩)
    | fail)
  go_ret
  exact ⟨rfl, hb1.alloc hb1.size _⟩
set_option maxHeartbeats 1000000 in
theorem convert_to (b : Nat) (u v at_ : Int) (hv : ¬ unitOk v) (w : World) :
    Calls Tryz.prog 77 #[.pointer (some ⟨b, 0, none⟩), .int .i64 u, .int .i64 v, .int .i64 at_] w fun e w' => e = .returned (.tuple #[.int .i64 0, errV 1]) ∧ Below w.heap.size w w' := by
  have cU : Hid _ := unitError_bad b v hv w
  have hV : errV 1 = .iface 26 (.int .i64 1) := rfl
  rw [hV] at cU ⊢
  clear hv hV
  go_enter Tryz.func77, Tryz.ntmps77
  go_wp2_with (first
    | (go_at_call 106; refine Calls.mono cU.out ?_; rintro e w1 ⟨rfl, hb1⟩)
    | fail)
  go_ret2
  exact ⟨rfl, hb1⟩
set_option maxHeartbeats 1000000 in
theorem convert_from (b : Nat) (rs : List Nat) (u v at_ : Int) (hv : unitOk v) (hu : ¬ unitOk u) (w : World) (hT : Lib.Utf8Tabs 2 3 w) (h : isRope w b rs) (hz : C1 rs ≤ 100000000) :
    Calls Tryz.prog 77 #[.pointer (some ⟨b, 0, none⟩), .int .i64 u, .int .i64 v, .int .i64 at_] w fun e w' => e = .returned (.tuple #[.int .i64 0, errV 1]) ∧ Below w.heap.size w w' := by
  have cU : Hid _ := unitError_good b rs v hv w hT h hz
  have cA : Hid (∀ wx, Calls Tryz.prog 107 #[.pointer (some ⟨b, 0, none⟩), .int .i64 u, .int .i64 at_] wx fun e w' => e = .returned (.tuple #[.agg #[.int .i64 0, .int .i64 0, .int .i64 0, .int .i64 0], .iface 26 (.int .i64 1)]) ∧ Below wx.heap.size wx w') := fun wx => ahead_bad b u at_ hu wx
  have hV : errV 1 = .iface 26 (.int .i64 1) := rfl
  rw [hV]
  clear hv hu hV hT h hz
  go_enter Tryz.func77, Tryz.ntmps77
  go_wp2_with (first
    | (go_at_call 106; refine Calls.mono cU.out ?_; rintro e w1 ⟨rfl, hb1⟩; have HB1 : Hid (Below w.heap.size w w1) := hb1; clear hb1)
    | (go_at_call 107; refine (cA.out _).mono ?_; rintro e w2 ⟨rfl, hb2⟩; have HB2 : Hid (Below w.heap.size w w2) := HB1.out.trans (hb2.mono HB1.out.size); clear hb2)
    | fail)
  go_ret2
  exact ⟨rfl, HB2.out.alloc HB2.out.size _⟩
set_option maxHeartbeats 1000000 in
theorem convert_ord (b : Nat) (rs : List Nat) (u v at_ : Int) (hu : unitOk u) (hv : unitOk v) (hl0 : 0 ≤ at_) (hl1 : at_ ≤ by_ u rs) (w : World) (hT : Lib.Utf8Tabs 2 3 w) (h : isRope w b rs) (hz : C1 rs ≤ 100000000) (X : List Nat) (hX : find (reachesBy u at_) [] rs = X) (hfine : by_ u X ≠ at_) :
    Calls Tryz.prog 77 #[.pointer (some ⟨b, 0, none⟩), .int .i64 u, .int .i64 v, .int .i64 at_] w fun e w' => e = .returned (.tuple #[.int .i64 0, errV 10]) ∧ Below w.heap.size w w' := by
  have cU : Hid _ := unitError_good b rs v hv w hT h hz
  have cA : Hid (∀ wx, Below w.heap.size w wx → Calls Tryz.prog 107 #[.pointer (some ⟨b, 0, none⟩), .int .i64 u, .int .i64 at_] wx fun e w' => e = .returned (.tuple #[.agg #[.int .i64 0, .int .i64 0, .int .i64 0, .int .i64 0], .iface 26 (.int .i64 10)]) ∧ Below wx.heap.size wx w') := fun wx hb => by
    have := ahead_any b rs u at_ hu hl0 hl1 wx (Go.Proofs.Utf8Tabs_below hT hb) (isRope_below h hb) hz
    rw [hX, if_neg hfine] at this
    exact this
  have hV : errV 10 = .iface 26 (.int .i64 10) := rfl
  rw [hV]
  clear hT h hu hz hv hl0 hl1 hX hfine hV
  go_enter Tryz.func77, Tryz.ntmps77
  go_wp2_with (first
    | (go_at_call 106; refine Calls.mono cU.out ?_; rintro e w1 ⟨rfl, hb1⟩; have HB1 : Hid (Below w.heap.size w w1) := hb1; clear hb1)
    | (go_at_call 107; refine (cA.out _ HB1.out).mono ?_; rintro e w2 ⟨rfl, hb2⟩; have HB2 : Hid (Below w.heap.size w w2) := HB1.out.trans (hb2.mono HB1.out.size); clear hb2)
    | fail)
  go_ret2
  exact ⟨rfl, HB2.out.alloc HB2.out.size _⟩
end Go.Proofs.YtedonckeomccpabGreatDoor

namespace Go.Proofs.YtedonckeomccpabGreatDoor

/-- A part of an operation. -/
structure Pt where
  keep : Int
  drop : Int
  put : List UInt8
deriving DecidableEq

/-- What a gathering keeps: what it told, what is put and dropped since. -/
structure NSt where
  out : List Pt
  put : List UInt8
  drop : Int
deriving DecidableEq

def tellP (s : NSt) : List Pt := s.out ++ ((if s.put = [] then [] else [⟨0, 0, s.put⟩]) ++ (if s.drop = 0 then [] else [⟨0, s.drop, []⟩]))
def lastKeeps (l : List Pt) : Bool := match l.getLast? with
  | some p => decide (0 < p.keep)
  | none => false
def pushKeep (l : List Pt) (k : Int) : List Pt := match l.getLast? with
  | some p => if 0 < p.keep then l.dropLast ++ [⟨p.keep + k, p.drop, p.put⟩] else l ++ [⟨k, 0, []⟩]
  | none => l ++ [⟨k, 0, []⟩]
def addP (s : NSt) (p : Pt) : NSt := if p.keep = 0 then ⟨s.out, s.put ++ p.put, s.drop + p.drop⟩ else ⟨pushKeep (tellP ⟨s.out, s.put ++ p.put, s.drop + p.drop⟩) p.keep, [], 0⟩
def nst0 : NSt := ⟨[], [], 0⟩
def normP (op : List Pt) : List Pt := tellP (op.foldl addP nst0)

theorem pushKeep_more (l : List Pt) (a b : Int) (ha : 0 < a) : pushKeep (pushKeep l a) b = pushKeep l (a + b) := by
  unfold pushKeep
  cases h : l.getLast? with
  | none => simp [ha]
  | some p =>
    by_cases hp : 0 < p.keep
    · have h2 : 0 < p.keep + a := by omega
      simp [hp, h2, Int.add_assoc]
    · simp [hp, ha]

theorem tellP_done (l : List Pt) : tellP ⟨l, [], 0⟩ = l := by simp [tellP]
theorem addP_none (s : NSt) : addP s ⟨0, 0, []⟩ = s := by simp [addP]
theorem addP_split (s : NSt) (k d : Int) (q : List UInt8) : addP s ⟨k, d, q⟩ = addP (addP (addP s ⟨0, 0, q⟩) ⟨0, d, []⟩) ⟨k, 0, []⟩ := by
  by_cases h : k = 0
  · subst h; simp [addP]
  · simp [addP, h]
theorem addP_drops (s : NSt) (a b : Int) : addP (addP s ⟨0, a, []⟩) ⟨0, b, []⟩ = addP s ⟨0, a + b, []⟩ := by simp [addP, Int.add_assoc]
theorem addP_puts (s : NSt) (a b : List UInt8) : addP (addP s ⟨0, 0, a⟩) ⟨0, 0, b⟩ = addP s ⟨0, 0, a ++ b⟩ := by simp [addP]
theorem addP_keeps (s : NSt) (a b : Int) (ha : 0 < a) (hb : 0 ≤ b) : addP (addP s ⟨a, 0, []⟩) ⟨b, 0, []⟩ = addP s ⟨a + b, 0, []⟩ := by
  have h1 : a ≠ 0 := by omega
  have h2 : a + b ≠ 0 := by omega
  by_cases h : b = 0
  · subst h; simp [addP, h1]
  · simp [addP, h, h1, h2, tellP_done, pushKeep_more _ a b ha]

/-- One byte of the text: dropped, or kept. -/
def unitP (d : Bool) : Pt := if d then ⟨0, 1, []⟩ else ⟨1, 0, []⟩

/-- Gaps so far: what is put ahead of each byte, and whether it is dropped; and what is put behind them. -/
abbrev GSt := List (List UInt8 × Bool) × List UInt8
def tick (d : Bool) (g : GSt) : GSt := (g.1 ++ [(g.2, d)], [])
def ticks (d : Bool) : Nat → GSt → GSt
  | 0, g => g
  | n + 1, g => ticks d n (tick d g)
def spreadP (g : GSt) (p : Pt) : GSt := ticks false p.keep.toNat (ticks true p.drop.toNat (g.1, g.2 ++ p.put))
def spreads (op : List Pt) : GSt := op.foldl spreadP ([], [])

theorem ticks_len (d : Bool) : ∀ (n : Nat) (g : GSt), (ticks d n g).1.length = g.1.length + n
  | 0, _ => rfl
  | n + 1, g => by rw [ticks, ticks_len d n, tick, List.length_append, List.length_singleton]; omega
theorem ticks_more (d : Bool) : ∀ (n : Nat) (g : GSt), ticks d (n + 1) g = tick d (ticks d n g)
  | 0, _ => rfl
  | n + 1, g => by rw [ticks, ticks_more d n, ticks]
def lenP (p : Pt) : Int := p.keep + p.drop
theorem spreadP_len (g : GSt) (p : Pt) (hk : 0 ≤ p.keep) (hd : 0 ≤ p.drop) : ((spreadP g p).1.length : Int) = g.1.length + lenP p := by
  unfold spreadP lenP
  rw [ticks_len, ticks_len]
  show ((g.1.length + _ + _ : Nat) : Int) = _
  omega

def gapAdd (s : NSt) (x : List UInt8 × Bool) : NSt := addP (addP s ⟨0, 0, x.1⟩) (unitP x.2)
def runG (g : GSt) : NSt := addP (g.1.foldl gapAdd nst0) ⟨0, 0, g.2⟩
theorem runG_tick (d : Bool) (g : GSt) : runG (tick d g) = addP (runG g) (unitP d) := by
  unfold runG tick
  rw [List.foldl_append]
  show addP (gapAdd _ _) ⟨0, 0, []⟩ = _
  rw [addP_none]
  rfl
theorem runG_drops : ∀ (n : Nat) (g : GSt), runG (ticks true n g) = addP (runG g) ⟨0, n, []⟩
  | 0, g => (addP_none _).symm
  | n + 1, g => by
    rw [ticks, runG_drops n, runG_tick]
    show addP (addP _ ⟨0, 1, []⟩) _ = _
    rw [addP_drops]
    congr 2
    omega
theorem runG_keeps : ∀ (n : Nat) (g : GSt), runG (ticks false n g) = addP (runG g) ⟨n, 0, []⟩
  | 0, g => (addP_none _).symm
  | n + 1, g => by
    rw [ticks, runG_keeps n, runG_tick]
    show addP (addP _ ⟨1, 0, []⟩) _ = _
    rw [addP_keeps _ _ _ (by omega) (by omega)]
    congr 2
    omega
theorem runG_spread (g : GSt) (p : Pt) (hk : 0 ≤ p.keep) (hd : 0 ≤ p.drop) : runG (spreadP g p) = addP (runG g) p := by
  obtain ⟨k, d, q⟩ := p
  unfold spreadP
  rw [runG_keeps, runG_drops]
  have : runG (g.1, g.2 ++ q) = addP (runG g) ⟨0, 0, q⟩ := by unfold runG; rw [addP_puts]
  rw [this, addP_split _ k d q]
  show addP (addP _ ⟨0, (d.toNat : Int), []⟩) ⟨(k.toNat : Int), 0, []⟩ = _
  rw [Int.toNat_of_nonneg hk, Int.toNat_of_nonneg hd]
theorem runG_spreads (op : List Pt) (h : ∀ p ∈ op, 0 ≤ p.keep ∧ 0 ≤ p.drop) : runG (spreads op) = op.foldl addP nst0 := by
  have key : ∀ (l : List Pt) (g : GSt), (∀ p ∈ l, 0 ≤ p.keep ∧ 0 ≤ p.drop) → runG (l.foldl spreadP g) = l.foldl addP (runG g) := by
    intro l
    induction l with
    | nil => intros; rfl
    | cons p l ih =>
      intro g h
      rw [List.foldl_cons, List.foldl_cons, ih _ fun x hx => h x (List.mem_cons_of_mem _ hx), runG_spread g p (h p (List.mem_cons_self ..)).1 (h p (List.mem_cons_self ..)).2]
  exact key op _ h

/-- What the document's own gathering keeps. -/
structure KSt where
  out : List Pt
  put : List UInt8
  drop : Int
  keep : Int
deriving DecidableEq
def kst0 : KSt := ⟨[], [], 0, 0⟩
/-- What is put at a gap, or that a byte behind it is dropped: what was kept is told. -/
def flushK (s : KSt) (q : List UInt8) (d : Bool) : KSt := if q ≠ [] ∨ d = true then ⟨if 0 < s.keep then s.out ++ [⟨s.keep, 0, []⟩] else s.out, s.put ++ q, s.drop, if 0 < s.keep then 0 else s.keep⟩ else s
def byteK (s : KSt) (d : Bool) : KSt := if d then ⟨s.out, s.put, s.drop + 1, s.keep⟩ else ⟨tellP ⟨s.out, s.put, s.drop⟩, [], 0, s.keep + 1⟩
def stepK (s : KSt) (x : List UInt8 × Bool) : KSt := byteK (flushK s x.1 x.2) x.2
def endK (s : KSt) : List Pt := tellP ⟨if 0 < s.keep then s.out ++ [⟨s.keep, 0, []⟩] else s.out, s.put, s.drop⟩
def gatherP (g : GSt) : List Pt := endK (flushK (g.1.foldl stepK kst0) g.2 false)

def nfK (s : KSt) : NSt := if 0 < s.keep then ⟨s.out ++ [⟨s.keep, 0, []⟩], [], 0⟩ else ⟨s.out, s.put, s.drop⟩
structure InvK (s : KSt) : Prop where
  k0 : 0 ≤ s.keep
  d0 : 0 ≤ s.drop
  quiet : 0 < s.keep → s.put = [] ∧ s.drop = 0 ∧ lastKeeps s.out = false
  last : s.keep = 0 → lastKeeps (tellP ⟨s.out, s.put, s.drop⟩) = false

theorem lastKeeps_snoc (l : List Pt) (p : Pt) : lastKeeps (l ++ [p]) = decide (0 < p.keep) := by simp [lastKeeps]
theorem pushKeep_new (l : List Pt) (k : Int) (h : lastKeeps l = false) : pushKeep l k = l ++ [⟨k, 0, []⟩] := by
  unfold lastKeeps at h
  unfold pushKeep
  cases hl : l.getLast? with
  | none => rfl
  | some p => simp only [hl, decide_eq_false_iff_not] at h; simp [h]
theorem pushKeep_snoc (l : List Pt) (a k : Int) (h : 0 < a) : pushKeep (l ++ [⟨a, 0, []⟩]) k = l ++ [⟨a + k, 0, []⟩] := by simp [pushKeep, h]
theorem lastKeeps_tell (l : List Pt) (q : List UInt8) (d : Int) (h : q ≠ [] ∨ d ≠ 0) : lastKeeps (tellP ⟨l, q, d⟩) = false := by
  unfold tellP
  by_cases hd : d = 0
  · have hq : q ≠ [] := by rcases h with h | h; exact h; exact absurd hd h
    simp [hd, hq, lastKeeps]
  · by_cases hq : q = []
    · simp [hd, hq, lastKeeps]
    · simp [hd, hq, lastKeeps]

theorem step_flush (s : KSt) (h : InvK s) (q : List UInt8) (d : Bool) : nfK (flushK s q d) = addP (nfK s) ⟨0, 0, q⟩ ∧ (q ≠ [] ∨ d = true → (flushK s q d).keep = 0) ∧ (¬ (q ≠ [] ∨ d = true) → flushK s q d = s) ∧ 0 ≤ (flushK s q d).drop := by
  unfold flushK
  have h0 := h.k0
  have hd0 := h.d0
  by_cases hc : q ≠ [] ∨ d = true
  · rw [if_pos hc]
    refine ⟨?_, ?_, fun h => absurd hc h, ?_⟩
    · by_cases hk : 0 < s.keep
      · obtain ⟨q1, q2, _⟩ := h.quiet hk
        simp [hk, nfK, addP, q1, q2]
      · have : s.keep = 0 := by omega
        simp [this, nfK, addP]
    · intro _
      by_cases hk : 0 < s.keep
      · simp [hk]
      · have : s.keep = 0 := by omega
        simp [this]
    · exact hd0
  · rw [if_neg hc]
    have hq : q = [] := by
      by_cases hq : q = []
      · exact hq
      · exact absurd (.inl hq) hc
    subst hq
    exact ⟨by simp [addP], fun h => absurd h hc, fun _ => rfl, hd0⟩

theorem step_any (s : KSt) (h : InvK s) (x : List UInt8 × Bool) : nfK (stepK s x) = gapAdd (nfK s) x ∧ InvK (stepK s x) := by
  obtain ⟨q, d⟩ := x
  obtain ⟨f1, f2, f3, f4⟩ := step_flush s h q d
  unfold gapAdd stepK
  show nfK (byteK (flushK s q d) d) = addP (addP (nfK s) ⟨0, 0, q⟩) (unitP d) ∧ InvK (byteK (flushK s q d) d)
  rw [← f1]
  generalize hs' : flushK s q d = t at *
  cases d with
  | true =>
    have hk := f2 (.inr rfl)
    have hne : t.drop + 1 ≠ 0 := by omega
    refine ⟨?_, ?_, ?_, ?_, ?_⟩
    · simp [byteK, nfK, hk, unitP, addP]
    · simp [byteK, hk]
    · simp [byteK]; omega
    · simp [byteK, hk]
    · intro _
      exact lastKeeps_tell _ _ _ (.inr hne)
  | false =>
    by_cases hq : q ≠ []
    · have hk := f2 (.inl hq)
      have hl : lastKeeps (tellP ⟨t.out, t.put, t.drop⟩) = false := by
        refine lastKeeps_tell _ _ _ (.inl ?_)
        rw [← hs']
        simp [flushK, hq]
      refine ⟨?_, ?_, ?_, ?_, ?_⟩
      · simp [byteK, nfK, hk, unitP, addP, pushKeep_new _ _ hl]
      · simp [byteK, hk]
      · simp [byteK]
      · intro _; exact ⟨rfl, rfl, hl⟩
      · simp [byteK, hk]
    · obtain rfl := f3 (by simpa using hq)
      have h0 := h.k0
      by_cases hk : 0 < t.keep
      · obtain ⟨q1, q2, q3⟩ := h.quiet hk
        refine ⟨?_, ?_, ?_, ?_, ?_⟩
        · simp [byteK, nfK, hk, unitP, addP, q1, q2, tellP_done, pushKeep_snoc _ _ _ hk]
          omega
        · simp [byteK]; omega
        · simp [byteK]
        · intro _
          refine ⟨rfl, rfl, ?_⟩
          show lastKeeps (tellP ⟨t.out, t.put, t.drop⟩) = false
          rw [q1, q2, tellP_done]; exact q3
        · simp [byteK]; omega
      · have hk0 : t.keep = 0 := by omega
        have hl := h.last hk0
        refine ⟨?_, ?_, ?_, ?_, ?_⟩
        · simp [byteK, nfK, hk0, unitP, addP, pushKeep_new _ _ hl]
        · simp [byteK, hk0]
        · simp [byteK]
        · intro _; exact ⟨rfl, rfl, hl⟩
        · simp [byteK, hk0]

theorem inv0 : InvK kst0 := ⟨by simp [kst0], by simp [kst0], by simp [kst0], by simp [kst0, tellP, lastKeeps]⟩
theorem steps_any (l : List (List UInt8 × Bool)) : ∀ (s : KSt), InvK s → nfK (l.foldl stepK s) = l.foldl gapAdd (nfK s) ∧ InvK (l.foldl stepK s) := by
  induction l with
  | nil => exact fun s h => ⟨rfl, h⟩
  | cons x l ih =>
    intro s h
    obtain ⟨h1, h2⟩ := step_any s h x
    rw [List.foldl_cons, List.foldl_cons, ← h1]
    exact ih _ h2
theorem endK_nf (s : KSt) (h : 0 < s.keep → s.put = [] ∧ s.drop = 0) : endK s = tellP (nfK s) := by
  unfold endK nfK
  by_cases hk : 0 < s.keep
  · obtain ⟨h1, h2⟩ := h hk
    simp [hk, h1, h2]
  · simp [hk]

/-- Gap by gap, or part by part: the same least form. -/
theorem gather_norm (op : List Pt) (h : ∀ p ∈ op, 0 ≤ p.keep ∧ 0 ≤ p.drop) : gatherP (spreads op) = normP op := by
  unfold gatherP normP
  obtain ⟨h1, h2⟩ := steps_any (spreads op).1 kst0 inv0
  obtain ⟨f1, f2, f3, f4⟩ := step_flush _ h2 (spreads op).2 false
  rw [endK_nf, f1, h1, ← runG_spreads op h]
  · rfl
  · intro hk
    by_cases hq : (spreads op).2 ≠ [] ∨ false = true
    · rw [f2 hq] at hk; omega
    · rw [f3 hq] at hk ⊢
      exact ⟨(h2.quiet hk).1, (h2.quiet hk).2.1⟩
end Go.Proofs.YtedonckeomccpabGreatDoor

namespace Go.Proofs.YtedonckeomccpabGreatDoor
set_option linter.unusedVariables false

/-- Whatever the gaps: gathered, they are what their parts add up to. -/
theorem gather_runG (G : GSt) : gatherP G = tellP (runG G) := by
  unfold gatherP
  obtain ⟨h1, h2⟩ := steps_any G.1 kst0 inv0
  obtain ⟨f1, f2, f3, f4⟩ := step_flush _ h2 G.2 false
  rw [endK_nf, f1, h1]
  · rfl
  · intro hk
    by_cases hq : G.2 ≠ [] ∨ false = true
    · rw [f2 hq] at hk; omega
    · rw [f3 hq] at hk ⊢
      exact ⟨(h2.quiet hk).1, (h2.quiet hk).2.1⟩

def lengthP (p : Pt) : Int := p.keep + p.drop + p.put.length
def noP : Pt := ⟨0, 0, []⟩
/-- So much off a first part; what is left of it. -/
def cutP (p : Pt) (n : Int) : Pt × List Pt :=
  if lengthP p = n then (p, [])
  else if 0 < p.keep then (⟨n, 0, []⟩, [⟨p.keep - n, p.drop, p.put⟩])
  else if 0 < p.drop then (⟨0, n, []⟩, [⟨p.keep, p.drop - n, p.put⟩])
  else (⟨0, 0, p.put.take n.toNat⟩, [⟨p.keep, p.drop, p.put.drop n.toNat⟩])
/-- The pairs that are taken, from the left on. -/
def sideP (la lb : Pt → Bool) : Nat → List Pt → List Pt → List (Pt × Pt)
  | 0, _, _ => []
  | f + 1, p :: a, b => if la p then (p, noP) :: sideP la lb f a b else match b with
    | q :: b => if lb q then (noP, q) :: sideP la lb f (p :: a) b else
      ((cutP p (min (lengthP p) (lengthP q))).1, (cutP q (min (lengthP p) (lengthP q))).1) :: sideP la lb f ((cutP p (min (lengthP p) (lengthP q))).2 ++ a) ((cutP q (min (lengthP p) (lengthP q))).2 ++ b)
    | [] => []
  | f + 1, [], q :: b => if lb q then (noP, q) :: sideP la lb f [] b else []
  | f + 1, [], [] => []

def isDropP (p : Pt) : Bool := decide (0 < p.drop)
def isKeepP (p : Pt) : Bool := decide (0 < p.keep)
def isPutP (p : Pt) : Bool := decide (p.put ≠ [])
/-- What Compose adds of a pair. -/
def compP (x : Pt × Pt) : List Pt := if isDropP x.1 || isKeepP x.2 then [x.1] else if isPutP x.2 || isKeepP x.1 then [x.2] else []
/-- What Transform adds of a pair. -/
def turnP (x : Pt × Pt) : List Pt := if isPutP x.2 then [⟨x.2.put.length, 0, []⟩] else if isPutP x.1 || isKeepP x.2 then [x.1] else []

/-- A part that is one thing, and not nothing. -/
def oneP (p : Pt) : Prop := (0 < p.keep ∧ p.drop = 0 ∧ p.put = []) ∨ (p.keep = 0 ∧ 0 < p.drop ∧ p.put = []) ∨ (p.keep = 0 ∧ p.drop = 0 ∧ p.put ≠ [])
theorem length_pos {p : Pt} (h : oneP p) : 0 < lengthP p := by
  unfold lengthP
  rcases h with ⟨h1, h2, h3⟩ | ⟨h1, h2, h3⟩ | ⟨h1, h2, h3⟩
  · rw [h2, h3]; simp; omega
  · rw [h1, h3]; simp; omega
  · have := List.length_pos_iff.2 h3; omega
theorem cut_one {p : Pt} (h : oneP p) {n : Int} (h0 : 0 < n) (hn : n ≤ lengthP p) : oneP (cutP p n).1 ∧ lengthP (cutP p n).1 = n ∧ (∀ q ∈ (cutP p n).2, oneP q ∧ lengthP q = lengthP p - n) ∧ ((cutP p n).2 = [] ↔ lengthP p = n) := by
  unfold cutP
  by_cases e : lengthP p = n
  · rw [if_pos e]; exact ⟨h, e, by simp, by simp [e]⟩
  · rw [if_neg e]
    obtain ⟨K, D, U⟩ := p
    have e' : ¬ K + D + (U.length : Int) = n := e
    have hn' : n ≤ K + D + (U.length : Int) := hn
    clear e hn
    rcases h with ⟨h1, h2, h3⟩ | ⟨h1, h2, h3⟩ | ⟨h1, h2, h3⟩
    · replace h1 : 0 < K := h1
      obtain rfl : D = 0 := h2
      obtain rfl : U = [] := h3
      have hl : (([] : List UInt8).length : Int) = 0 := rfl
      rw [hl] at e' hn'
      rw [if_pos (show 0 < (⟨K, 0, []⟩ : Pt).keep from h1)]
      refine ⟨.inl ⟨h0, rfl, rfl⟩, by simp [lengthP], ?_, ⟨fun h => (by cases h), fun h => absurd h (by simp only [lengthP, List.length_nil]; omega)⟩⟩
      intro q hq
      obtain rfl := List.mem_singleton.1 hq
      exact ⟨.inl ⟨by show 0 < K - n; omega, rfl, rfl⟩, by simp only [lengthP, List.length_nil]; omega⟩
    · obtain rfl : K = 0 := h1
      replace h2 : 0 < D := h2
      obtain rfl : U = [] := h3
      have hl : (([] : List UInt8).length : Int) = 0 := rfl
      rw [hl] at e' hn'
      rw [if_neg (show ¬ 0 < (⟨0, D, []⟩ : Pt).keep from Int.lt_irrefl 0), if_pos (show 0 < (⟨0, D, []⟩ : Pt).drop from h2)]
      refine ⟨.inr (.inl ⟨rfl, h0, rfl⟩), by simp [lengthP], ?_, ⟨fun h => (by cases h), fun h => absurd h (by simp only [lengthP, List.length_nil]; omega)⟩⟩
      intro q hq
      obtain rfl := List.mem_singleton.1 hq
      exact ⟨.inr (.inl ⟨rfl, by show 0 < D - n; omega, rfl⟩), by simp only [lengthP, List.length_nil]; omega⟩
    · obtain rfl : K = 0 := h1
      obtain rfl : D = 0 := h2
      replace h3 : U ≠ [] := h3
      rw [if_neg (show ¬ 0 < (⟨0, 0, U⟩ : Pt).keep from Int.lt_irrefl 0), if_neg (show ¬ 0 < (⟨0, 0, U⟩ : Pt).drop from Int.lt_irrefl 0)]
      have hl : (U.take n.toNat).length = n.toNat := by rw [List.length_take]; omega
      have hd : (U.drop n.toNat).length = U.length - n.toNat := List.length_drop
      refine ⟨.inr (.inr ⟨rfl, rfl, ?_⟩), by simp only [lengthP, hl]; omega, ?_, ⟨fun h => (by cases h), fun h => absurd h (by simp only [lengthP]; omega)⟩⟩
      · intro e'
        have := congrArg List.length e'
        rw [hl, List.length_nil] at this
        omega
      · intro q hq
        obtain rfl := List.mem_singleton.1 hq
        refine ⟨.inr (.inr ⟨rfl, rfl, ?_⟩), by simp only [lengthP, hd]; omega⟩
        intro e'
        have := congrArg List.length e'
        rw [hd, List.length_nil] at this
        omega
end Go.Proofs.YtedonckeomccpabGreatDoor

namespace Go.Proofs.YtedonckeomccpabGreatDoor
set_option linter.unusedVariables false

theorem ticks_shift (d : Bool) : ∀ (n : Nat) (l : List (List UInt8 × Bool)) (g : GSt), ticks d n (l ++ g.1, g.2) = (l ++ (ticks d n g).1, (ticks d n g).2)
  | 0, l, g => rfl
  | n + 1, l, g => by
    rw [ticks, ticks]
    have e : tick d (l ++ g.1, g.2) = (l ++ (tick d g).1, (tick d g).2) := by simp [tick]
    rw [e]
    exact ticks_shift d n l (tick d g)
theorem spreadP_shift (l : List (List UInt8 × Bool)) (g : GSt) (p : Pt) : spreadP (l ++ g.1, g.2) p = (l ++ (spreadP g p).1, (spreadP g p).2) := by
  unfold spreadP
  rw [ticks_shift true p.drop.toNat l (g.1, g.2 ++ p.put), ticks_shift]
/-- The gaps of what is yet to come, with what was put ahead of it. -/
def gapsR : List UInt8 → List Pt → GSt
  | acc, [] => ([], acc)
  | acc, p :: ps => ((spreadP ([], acc) p).1 ++ (gapsR (spreadP ([], acc) p).2 ps).1, (gapsR (spreadP ([], acc) p).2 ps).2)
theorem spreads_gaps (ps : List Pt) : ∀ (l : List (List UInt8 × Bool)) (acc : List UInt8), ps.foldl spreadP (l, acc) = (l ++ (gapsR acc ps).1, (gapsR acc ps).2) := by
  induction ps with
  | nil => intro l acc; simp [gapsR]
  | cons p ps ih =>
    intro l acc
    have e := spreadP_shift l ([], acc) p
    rw [List.append_nil] at e
    rw [List.foldl_cons, e, ih]
    simp [gapsR]
theorem spreads_eq (ps : List Pt) : spreads ps = gapsR [] ps := by
  have := spreads_gaps ps [] []
  simpa [spreads] using this
theorem gaps_put (acc u : List UInt8) (ps : List Pt) : gapsR acc (⟨0, 0, u⟩ :: ps) = gapsR (acc ++ u) ps := by
  simp [gapsR, spreadP, ticks]
theorem ticks_one (d : Bool) : ∀ (n : Nat) (acc : List UInt8), ticks d (n + 1) ([], acc) = ((acc, d) :: List.replicate n ([], d), [])
  | 0, acc => by simp [ticks, tick]
  | n + 1, acc => by
    rw [ticks_more, ticks_one d n acc]
    simp [tick, List.replicate_succ']
theorem gaps_keep (acc : List UInt8) (n : Nat) (ps : List Pt) : gapsR acc (⟨(n : Int) + 1, 0, []⟩ :: ps) = ((acc, false) :: List.replicate n ([], false) ++ (gapsR [] ps).1, (gapsR [] ps).2) := by
  have h1 : ((n : Int) + 1).toNat = n + 1 := by omega
  have h2 := ticks_one false n acc
  rw [ticks] at h2
  simp only [gapsR, spreadP, h1, Int.toNat_zero, ticks, List.append_nil, h2]
theorem gaps_drop (acc : List UInt8) (n : Nat) (ps : List Pt) : gapsR acc (⟨0, (n : Int) + 1, []⟩ :: ps) = ((acc, true) :: List.replicate n ([], true) ++ (gapsR [] ps).1, (gapsR [] ps).2) := by
  have h1 : ((n : Int) + 1).toNat = n + 1 := by omega
  have h2 := ticks_one true n acc
  rw [ticks] at h2
  simp only [gapsR, spreadP, h1, Int.toNat_zero, ticks, List.append_nil, h2]

/-- What the document's Transform adds, gap by gap: b says that the other's put is counted first. -/
def docT (first : Bool) : List (List UInt8 × Bool) → List UInt8 → List (List UInt8 × Bool) → List UInt8 → List Pt
  | (u, d) :: x, xl, (v, e) :: y, yl => (if first then [⟨0, 0, u⟩, ⟨v.length, 0, []⟩] else [⟨v.length, 0, []⟩, ⟨0, 0, u⟩]) ++ (if e then [] else [unitP d]) ++ docT first x xl y yl
  | _, xl, _, yl => if first then [⟨0, 0, xl⟩, ⟨yl.length, 0, []⟩] else [⟨yl.length, 0, []⟩, ⟨0, 0, xl⟩]
end Go.Proofs.YtedonckeomccpabGreatDoor

namespace Go.Proofs.YtedonckeomccpabGreatDoor
set_option linter.unusedVariables false

def unitK (d : Bool) (k : Nat) : Pt := if d then ⟨0, k, []⟩ else ⟨k, 0, []⟩
theorem one_cases {p : Pt} (h : oneP p) : (∃ u, u ≠ [] ∧ p = ⟨0, 0, u⟩) ∨ ∃ d n, p = unitK d (n + 1) := by
  obtain ⟨K, D, U⟩ := p
  rcases h with ⟨h1, h2, h3⟩ | ⟨h1, h2, h3⟩ | ⟨h1, h2, h3⟩
  · obtain rfl : D = 0 := h2
    obtain rfl : U = [] := h3
    replace h1 : 0 < K := h1
    refine .inr ⟨false, K.toNat - 1, ?_⟩
    have : K = ((K.toNat - 1 + 1 : Nat) : Int) := by omega
    show (⟨K, 0, []⟩ : Pt) = ⟨((K.toNat - 1 + 1 : Nat) : Int), 0, []⟩
    rw [← this]
  · obtain rfl : K = 0 := h1
    obtain rfl : U = [] := h3
    replace h2 : 0 < D := h2
    refine .inr ⟨true, D.toNat - 1, ?_⟩
    have : D = ((D.toNat - 1 + 1 : Nat) : Int) := by omega
    show (⟨0, D, []⟩ : Pt) = ⟨0, ((D.toNat - 1 + 1 : Nat) : Int), []⟩
    rw [← this]
  · obtain rfl : K = 0 := h1
    obtain rfl : D = 0 := h2
    exact .inl ⟨U, h3, rfl⟩
theorem gaps_unit (acc : List UInt8) (d : Bool) (n : Nat) (ps : List Pt) : gapsR acc (unitK d (n + 1) :: ps) = ((acc, d) :: List.replicate n ([], d) ++ (gapsR [] ps).1, (gapsR [] ps).2) := by
  cases d with
  | true => exact gaps_drop acc n ps
  | false => exact gaps_keep acc n ps
def accG (acc : List UInt8) : GSt → GSt
  | ([], l) => ([], acc ++ l)
  | ((u, d) :: x, l) => ((acc ++ u, d) :: x, l)
theorem accG_nil (g : GSt) : accG [] g = g := by
  obtain ⟨x, l⟩ := g
  cases x <;> rfl
theorem accG_more (a b : List UInt8) (g : GSt) : accG a (accG b g) = accG (a ++ b) g := by
  obtain ⟨x, l⟩ := g
  cases x <;> simp [accG]
theorem gaps_acc (ps : List Pt) (h : ∀ p ∈ ps, oneP p) : ∀ acc, gapsR acc ps = accG acc (gapsR [] ps) := by
  induction ps with
  | nil => intro acc; simp [gapsR, accG]
  | cons p ps ih =>
    intro acc
    have ih := ih fun q hq => h q (by simp [hq])
    rcases one_cases (h p (by simp)) with ⟨u, hu, rfl⟩ | ⟨d, n, rfl⟩
    · rw [gaps_put, gaps_put, ih, ih ([] ++ u), accG_more, List.nil_append]
    · rw [gaps_unit, gaps_unit]; simp [accG]

/-- Gap by gap. -/
def docG (eA eB : List UInt8 → NSt → NSt) (eU : Bool → Bool → NSt → NSt) : List (List UInt8 × Bool) → List UInt8 → List (List UInt8 × Bool) → List UInt8 → NSt → NSt
  | (u, d) :: x, xl, (v, e) :: y, yl, s => docG eA eB eU x xl y yl (eU d e (eB v (eA u s)))
  | [], xl, _, yl, s => eB yl (eA xl s)
  | _, xl, [], yl, s => eB yl (eA xl s)
def docS (eA eB : List UInt8 → NSt → NSt) (eU : Bool → Bool → NSt → NSt) (a b : GSt) (s : NSt) : NSt := docG eA eB eU a.1 a.2 b.1 b.2 s
def stepsU (eU : NSt → NSt) : Nat → NSt → NSt
  | 0, s => s
  | n + 1, s => stepsU eU n (eU s)

theorem docS_accA (eA eB : List UInt8 → NSt → NSt) (eU : Bool → Bool → NSt → NSt) (hA : ∀ u v s, eA (u ++ v) s = eA v (eA u s)) (acc : List UInt8) (a b : GSt) (s : NSt) (hl : a.1.length = b.1.length) : docS eA eB eU (accG acc a) b s = docS eA eB eU a b (eA acc s) := by
  obtain ⟨x, xl⟩ := a
  obtain ⟨y, yl⟩ := b
  cases x with
  | nil => cases y <;> simp [docS, accG, docG, hA]
  | cons c x =>
    cases y with
    | nil => simp at hl
    | cons e y => simp [docS, accG, docG, hA]
/-- Where nothing is put ahead in a. -/
def quietG (a : GSt) : Prop := match a with
  | ([], l) => l = []
  | ((u, _) :: _, _) => u = []
theorem docS_accB (eA eB : List UInt8 → NSt → NSt) (eU : Bool → Bool → NSt → NSt) (hA0 : ∀ s, eA [] s = s) (hB : ∀ u v s, eB (u ++ v) s = eB v (eB u s)) (acc : List UInt8) (a b : GSt) (s : NSt) (hl : a.1.length = b.1.length) (hq : quietG a) : docS eA eB eU a (accG acc b) s = docS eA eB eU a b (eB acc s) := by
  obtain ⟨x, xl⟩ := a
  obtain ⟨y, yl⟩ := b
  cases x with
  | nil =>
    obtain rfl : xl = [] := hq
    cases y with
    | nil => simp [docS, accG, docG, hA0, hB]
    | cons e y => simp at hl
  | cons c x =>
    cases y with
    | nil => simp at hl
    | cons e y =>
      obtain ⟨u, d⟩ := c
      obtain rfl : u = [] := hq
      simp [docS, accG, docG, hA0, hB]
theorem docS_units (eA eB : List UInt8 → NSt → NSt) (eU : Bool → Bool → NSt → NSt) (hA0 : ∀ s, eA [] s = s) (hB0 : ∀ s, eB [] s = s) (d e : Bool) : ∀ (k : Nat) (a b : GSt) (s : NSt), docS eA eB eU (List.replicate k ([], d) ++ a.1, a.2) (List.replicate k ([], e) ++ b.1, b.2) s = docS eA eB eU a b (stepsU (eU d e) k s)
  | 0, a, b, s => rfl
  | k + 1, a, b, s => by
    have := docS_units eA eB eU hA0 hB0 d e k a b (eU d e s)
    simpa [docS, docG, List.replicate_succ, hA0, hB0, stepsU] using this
/-- So many units off a first part. -/
theorem cut_unit (d : Bool) (n k : Nat) (hk : k ≤ n) : (cutP (unitK d (n + 1)) ((k : Int) + 1)).1 = unitK d (k + 1) ∧ ∀ ps, gapsR [] (unitK d (n + 1) :: ps) = (List.replicate (k + 1) ([], d) ++ (gapsR [] ((cutP (unitK d (n + 1)) ((k : Int) + 1)).2 ++ ps)).1, (gapsR [] ((cutP (unitK d (n + 1)) ((k : Int) + 1)).2 ++ ps)).2) := by
  have hl : lengthP (unitK d (n + 1)) = (n : Int) + 1 := by cases d <;> simp [lengthP, unitK]
  by_cases e : n = k
  · subst e
    have hc : cutP (unitK d (n + 1)) ((n : Int) + 1) = (unitK d (n + 1), []) := by unfold cutP; rw [if_pos hl]
    rw [hc]
    refine ⟨rfl, fun ps => ?_⟩
    rw [gaps_unit]
    simp [List.replicate_succ]
  · obtain ⟨m, rfl⟩ : ∃ m, n = k + (m + 1) := ⟨n - k - 1, by omega⟩
    have hc : cutP (unitK d (k + (m + 1) + 1)) ((k : Int) + 1) = (unitK d (k + 1), [unitK d (m + 1)]) := by
      unfold cutP
      rw [if_neg (by rw [hl]; omega)]
      cases d with
      | true =>
        have h1 : ¬ 0 < (unitK true (k + (m + 1) + 1)).keep := by simp [unitK]
        have h2 : 0 < (unitK true (k + (m + 1) + 1)).drop := by simp [unitK]; omega
        rw [if_neg h1, if_pos h2]
        simp [unitK]; omega
      | false =>
        have h1 : 0 < (unitK false (k + (m + 1) + 1)).keep := by simp [unitK]; omega
        rw [if_pos h1]
        simp [unitK]; omega
    rw [hc]
    refine ⟨rfl, fun ps => ?_⟩
    rw [List.singleton_append, gaps_unit, gaps_unit]
    have e2 : List.replicate (k + (m + 1)) (([] : List UInt8), d) = List.replicate k ([], d) ++ ([], d) :: List.replicate m ([], d) := by
      rw [← List.replicate_succ, List.replicate_append_replicate]
    rw [e2]
    simp [List.replicate_succ]

def runS (t : Pt × Pt → List Pt) (l : List (Pt × Pt)) (s : NSt) : NSt := l.foldl (fun s x => (t x).foldl addP s) s
def lensU (ps : List Pt) : Nat := (gapsR [] ps).1.length
theorem quiet_unit (d : Bool) (n : Nat) (ps : List Pt) : quietG (gapsR [] (unitK d (n + 1) :: ps)) := by
  rw [gaps_unit]; rfl
theorem put_isPut {u : List UInt8} (h : u ≠ []) : isPutP ⟨0, 0, u⟩ = true := by simp [isPutP, h]
theorem unit_isPut (d : Bool) (n : Nat) : isPutP (unitK d n) = false := by cases d <;> simp [isPutP, unitK]
def weight (ps : List Pt) : Nat := (ps.map fun p => (lengthP p).toNat).sum
theorem weight_cons (p : Pt) (ps : List Pt) : weight (p :: ps) = (lengthP p).toNat + weight ps := by simp [weight]
theorem weight_append (a b : List Pt) : weight (a ++ b) = weight a + weight b := by simp [weight]
theorem len_unit (d : Bool) (n : Nat) : lengthP (unitK d n) = (n : Int) := by cases d <;> simp [lengthP, unitK]
theorem cut_weight (d : Bool) (n k : Nat) (hk : k ≤ n) : weight (cutP (unitK d (n + 1)) ((k : Int) + 1)).2 = n - k := by
  have hl : lengthP (unitK d (n + 1)) = (n : Int) + 1 := by rw [len_unit]; simp
  unfold cutP
  by_cases e : n = k
  · subst e
    rw [if_pos hl]; simp [weight]
  · rw [if_neg (by rw [hl]; omega)]
    cases d with
    | true =>
      have h1 : ¬ 0 < (unitK true (n + 1)).keep := by simp [unitK]
      have h2 : 0 < (unitK true (n + 1)).drop := by simp [unitK]
      rw [if_neg h1, if_pos h2]
      simp [weight, lengthP, unitK]; omega
    | false =>
      have h1 : 0 < (unitK false (n + 1)).keep := by simp [unitK]
      rw [if_pos h1]
      simp [weight, lengthP, unitK]; omega

/-- Pair by pair, or gap by gap. -/
theorem side_gaps (t : Pt × Pt → List Pt) (eA eB : List UInt8 → NSt → NSt) (eU : Bool → Bool → NSt → NSt) (hA0 : ∀ s, eA [] s = s) (hB0 : ∀ s, eB [] s = s)
    (hA : ∀ u v s, eA (u ++ v) s = eA v (eA u s)) (hB : ∀ u v s, eB (u ++ v) s = eB v (eB u s))
    (tA : ∀ u s, u ≠ [] → (t (⟨0, 0, u⟩, noP)).foldl addP s = eA u s) (tB : ∀ u s, u ≠ [] → (t (noP, ⟨0, 0, u⟩)).foldl addP s = eB u s)
    (tU : ∀ d e k s, (t (unitK d (k + 1), unitK e (k + 1))).foldl addP s = stepsU (eU d e) (k + 1) s) :
    ∀ (f : Nat) (a b : List Pt) (s : NSt), (∀ p ∈ a, oneP p) → (∀ p ∈ b, oneP p) → lensU a = lensU b → weight a + weight b ≤ f →
      runS t (sideP isPutP isPutP f a b) s = docS eA eB eU (gapsR [] a) (gapsR [] b) s := by
  intro f
  induction f with
  | zero =>
    intro a b s ha hb hl hw
    have h0 : ∀ (l : List Pt), (∀ p ∈ l, oneP p) → weight l = 0 → l = [] := by
      intro l hl hw
      cases l with
      | nil => rfl
      | cons p l =>
        have := length_pos (hl p (by simp))
        rw [weight_cons] at hw
        omega
    obtain rfl := h0 a ha (by omega)
    obtain rfl := h0 b hb (by omega)
    simp [sideP, runS, docS, docG, gapsR, hA0, hB0]
  | succ f ih =>
    intro a b s ha hb hl hw
    cases a with
    | nil =>
      cases b with
      | nil => simp [sideP, runS, docS, docG, gapsR, hA0, hB0]
      | cons q b =>
        rcases one_cases (hb q (by simp)) with ⟨v, hv, rfl⟩ | ⟨e, m, rfl⟩
        · have hlq := length_pos (hb _ (List.mem_cons_self ..))
          rw [weight_cons] at hw
          have hb' : ∀ p ∈ b, oneP p := fun p hp => hb p (by simp [hp])
          unfold lensU at hl
          rw [gaps_put, gaps_acc b hb'] at hl ⊢
          have hl' : (gapsR [] ([] : List Pt)).1.length = (gapsR [] b).1.length := by
            rw [hl]; cases h : gapsR [] b with | mk x l => cases x <;> simp [accG]
          rw [docS_accB eA eB eU hA0 hB _ _ _ _ hl' rfl]
          rw [← ih [] b (eB ([] ++ v) s) (by simp) hb' hl' (by omega)]
          simp only [sideP, put_isPut hv, if_true, runS, List.foldl_cons, tB v s hv, List.nil_append]
        · unfold lensU at hl
          rw [gaps_unit] at hl
          simp [gapsR] at hl
    | cons p a =>
      have hlp := length_pos (ha p (by simp))
      have ha' : ∀ p ∈ a, oneP p := fun p hp => ha p (by simp [hp])
      rcases one_cases (ha p (by simp)) with ⟨u, hu, rfl⟩ | ⟨d, n, rfl⟩
      · rw [weight_cons] at hw
        unfold lensU at hl
        rw [gaps_put, gaps_acc a ha'] at hl ⊢
        have hl' : (gapsR [] a).1.length = (gapsR [] b).1.length := by
          rw [← hl]; cases h : gapsR [] a with | mk x l => cases x <;> simp [accG]
        rw [docS_accA eA eB eU hA _ _ _ _ hl']
        rw [← ih a b (eA ([] ++ u) s) ha' hb hl' (by omega)]
        simp only [sideP, put_isPut hu, if_true, runS, List.foldl_cons, tA u s hu, List.nil_append]
      · cases b with
        | nil =>
          unfold lensU at hl
          rw [gaps_unit] at hl
          simp [gapsR] at hl
        | cons q b =>
          have hb' : ∀ p ∈ b, oneP p := fun p hp => hb p (by simp [hp])
          have hlq := length_pos (hb q (by simp))
          rcases one_cases (hb q (by simp)) with ⟨v, hv, rfl⟩ | ⟨e, m, rfl⟩
          · rw [weight_cons _ b] at hw
            unfold lensU at hl
            rw [gaps_put, gaps_acc b hb'] at hl ⊢
            have hl' : (gapsR [] (unitK d (n + 1) :: a)).1.length = (gapsR [] b).1.length := by
              rw [hl]; cases h : gapsR [] b with | mk x l => cases x <;> simp [accG]
            rw [docS_accB eA eB eU hA0 hB _ _ _ _ hl' (quiet_unit d n a)]
            rw [← ih (unitK d (n + 1) :: a) b (eB ([] ++ v) s) ha hb' hl' (by omega)]
            simp only [sideP, unit_isPut, put_isPut hv, if_true, Bool.false_eq_true, if_false, runS, List.foldl_cons, tB v s hv, List.nil_append]
          · obtain ⟨k, hk⟩ : ∃ k, k = min n m := ⟨_, rfl⟩
            have l1 : lengthP (unitK d (n + 1)) = (n : Int) + 1 := by cases d <;> simp [lengthP, unitK]
            have l2 : lengthP (unitK e (m + 1)) = (m : Int) + 1 := by cases e <;> simp [lengthP, unitK]
            have hmin : min (lengthP (unitK d (n + 1))) (lengthP (unitK e (m + 1))) = (k : Int) + 1 := by rw [l1, l2]; omega
            obtain ⟨c1, c2⟩ := cut_unit d n k (by omega)
            obtain ⟨c3, c4⟩ := cut_unit e m k (by omega)
            obtain ⟨_, _, o1, _⟩ := cut_one (ha _ (List.mem_cons_self ..)) (n := (k : Int) + 1) (by omega) (by rw [l1]; omega)
            obtain ⟨_, _, o2, _⟩ := cut_one (hb _ (List.mem_cons_self ..)) (n := (k : Int) + 1) (by omega) (by rw [l2]; omega)
            have wA := cut_weight d n k (by omega)
            have wB := cut_weight e m k (by omega)
            rw [weight_cons, weight_cons, len_unit, len_unit] at hw
            have gA := c2 a
            have gB := c4 b
            have ho1 : ∀ p ∈ (cutP (unitK d (n + 1)) ((k : Int) + 1)).2 ++ a, oneP p := fun p hp => by
              rcases List.mem_append.1 hp with h | h
              · exact (o1 p h).1
              · exact ha' p h
            have ho2 : ∀ p ∈ (cutP (unitK e (m + 1)) ((k : Int) + 1)).2 ++ b, oneP p := fun p hp => by
              rcases List.mem_append.1 hp with h | h
              · exact (o2 p h).1
              · exact hb' p h
            have hl' : lensU ((cutP (unitK d (n + 1)) ((k : Int) + 1)).2 ++ a) = lensU ((cutP (unitK e (m + 1)) ((k : Int) + 1)).2 ++ b) := by
              unfold lensU at hl ⊢
              rw [gA, gB] at hl
              simp only [List.length_append, List.length_replicate] at hl
              omega
            rw [gA, gB, docS_units eA eB eU hA0 hB0 d e (k + 1), ← ih _ _ _ ho1 ho2 hl' (by rw [weight_append, weight_append, wA, wB]; omega)]
            simp only [sideP, unit_isPut, Bool.false_eq_true, if_false, runS, List.foldl_cons, hmin, c1, c3, tU]
end Go.Proofs.YtedonckeomccpabGreatDoor

namespace Go.Proofs.YtedonckeomccpabGreatDoor
set_option linter.unusedVariables false

def tPut (u : List UInt8) (s : NSt) : NSt := addP s ⟨0, 0, u⟩
def tKeep (v : List UInt8) (s : NSt) : NSt := addP s ⟨v.length, 0, []⟩
def tUnit (d e : Bool) (s : NSt) : NSt := if e then s else addP s (unitP d)
theorem tPut_nil (s : NSt) : tPut [] s = s := addP_none s
theorem tKeep_nil (s : NSt) : tKeep [] s = s := addP_none s
theorem tPut_more (u v : List UInt8) (s : NSt) : tPut (u ++ v) s = tPut v (tPut u s) := (addP_puts s u v).symm
theorem tKeep_more (u v : List UInt8) (s : NSt) : tKeep (u ++ v) s = tKeep v (tKeep u s) := by
  unfold tKeep
  cases u with
  | nil => simp [addP_none]
  | cons c u =>
    rw [addP_keeps s ((c :: u).length : Int) (v.length : Int) (by simp) (by omega), List.length_append]
    simp
theorem units_add (d : Bool) : ∀ (k : Nat) (s : NSt), stepsU (tUnit d false) (k + 1) s = addP s (unitK d (k + 1))
  | 0, s => by cases d <;> rfl
  | k + 1, s => by
    have e1 : stepsU (tUnit d false) (k + 1 + 1) s = stepsU (tUnit d false) (k + 1) (tUnit d false s) := rfl
    rw [e1, units_add d k]
    cases d with
    | true =>
      show addP (addP s ⟨0, 1, []⟩) ⟨0, ((k + 1 : Nat) : Int), []⟩ = addP s ⟨0, ((k + 1 + 1 : Nat) : Int), []⟩
      rw [addP_drops]
      congr 2
      omega
    | false =>
      show addP (addP s ⟨1, 0, []⟩) ⟨((k + 1 : Nat) : Int), 0, []⟩ = addP s ⟨((k + 1 + 1 : Nat) : Int), 0, []⟩
      rw [addP_keeps s 1 _ (by omega) (by omega)]
      congr 2
      omega
theorem units_none (d : Bool) : ∀ (k : Nat) (s : NSt), stepsU (tUnit d true) k s = s
  | 0, _ => rfl
  | k + 1, s => units_none d k s
theorem turnQ_put (u : List UInt8) (s : NSt) (h : u ≠ []) : (turnP (⟨0, 0, u⟩, noP)).foldl addP s = tPut u s := by simp [turnP, isPutP, noP, h, tPut]
theorem turnQ_keep (v : List UInt8) (s : NSt) (h : v ≠ []) : (turnP (noP, ⟨0, 0, v⟩)).foldl addP s = tKeep v s := by simp [turnP, isPutP, h, tKeep]
theorem turnQ_unit (d e : Bool) (k : Nat) (s : NSt) : (turnP (unitK d (k + 1), unitK e (k + 1))).foldl addP s = stepsU (tUnit d e) (k + 1) s := by
  cases e with
  | true =>
    rw [units_none]
    have h1 : isPutP (unitK true (k + 1)) = false := unit_isPut true (k + 1)
    have h2 : isPutP (unitK d (k + 1)) = false := unit_isPut d (k + 1)
    have h3 : isKeepP (unitK true (k + 1)) = false := by simp [isKeepP, unitK]
    simp [turnP, h1, h2, h3]
  | false =>
    rw [units_add]
    have h1 : isPutP (unitK false (k + 1)) = false := unit_isPut false (k + 1)
    have h3 : isKeepP (unitK false (k + 1)) = true := by simp [isKeepP, unitK]
    simp [turnP, h1, h3]

/-- The document's parts, added up. -/
theorem docT_true : ∀ (x : List (List UInt8 × Bool)) (xl : List UInt8) (y : List (List UInt8 × Bool)) (yl : List UInt8) (s : NSt), (docT true x xl y yl).foldl addP s = docG tPut tKeep tUnit x xl y yl s
  | [], xl, [], yl, s => rfl
  | [], xl, _ :: _, yl, s => rfl
  | _ :: _, xl, [], yl, s => rfl
  | (u, d) :: x, xl, (v, e) :: y, yl, s => by
    rw [docT, docG, List.foldl_append, docT_true x xl y yl]
    cases e <;> rfl
theorem docT_false : ∀ (x : List (List UInt8 × Bool)) (xl : List UInt8) (y : List (List UInt8 × Bool)) (yl : List UInt8) (s : NSt), (docT false x xl y yl).foldl addP s = docG tKeep tPut (fun e d => tUnit d e) y yl x xl s
  | [], xl, [], yl, s => rfl
  | [], xl, _ :: _, yl, s => rfl
  | _ :: _, xl, [], yl, s => rfl
  | (u, d) :: x, xl, (v, e) :: y, yl, s => by
    rw [docT, docG, List.foldl_append, docT_false x xl y yl]
    cases e <;> rfl

/-- Transform, a's first. -/
theorem turn_first (f : Nat) (a b : List Pt) (s : NSt) (ha : ∀ p ∈ a, oneP p) (hb : ∀ p ∈ b, oneP p) (hl : lensU a = lensU b) (hw : weight a + weight b ≤ f) :
    runS turnP (sideP isPutP isPutP f a b) s = (docT true (gapsR [] a).1 (gapsR [] a).2 (gapsR [] b).1 (gapsR [] b).2).foldl addP s := by
  rw [docT_true]
  exact side_gaps turnP tPut tKeep tUnit tPut_nil tKeep_nil tPut_more tKeep_more turnQ_put turnQ_keep turnQ_unit f a b s ha hb hl hw
/-- Transform, the other's first. -/
theorem turn_second (f : Nat) (a b : List Pt) (s : NSt) (ha : ∀ p ∈ a, oneP p) (hb : ∀ p ∈ b, oneP p) (hl : lensU a = lensU b) (hw : weight a + weight b ≤ f) :
    runS (fun x => turnP (x.2, x.1)) (sideP isPutP isPutP f b a) s = (docT false (gapsR [] a).1 (gapsR [] a).2 (gapsR [] b).1 (gapsR [] b).2).foldl addP s := by
  rw [docT_false]
  exact side_gaps (fun x => turnP (x.2, x.1)) tKeep tPut (fun e d => tUnit d e) tKeep_nil tPut_nil tKeep_more tPut_more (fun v s h => turnQ_keep v s h) (fun u s h => turnQ_put u s h) (fun e d k s => turnQ_unit d e k s) f b a s hb ha hl.symm (by omega)
end Go.Proofs.YtedonckeomccpabGreatDoor

namespace Go.Proofs.YtedonckeomccpabGreatDoor
set_option linter.unusedVariables false

structure OneS (s : NSt) : Prop where
  out : ∀ p ∈ s.out, oneP p
  drop : 0 ≤ s.drop
theorem tell_one {s : NSt} (h : OneS s) : ∀ p ∈ tellP s, oneP p := by
  intro p hp
  unfold tellP at hp
  rcases List.mem_append.1 hp with hp | hp
  · exact h.out p hp
  · rcases List.mem_append.1 hp with hp | hp
    · split at hp
      · simp at hp
      · rename_i hne
        rw [List.mem_singleton.1 hp]
        exact .inr (.inr ⟨rfl, rfl, hne⟩)
    · split at hp
      · simp at hp
      · rename_i hne
        rw [List.mem_singleton.1 hp]
        have := h.drop
        exact .inr (.inl ⟨rfl, by show 0 < s.drop; omega, rfl⟩)
theorem push_one {l : List Pt} (h : ∀ p ∈ l, oneP p) {k : Int} (hk : 0 < k) : ∀ p ∈ pushKeep l k, oneP p := by
  intro p hp
  unfold pushKeep at hp
  have hnew : oneP (⟨k, 0, []⟩ : Pt) := .inl ⟨hk, rfl, rfl⟩
  cases hq : l.getLast? with
  | none =>
    rw [hq] at hp
    simp only [List.mem_append, List.mem_singleton] at hp
    rcases hp with hp | rfl
    · exact h p hp
    · exact hnew
  | some q =>
    rw [hq] at hp
    have hql : q ∈ l := List.mem_of_getLast? hq
    simp only at hp
    split at hp
    · rename_i h0
      simp only [List.mem_append, List.mem_singleton] at hp
      rcases hp with hp | rfl
      · exact h p (List.dropLast_subset l hp)
      · rcases h q hql with ⟨h1, h2, h3⟩ | ⟨h1, _, _⟩ | ⟨h1, _, _⟩
        · exact .inl ⟨by show 0 < q.keep + k; omega, h2, h3⟩
        · omega
        · omega
    · simp only [List.mem_append, List.mem_singleton] at hp
      rcases hp with hp | rfl
      · exact h p hp
      · exact hnew
theorem add_one {s : NSt} (h : OneS s) (p : Pt) (hk : 0 ≤ p.keep) (hd : 0 ≤ p.drop) : OneS (addP s p) := by
  unfold addP
  have h' : OneS ⟨s.out, s.put ++ p.put, s.drop + p.drop⟩ := ⟨h.out, by have := h.drop; show 0 ≤ s.drop + p.drop; omega⟩
  split
  · exact h'
  · rename_i hk0
    exact ⟨push_one (tell_one h') (by omega), by show (0 : Int) ≤ 0; omega⟩
theorem fold_one (ps : List Pt) (h : ∀ p ∈ ps, 0 ≤ p.keep ∧ 0 ≤ p.drop) : ∀ s, OneS s → OneS (ps.foldl addP s) := by
  induction ps with
  | nil => exact fun s hs => hs
  | cons p ps ih => exact fun s hs => ih (fun q hq => h q (by simp [hq])) _ (add_one hs p (h p (by simp)).1 (h p (by simp)).2)
theorem norm_one (ps : List Pt) (h : ∀ p ∈ ps, 0 ≤ p.keep ∧ 0 ≤ p.drop) : ∀ p ∈ normP ps, oneP p :=
  tell_one (fold_one ps h nst0 ⟨by simp [nst0], by simp [nst0]⟩)

/-- How long it is, is kept. -/
def longP (ps : List Pt) : Int := (ps.map lenP).sum
def longS (s : NSt) : Int := longP s.out + s.drop
theorem long_append (a b : List Pt) : longP (a ++ b) = longP a + longP b := by simp [longP]
theorem tell_long (s : NSt) : longP (tellP s) = longS s := by
  unfold tellP longS
  rw [long_append, long_append]
  by_cases hp : s.put = [] <;> by_cases hd : s.drop = 0 <;> simp [longP, lenP, hp, hd]
theorem push_long (l : List Pt) (k : Int) : longP (pushKeep l k) = longP l + k := by
  unfold pushKeep
  cases hq : l.getLast? with
  | none => simp [longP, lenP]
  | some q =>
    simp only
    split
    · have e : l = l.dropLast ++ [q] := by
        have hne : l ≠ [] := by rintro rfl; simp at hq
        have := List.dropLast_concat_getLast hne
        rw [List.getLast?_eq_some_getLast hne] at hq
        rw [Option.some.inj hq] at this
        exact this.symm
      conv => rhs; rw [e]
      rw [long_append, long_append]
      simp [longP, lenP]
      omega
    · rw [long_append]; simp [longP, lenP]
theorem add_long (s : NSt) (p : Pt) : longS (addP s p) = longS s + lenP p := by
  unfold addP
  split
  · rename_i h
    simp [longS, lenP, h]
    omega
  · show longP (pushKeep _ _) + 0 = _
    rw [push_long, tell_long]
    simp [longS, lenP]
    omega
theorem fold_long (ps : List Pt) : ∀ s, longS (ps.foldl addP s) = longS s + longP ps := by
  induction ps with
  | nil => intro s; simp [longP]
  | cons p ps ih =>
    intro s
    rw [List.foldl_cons, ih, add_long]
    simp [longP]
    omega
theorem norm_long (ps : List Pt) : longP (normP ps) = longP ps := by
  unfold normP
  rw [tell_long, fold_long]
  simp [longS, nst0, longP]
theorem lensU_long (ps : List Pt) (h : ∀ p ∈ ps, 0 ≤ p.keep ∧ 0 ≤ p.drop) : (lensU ps : Int) = longP ps := by
  unfold lensU
  have key : ∀ (ps : List Pt), (∀ p ∈ ps, 0 ≤ p.keep ∧ 0 ≤ p.drop) → ∀ acc, ((gapsR acc ps).1.length : Int) = longP ps := by
    intro ps
    induction ps with
    | nil => intro _ acc; simp [gapsR, longP]
    | cons p ps ih =>
      intro h acc
      have h1 := spreadP_len ([], acc) p (h p (by simp)).1 (h p (by simp)).2
      have h2 := ih (fun q hq => h q (by simp [hq])) (spreadP ([], acc) p).2
      simp only [gapsR, List.length_append, longP, List.map_cons, List.sum_cons] at h2 ⊢
      push_cast
      simp only [List.length_nil] at h1
      omega
  exact key ps h []
end Go.Proofs.YtedonckeomccpabGreatDoor

namespace Go.Proofs.YtedonckeomccpabGreatDoor
set_option linter.unusedVariables false

/-- A part in another unit. -/
def unit1 (n : Int) (q : Pt) : Pt := if 0 < q.keep then ⟨n, 0, []⟩ else if 0 < q.drop then ⟨0, n, []⟩ else ⟨0, 0, q.put⟩
/-- How much is ahead of a place, as runes. -/
def upTo (rs : List Nat) (u a : Int) : List Nat := find (reachesBy u a) [] rs
def onEdge (rs : List Nat) (u a : Int) : Bool := decide (by_ u (upTo rs u a) = a)
/-- The parts in another unit, and whether all end between two runes. -/
def turnZ (rs : List Nat) (u v : Int) : Int → List Pt → List Pt × Bool
  | _, [] => ([], true)
  | a, q :: qs => if onEdge rs u (a + lenP q) then
      (unit1 (by_ v (upTo rs u (a + lenP q)) - by_ v (upTo rs u a)) q :: (turnZ rs u v (a + lenP q) qs).1, (turnZ rs u v (a + lenP q) qs).2)
    else ([], false)
theorem C2_one (r : Nat) : 1 ≤ C2 [r] := by
  unfold C2 sum2 wide
  simp only [List.map_cons, List.map_nil, List.sum_cons, List.sum_nil, Int.add_zero]
  unfold cH
  split <;> omega
theorem by_one {u : Int} (hu : unitOk u) (r : Nat) : 1 ≤ by_ u [r] := by
  unfold by_
  rcases hu with rfl | rfl | rfl
  · rw [if_pos rfl, C1_len]
    have := List.length_pos_iff.2 (enc_ne r)
    have e : encs [r] = enc r := by simp [encs]
    rw [e]; omega
  · rw [if_neg (by decide), if_pos rfl]
    exact C2_one r
  · rw [if_neg (by decide), if_neg (by decide), if_pos rfl]
    show (1 : Int) ≤ ((1 : Nat) : Int); omega
/-- More runes, more of each unit. -/
theorem by_mono {u : Int} (hu : unitOk u) : ∀ (rs : List Nat) (i j : Nat), i < j → j ≤ rs.length → by_ u (rs.take i) < by_ u (rs.take j)
  | rs, i, j, h, hj => by
    have e : rs.take j = rs.take i ++ (rs.drop i).take (j - i) := by rw [← List.take_add]; congr 1; omega
    rw [e, by_append]
    have hne : (rs.drop i).take (j - i) ≠ [] := fun e => by
      have := congrArg List.length e
      rw [List.length_take, List.length_drop, List.length_nil] at this
      omega
    cases hx : (rs.drop i).take (j - i) with
    | nil => exact absurd hx hne
    | cons r x =>
      have e2 : r :: x = [r] ++ x := rfl
      rw [e2, by_append]
      have := by_one hu r
      have := by_pos u x
      omega
/-- What is ahead of a place: as few runes as reach it. -/
theorem find_least (u a : Int) : ∀ (rs pre : List Nat), a ≤ by_ u (pre ++ rs) → ∃ k, k ≤ rs.length ∧ find (reachesBy u a) pre rs = pre ++ rs.take k ∧ a ≤ by_ u (pre ++ rs.take k) ∧ ∀ i, i < k → by_ u (pre ++ rs.take i) < a
  | [], pre, h => by
    refine ⟨0, Nat.le_refl _, ?_, by simpa using h, fun i hi => absurd hi (Nat.not_lt_zero _)⟩
    have : reachesBy u a pre = true := decide_eq_true (by simpa using h)
    unfold find
    rw [if_pos this]; simp
  | r :: rs, pre, h => by
    by_cases h0 : a ≤ by_ u pre
    · refine ⟨0, Nat.zero_le _, ?_, by simpa using h0, fun i hi => absurd hi (Nat.not_lt_zero _)⟩
      have : reachesBy u a pre = true := decide_eq_true h0
      unfold find
      rw [if_pos this]; simp
    · obtain ⟨k, k1, k2, k3, k4⟩ := find_least u a rs (pre ++ [r]) (by simpa using h)
      have e : ∀ i, pre ++ (r :: rs).take (i + 1) = (pre ++ [r]) ++ rs.take i := fun i => by simp
      refine ⟨k + 1, by simp; omega, ?_, by rw [e]; exact k3, fun i hi => ?_⟩
      · rw [e, ← k2]
        have hf : reachesBy u a pre = false := decide_eq_false h0
        conv => lhs; unfold find
        rw [hf, if_neg (by decide), seek]
        conv => rhs; unfold find
        split
        · rfl
        · simp
      · cases i with
        | zero => rw [List.take_zero, List.append_nil]; omega
        | succ i => rw [e]; exact k4 i (by omega)
/-- What is ahead, as the first runes. -/
theorem upTo_least (rs : List Nat) (u a : Int) (h : a ≤ by_ u rs) : ∃ k, k ≤ rs.length ∧ upTo rs u a = rs.take k ∧ a ≤ by_ u (rs.take k) ∧ ∀ i, i < k → by_ u (rs.take i) < a := by
  obtain ⟨k, h1, h2, h3, h4⟩ := find_least u a rs [] (by simpa using h)
  exact ⟨k, h1, by unfold upTo; simpa using h2, by simpa using h3, fun i hi => by simpa using h4 i hi⟩
/-- The first of the places at which it is just so much; there is one where what is ahead is so much. -/
theorem edge_first {u : Int} (hu : unitOk u) {rs : List Nat} {a : Int} (h : a ≤ by_ u rs) :
    (onEdge rs u a = true → ∃ k, k ≤ rs.length ∧ upTo rs u a = rs.take k ∧ by_ u (rs.take k) = a ∧ ∀ i, i < k → by_ u (rs.take i) ≠ a) ∧
    (onEdge rs u a = false → ∀ i, i ≤ rs.length → by_ u (rs.take i) ≠ a) := by
  obtain ⟨k, h1, h2, h3, h4⟩ := upTo_least rs u a h
  unfold onEdge
  rw [h2]
  refine ⟨fun e => ⟨k, h1, h2 ▸ rfl, of_decide_eq_true e, fun i hi => by have := h4 i hi; omega⟩, fun e i hi e2 => ?_⟩
  have hne : by_ u (rs.take k) ≠ a := of_decide_eq_false e
  by_cases hik : i < k
  · have := h4 i hik; omega
  · by_cases hke : k = i
    · subst hke; exact hne e2
    · have := by_mono hu rs k i (by omega) hi
      omega
theorem upTo_le {u v : Int} (rs : List Nat) {a : Int} (h : a ≤ by_ u rs) : by_ v (upTo rs u a) ≤ by_ v rs := by
  obtain ⟨k, h1, h2, _, _⟩ := upTo_least rs u a h
  rw [h2]
  have e : rs = rs.take k ++ rs.drop k := (List.take_append_drop k rs).symm
  have : by_ v rs = by_ v (rs.take k) + by_ v (rs.drop k) := by rw [← by_append, List.take_append_drop]
  have := by_pos v (rs.drop k)
  omega
theorem upTo_mono {u v : Int} (rs : List Nat) {a b : Int} (hab : a ≤ b) (h : b ≤ by_ u rs) : by_ v (upTo rs u a) ≤ by_ v (upTo rs u b) := by
  obtain ⟨k, k1, k2, k3, k4⟩ := upTo_least rs u a (by omega)
  obtain ⟨j, j1, j2, j3, j4⟩ := upTo_least rs u b h
  rw [k2, j2]
  have hkj : k ≤ j := by
    by_cases hh : k ≤ j
    · exact hh
    · have := k4 j (by omega); omega
  have e : rs.take j = rs.take k ++ (rs.drop k).take (j - k) := by rw [← List.take_add]; congr 1; omega
  rw [e, by_append]
  have := by_pos v ((rs.drop k).take (j - k))
  omega
theorem upTo_zero (rs : List Nat) (u : Int) : upTo rs u 0 = [] := find_zero u rs
end Go.Proofs.YtedonckeomccpabGreatDoor

namespace Go.Proofs.YtedonckeomccpabGreatDoor
open Go.RowKit
set_option linter.unusedVariables false
attribute [local go_sem] Oper.semAt_some

theorem inB_unit (u : Int) : inB u 1 3 = true ↔ unitOk u := by
  unfold inB unitOk
  rw [decide_eq_true_iff]
  constructor
  · intro h; omega
  · intro h; omega
set_option maxHeartbeats 1000000 in
theorem refAhead_bad (s : ByteArray) (u a : Int) (hu : ¬ unitOk u) (w : World) :
    Calls Tryz.prog 37 #[.string s, .int .i64 u, .int .i64 a] w fun e w' => e = .returned (.tuple #[cntV [], .int .i64 1]) ∧ Below w.heap.size w w' := by
  have hb : inB u 1 3 = false := Bool.eq_false_iff.2 fun e => hu ((inB_unit u).1 e)
  have cI := fun wx => in_any u 1 3 wx
  rw [hb] at cI
  have hC : cntV [] = .agg #[.int .i64 0, .int .i64 0, .int .i64 0, .int .i64 0] := rfl
  have HB : Hid (Below w.heap.size w (w.alloc (.cells #[.int .i64 0, .int .i64 0, .int .i64 0, .int .i64 0] 25))) := (Below.refl _ w).alloc (Nat.le_refl _) _
  rw [hC]
  clear hu hb hC
  go_enter Tryz.func37, Tryz.ntmps37
  go_wp2_with (first
    | (go_at_call 35; refine (cI _).mono ?_; rintro e w1 ⟨rfl, hw1⟩; obtain rfl := hw1.symm)
    | fail)
  refine bodyPost_ret (v := .tuple #[.agg #[.int .i64 0, .int .i64 0, .int .i64 0, .int .i64 0], .int .i64 1]) (by simp [results, Tryz.results37, go_sem]) rfl ⟨rfl, HB.out⟩

def raI (w W : World) (g c : Nat) (rs : List Nat) (u a : Int) (k : Nat) (wr : World) : Prop :=
  k ≤ rs.length + 1 ∧ (∀ i, i < k → by_ u (rs.take i) ≠ a) ∧ Below W.heap.size W wr
set_option maxRecDepth 100000 in
set_option maxHeartbeats 8000000 in
theorem refAhead_any (s : ByteArray) (rs : List Nat) (u a : Int) (hr : ∀ r ∈ rs, isRune r) (he : encs rs = s.data.toList) (hs : s.size < 1000000) (hu : unitOk u) (h0 : 0 ≤ a) (h1 : a ≤ by_ u rs) (w : World) :
    Calls Tryz.prog 37 #[.string s, .int .i64 u, .int .i64 a] w fun e w' => e = .returned (.tuple #[cntV (if onEdge rs u a then upTo rs u a else []), .int .i64 (if onEdge rs u a then 0 else 10)]) ∧ Below w.heap.size w w' := by
  have hC1 : C1 rs = s.size := by rw [C1_len, he, ← Lib.size_eq]
  have hru : inB u 1 3 = true := (inB_unit u).2 hu
  have hra : inB a 0 (by_ u rs) = true := decide_eq_true ⟨h0, h1⟩
  have hu0 : -9223372036854775808 ≤ u ∧ u < 9223372036854775808 := by unfold unitOk at hu; omega
  have cI1 := fun wx => in_any u 1 3 wx
  rw [hru] at cI1
  have cI2 := fun wx => in_any a 0 (by_ u rs) wx
  rw [hra] at cI2
  have cC : Hid (∀ wx, Calls Tryz.prog 6 #[.string s] wx fun e w' => e = .returned (.tuple #[cntV rs, .agg #[.int .i64 0, .int .i64 (-1)]]) ∧ Below wx.heap.size wx w') := fun wx => refCount_of s rs hr he (by omega) wx
  have cN : Hid (∀ wx, Calls Tryz.prog 28 #[cntV rs, .int .i64 u] wx fun e w' => e = .returned (.int .i64 (by_ u rs)) ∧ Below wx.heap.size wx w') := fun wx => refIn_any u rs hu0.1 hu0.2 (by omega) wx
  have hsc := scan_encs rs hr
  rw [he] at hsc
  have hro : runesOf s.data.toList = rs := by
    unfold runesOf
    rw [hsc]
    simp [wide, List.map_map, Function.comp_def]
  have cE : Hid (∀ wx, Calls Tryz.prog 76 #[.string s] wx fun e w' => ∃ v, e = .returned v ∧ w'.ownsRow wx.heap.size 25 4 v (rs.length + 1) (edges rs (rs.length + 1)) ∧ Below wx.heap.size wx w') := fun wx => by
    have := refEdges_any s (by omega) wx (by rw [hsc])
    rw [hro] at this
    exact this
  obtain ⟨e1, e2⟩ := edge_first hu h1
  have HE1 : Hid _ := e1
  have HE2 : Hid _ := e2
  have HR : Hid (∀ r ∈ rs, isRune r) := hr
  have cT : Hid (∀ i wx, Calls Tryz.prog 28 #[cntV (rs.take i), .int .i64 u] wx fun e w' => e = .returned (.int .i64 (by_ u (rs.take i))) ∧ Below wx.heap.size wx w') := fun i wx => refIn_any u (rs.take i) hu0.1 hu0.2 (by
    have e : C1 rs = C1 (rs.take i) + C1 (rs.drop i) := by rw [← C1_append, List.take_append_drop]
    have := C1_pos (rs.drop i)
    omega) wx
  have hrl : rs.length < 1000000 := by have := C3_le rs; unfold C3 at this; omega
  have hb0 : Below w.heap.size w (w.alloc (.cells #[.int .i64 0, .int .i64 0, .int .i64 0, .int .i64 0] 25)) := (Below.refl _ w).alloc (Nat.le_refl _) _
  have HB0 : Hid _ := hb0
  have HK0 : Hid (counted (w.alloc (.cells #[.int .i64 0, .int .i64 0, .int .i64 0, .int .i64 0] 25)) w.heap.size 0 0 0 0) := counted_new w 0 0 0 0 25
  obtain ⟨Bu, hBu⟩ : ∃ Bu, by_ u rs = Bu := ⟨_, rfl⟩
  rw [hBu] at cI2 cN
  obtain ⟨XA, hXA⟩ : ∃ XA, (if onEdge rs u a then upTo rs u a else []) = XA := ⟨_, rfl⟩
  obtain ⟨EA, hEA⟩ : ∃ EA : Int, (if onEdge rs u a then 0 else 10) = EA := ⟨_, rfl⟩
  have HXA : Hid _ := hXA
  have HEA : Hid _ := hEA
  rw [hXA, hEA]
  clear hXA hEA
  unfold cntV at cC cN cT
  clear hr he hs hu h0 h1 hC1 hru hra hu0 hsc hro e1 e2 hb0 hBu
  go_enter Tryz.func37, Tryz.ntmps37
  go_wp2_with (first
    | (have _ := HB2; go_at_call 35; refine (cI2 _).mono ?_; rintro e w1 ⟨rfl, hw1⟩; obtain rfl := hw1.symm)
    | (go_at_call 35; refine (cI1 _).mono ?_; rintro e w1 ⟨rfl, hw1⟩; obtain rfl := hw1.symm)
    | (go_at_call 6; refine (cC.out _).mono ?_; rintro e w1 ⟨rfl, hb1⟩; have HB1 : Hid (Below w.heap.size w w1) := HB0.out.trans (hb1.mono HB0.out.size); have HK1 : Hid (counted w1 w.heap.size 0 0 0 0) := counted_below HK0.out hb1; have hbx := (Below.refl w1.heap.size w1).alloc (Nat.le_refl _) (.cells #[.int .i64 (C1 rs), .int .i64 (C2 rs), .int .i64 (C3 rs), .int .i64 (C4 rs)] 25); have hby := hbx.alloc hbx.size (.cells #[.int .i64 0, .int .i64 (-1)] 28); have HBY : Hid (Below w1.heap.size w1 ((w1.alloc (.cells #[.int .i64 (C1 rs), .int .i64 (C2 rs), .int .i64 (C3 rs), .int .i64 (C4 rs)] 25)).alloc (.cells #[.int .i64 0, .int .i64 (-1)] 28))) := hby; clear hb1 hbx hby)
    | (go_at_call 28; refine (cN.out _).mono ?_; rintro e w2 ⟨rfl, hb2⟩; have HB2 : Hid (Below w.heap.size w w2) := HB1.out.trans ((HBY.out.trans (hb2.mono HBY.out.size)).mono HB1.out.size); have HK2 : Hid (counted w2 w.heap.size 0 0 0 0) := counted_below HK1.out (HBY.out.trans (hb2.mono HBY.out.size)); clear hb2)
    | (go_at_call 76; refine (cE.out _).mono ?_; rintro e w3 ⟨v3, rfl, ho3, hb3⟩; obtain ⟨g, c3, rfl, hg1, hg2⟩ := own_pos ho3 (Nat.succ_pos _); have HO3 : Hid (w3.ownsRow w2.heap.size 25 4 (.slice (some ⟨g, 0, none⟩) (rs.length + 1) c3) (rs.length + 1) (edges rs (rs.length + 1))) := ho3; have HB3 : Hid (Below w.heap.size w w3) := HB2.out.trans (hb3.mono HB2.out.size); have HK3 : Hid (counted w3 w.heap.size 0 0 0 0) := counted_below HK2.out hb3; clear ho3 hb3)
    | fail)
  clear cI1 cI2 cC cN cE HB0 HB1 HBY HB2 HK0 HK1 HK2
  go_loopw [31] (fun i wr => ∃ k : Nat, i = .int .i64 k ∧ k ≤ rs.length + 1 ∧ (∀ j, j < k → by_ u (rs.take j) ≠ a) ∧ Below w3.heap.size w3 wr) (fun i _ => rs.length + 1 - (intOf i).toNat)
  case atStart => exact ⟨0, rfl, Nat.zero_le _, fun j hj => absurd hj (Nat.not_lt_zero _), Below.refl _ _⟩
  case round =>
    obtain ⟨k, rfl, hk, hno, hbw⟩ := hrel
    have HNO : Hid (∀ j, j < k → by_ u (rs.take j) ≠ a) := hno
    have HBW : Hid (Below w3.heap.size w3 wr) := hbw
    have hKr := counted_below HK3.out hbw
    have HKR : Hid (counted wr w.heap.size 0 0 0 0) := hKr
    have HWR : Hid (Below w.heap.size w wr) := HB3.out.trans (hbw.mono HB3.out.size)
    clear hno hKr
    by_cases hlt : k < rs.length + 1
    · have hkl : (k : Int) < (rs.length : Int) + 1 := by omega
      have hown := own_below HO3.out hbw
      have hec := edge_cnt HR.out (i := k) (by omega)
      have g0 : wr.cell? ⟨g, k * 4, none⟩ = some (.int .i64 (C1 (rs.take k))) := edge_cell hown k 0 hlt (by omega) (by rw [hec]; rfl)
      have g1 : wr.cell? ⟨g, k * 4 + 1, none⟩ = some (.int .i64 (C2 (rs.take k))) := edge_cell hown k 1 hlt (by omega) (by rw [hec]; rfl)
      have g2 : wr.cell? ⟨g, k * 4 + 2, none⟩ = some (.int .i64 (C3 (rs.take k))) := edge_cell hown k 2 hlt (by omega) (by rw [hec]; rfl)
      have g3 : wr.cell? ⟨g, k * 4 + 3, none⟩ = some (.int .i64 (C4 (rs.take k))) := edge_cell hown k 3 hlt (by omega) (by rw [hec]; rfl)
      have hbx : Below wr.heap.size wr (wr.alloc (.cells #[.int .i64 (C1 (rs.take k)), .int .i64 (C2 (rs.take k)), .int .i64 (C3 (rs.take k)), .int .i64 (C4 (rs.take k))] 25)) := (Below.refl _ _).alloc (Nat.le_refl _) _
      have HBX : Hid (Below wr.heap.size wr (wr.alloc (.cells #[.int .i64 (C1 (rs.take k)), .int .i64 (C2 (rs.take k)), .int .i64 (C3 (rs.take k)), .int .i64 (C4 (rs.take k))] 25))) := hbx
      have HCX : Hid (counted (wr.alloc (.cells #[.int .i64 (C1 (rs.take k)), .int .i64 (C2 (rs.take k)), .int .i64 (C3 (rs.take k)), .int .i64 (C4 (rs.take k))] 25)) wr.heap.size (C1 (rs.take k)) (C2 (rs.take k)) (C3 (rs.take k)) (C4 (rs.take k))) := counted_new wr _ _ _ _ _
      have cK := fun wx => cT.out k wx
      have CK : Hid (∀ wx, Calls Tryz.prog 28 #[.agg #[.int .i64 (C1 (rs.take k)), .int .i64 (C2 (rs.take k)), .int .i64 (C3 (rs.take k)), .int .i64 (C4 (rs.take k))], .int .i64 u] wx fun e w' => e = .returned (.int .i64 (by_ u (rs.take k))) ∧ Below wx.heap.size wx w') := cK
      by_cases heq : by_ u (rs.take k) = a
      · have HEQ : Hid (onEdge rs u a = true ∧ upTo rs u a = rs.take k) := by
          show onEdge rs u a = true ∧ upTo rs u a = rs.take k
          cases hE : onEdge rs u a with
          | false => exact absurd heq (HE2.out hE k (by omega))
          | true =>
            obtain ⟨j, j1, j2, j3, j4⟩ := HE1.out hE
            have : j = k := by
              by_cases h1 : j < k
              · exact absurd j3 (HNO.out j h1)
              · by_cases h2 : k < j
                · exact absurd heq (j4 k h2)
                · omega
            subst this
            exact ⟨rfl, j2⟩
        rw [heq] at CK
        clear hown hec hbx cK heq hbw HNO
        go_wp2_with (first
          | (go_at_call 28; refine (CK.out _).mono ?_; rintro e w5 ⟨rfl, hb5⟩; have hg := HBX.out.trans (hb5.mono HBX.out.size); have HB5 : Hid (Below w.heap.size w w5) := HWR.out.trans (hg.mono HWR.out.size); have HK5 : Hid (counted w5 w.heap.size 0 0 0 0) := counted_below HKR.out hg; have hC5 := counted_below HCX.out hb5; have HC5 : Hid _ := hC5; obtain ⟨⟨m0, m1, m2, m3⟩, _⟩ := hC5; obtain ⟨⟨z0, z1, z2, z3⟩, y0, y1, y2, y3⟩ := counted_below HKR.out hg; clear hb5 hg)
          | fail)
        have hset := counted_set (m1 := C1 (rs.take k)) (m2 := C2 (rs.take k)) (m3 := C3 (rs.take k)) (m4 := C4 (rs.take k)) HK5.out
        obtain ⟨⟨s0, s1, s2, s3⟩, _⟩ := hset
        refine bodyPost_ret (v := .tuple #[.agg #[.int .i64 (C1 (rs.take k)), .int .i64 (C2 (rs.take k)), .int .i64 (C3 (rs.take k)), .int .i64 (C4 (rs.take k))], .int .i64 0]) (by simp [results, Tryz.results37, go_sem, s0, s1, s2, s3]) rfl ⟨?_, below_set4 HB5.out (Nat.le_refl _) _ _ _ _⟩
        rw [← HXA.out, ← HEA.out, HEQ.out.1, HEQ.out.2]; rfl
      · have hne : (by_ u (rs.take k) == a) = false := beq_eq_false_iff_ne.2 heq
        have HNE : Hid (by_ u (rs.take k) ≠ a) := heq
        obtain ⟨bx, hbxe⟩ : ∃ bx, by_ u (rs.take k) = bx := ⟨_, rfl⟩
        rw [hbxe] at CK hne
        clear hown hec hbx cK heq hbw hbxe
        go_wp2_with (first
          | (go_at_call 28; refine (CK.out _).mono ?_; rintro e w5 ⟨rfl, hb5⟩; have hg := HBX.out.trans (hb5.mono HBX.out.size); have HB5 : Hid (Below w3.heap.size w3 w5) := HBW.out.trans (hg.mono HBW.out.size); clear hb5 hg)
          | fail)
        go_roundw
        case rel =>
          refine ⟨k + 1, by go_num, by omega, fun j hj => ?_, HB5.out⟩
          by_cases h1 : j = k
          · subst h1; exact HNE.out
          · exact HNO.out j (by omega)
        case measure => simp [intOf]; omega
    · obtain rfl : k = rs.length + 1 := by omega
      have hkl : ¬ ((rs.length + 1 : Nat) : Int) < (rs.length : Int) + 1 := by omega
      have HEQ : Hid (onEdge rs u a = false) := by
        show onEdge rs u a = false
        cases hE : onEdge rs u a with
        | false => rfl
        | true =>
          obtain ⟨j, j1, j2, j3, j4⟩ := HE1.out hE
          exact absurd j3 (HNO.out j (by omega))
      clear hbw HNO
      obtain ⟨⟨z0, z1, z2, z3⟩, y0, y1, y2, y3⟩ := HKR.out
      go_wp2
      have hset := counted_set (m1 := 0) (m2 := 0) (m3 := 0) (m4 := 0) HKR.out
      obtain ⟨⟨s0, s1, s2, s3⟩, _⟩ := hset
      refine bodyPost_ret (v := .tuple #[.agg #[.int .i64 0, .int .i64 0, .int .i64 0, .int .i64 0], .int .i64 10]) (by simp [results, Tryz.results37, go_sem, s0, s1, s2, s3]) rfl ⟨?_, below_set4 HWR.out (Nat.le_refl _) _ _ _ _⟩
      rw [← HXA.out, ← HEA.out, HEQ.out]; rfl
end Go.Proofs.YtedonckeomccpabGreatDoor

namespace Go.Proofs.YtedonckeomccpabGreatDoor
open Go.RowKit
set_option linter.unusedVariables false

/-- A part's cells, an operation's cells. -/
def partCells (p : Pt) : List Value := [.int .i64 p.keep, .int .i64 p.drop, .string ⟨p.put.toArray⟩]
def cellsP (l : List Pt) : List Value := l.flatMap partCells
theorem cellsP_snoc (l : List Pt) (p : Pt) : cellsP (l ++ [p]) = cellsP l ++ partCells p := by simp [cellsP]
theorem cellsP_len (l : List Pt) : (cellsP l).length = l.length * 3 := by
  induction l with
  | nil => rfl
  | cons p l ih =>
    have : cellsP (p :: l) = partCells p ++ cellsP l := rfl
    rw [this, List.length_append, ih, List.length_cons]
    show 3 + _ = _
    omega
theorem partCells_one (p : Pt) : ∀ u ∈ partCells p, u.oneCell' = true := by
  intro u hu
  simp only [partCells, List.mem_cons, List.not_mem_nil, or_false] at hu
  rcases hu with rfl | rfl | rfl <;> rfl
theorem cells_new (w : World) (l : List Value) (t : TypeId) : ∀ j u, l[j]? = some u → (w.alloc (.cells l.toArray t)).cell? ((⟨w.heap.size, 0, none⟩ : Addr).add j) = some u := by
  intro j u hj
  obtain ⟨hl, rfl⟩ := List.getElem?_eq_some_iff.1 hj
  rw [Addr.add_lit, Nat.zero_add]
  simp

theorem cells_new_set (w : World) (a : Addr) (x : Value) (l : List Value) (t : TypeId) : ∀ j u, l[j]? = some u → ((w.setCell a x).alloc (.cells l.toArray t)).cell? ((⟨w.heap.size, 0, none⟩ : Addr).add j) = some u := by
  have h := cells_new (w.setCell a x) l t
  rwa [show (w.setCell a x).heap.size = w.heap.size by simp] at h

theorem info_part : (Tryz.prog.info? 50).map (fun i => (i.zero, i.size, i.bytes)) = some (some (.agg #[.int .i64 0, .int .i64 0, .string ⟨#[]⟩]), 3, 32) := by kernel_rfl
theorem info_u8 : (Tryz.prog.info? 5).map (fun i => (i.zero, i.size, i.bytes)) = some (some (.int .u8 0), 1, 1) := by kernel_rfl

/-- Two rows of cells of different types are different rows. -/
theorem own_ne {w : World} {B B' e e' size size' n n' : Nat} {v v' : Value} {xs xs' : List Value} (h : w.ownsRow B e size v n xs) (h' : w.ownsRow B' e' size' v' n' xs') (hne : e ≠ e') : v.ownBlock = none ∨ v.ownBlock ≠ v'.ownBlock := by
  rcases h.2 with ⟨rfl, _⟩ | ⟨g, cap, cur, rfl, _, hg, _⟩
  · exact .inl rfl
  · rcases h'.2 with ⟨rfl, _⟩ | ⟨g', cap', cur', rfl, _, hg', _⟩
    · exact .inr (by simp [Value.ownBlock])
    · refine .inr fun e => ?_
      simp only [Value.ownBlock, Option.some.injEq] at e
      subst e
      rw [hg] at hg'
      simp only [Option.some.injEq, Obj.cells.injEq] at hg'
      exact hne hg'.2.1

/-- Every block but a, a + 1, a + 2 that is no row of bytes or of parts, at M or behind it, stands. -/
def KeptG (M a : Nat) (w w' : World) : Prop := ∀ k o, w.heap[k]? = some o → k ≠ a → k ≠ a + 1 → k ≠ a + 2 → (∀ c fz, M ≤ k → o ≠ .cells c 5 fz) → (∀ c fz, M ≤ k → o ≠ .cells c 50 fz) → w'.heap[k]? = some o
structure BelowG (M a : Nat) (w w' : World) : Prop where
  below : Below a w w'
  kept : KeptG M a w w'
theorem heap_lt {w : World} {k : Nat} {o : Obj} (h : w.heap[k]? = some o) : k < w.heap.size := by
  rcases Nat.lt_or_ge k w.heap.size with h' | h'
  · exact h'
  · rw [Array.getElem?_eq_none h'] at h; cases h
theorem KeptG.refl (M a : Nat) (w : World) : KeptG M a w w := fun _ _ h _ _ _ _ _ => h
theorem KeptG.trans {M : Nat} {a : Nat} {x y z : World} (h : KeptG M a x y) (k : KeptG M a y z) : KeptG M a x z := fun i o hi h1 h2 h3 h4 h5 => k i o (h i o hi h1 h2 h3 h4 h5) h1 h2 h3 h4 h5
theorem KeptG.of {M : Nat} {a : Nat} {w w' : World} (h : Below w.heap.size w w') : KeptG M a w w' := fun k o hk _ _ _ _ _ => (h.block k (heap_lt hk)).trans hk
theorem KeptG.alloc {M : Nat} {a : Nat} {w w' : World} (h : KeptG M a w w') (o : Obj) : KeptG M a w (w'.alloc o) := h.trans fun k o' hk _ _ _ _ _ => (heap_alloc_old w' o (heap_lt hk)).trans hk
theorem KeptG.set {M : Nat} {a : Nat} {w w' : World} (h : KeptG M a w w') {b : Nat} (hb : b = a ∨ b = a + 1 ∨ b = a + 2) (v : Value) : KeptG M a w (w'.setCell ⟨b, 0, none⟩ v) :=
  h.trans fun k o' hk h1 h2 h3 _ _ => (Below.heap_setCell _ _ _ _ (by show k ≠ b; omega)).trans hk
theorem KeptG.grown {M : Nat} {a e size n : Nat} {v : Value} {xs : List Value} {w w1 w2 : World} (h : KeptG M a w w1) (hr : w1.ownsRow M e size v n xs) (he : e = 5 ∨ e = 50) (hg : w1.grownBy w2 v.ownBlock) : KeptG M a w w2 := by
  refine h.trans fun k o hk _ _ _ h4 h5 => ?_
  refine (hg.block k (heap_lt hk) ?_).trans hk
  intro e'
  obtain ⟨_, hrow⟩ := hr
  rcases hrow with ⟨hx, _⟩ | ⟨g, cap, cur, rfl, hge, hgg, _⟩
  · rw [hx] at e'; cases e'
  · have e2 : some k = some g := e'
    obtain rfl := Option.some.inj e2
    rw [hk] at hgg
    rcases he with rfl | rfl
    · exact h4 _ _ hge (Option.some.inj hgg)
    · exact h5 _ _ hge (Option.some.inj hgg)
theorem BelowG.size {M : Nat} {a : Nat} {w w' : World} (h : BelowG M a w w') : w.heap.size ≤ w'.heap.size := h.below.size
theorem BelowG.refl {M : Nat} (a : Nat) (w : World) : BelowG M a w w := ⟨.refl a w, .refl M a w⟩
theorem BelowG.trans {M : Nat} {a : Nat} {x y z : World} (h : BelowG M a x y) (k : BelowG M a y z) : BelowG M a x z := ⟨h.below.trans k.below, h.kept.trans k.kept⟩
theorem BelowG.of {M : Nat} {a : Nat} {w w' : World} (h : Below w.heap.size w w') (ha : a ≤ w.heap.size) : BelowG M a w w' := ⟨h.mono ha, .of h⟩
theorem BelowG.drew {M : Nat} {a : Nat} {w w' : World} (h : BelowG M a w w') : BelowG M a w w'.drew := ⟨h.below.drew, h.kept⟩

/-- A row beside a box that is written. -/
theorem own_set {w : World} {B e size n b : Nat} {v : Value} {xs : List Value} (h : w.ownsRow B e size v n xs) (hb : b < B) (u : Value) : (w.setCell ⟨b, 0, none⟩ u).ownsRow B e size v n xs := by
  obtain ⟨h0, hrow⟩ := h
  refine ⟨h0, ?_⟩
  rcases hrow with hn | ⟨g, cap, cur, rfl, hg, hgg, rest⟩
  · exact .inl hn
  · exact .inr ⟨g, cap, cur, rfl, hg, (Below.heap_setCell _ _ _ _ (by show g ≠ b; omega)).trans hgg, rest⟩

theorem cell_set_ne {w : World} {b b' o : Nat} (h : b' ≠ b) (u : Value) : (w.setCell ⟨b, 0, none⟩ u).cell? ⟨b', o, none⟩ = w.cell? ⟨b', o, none⟩ := by
  unfold World.cell?
  rw [Below.heap_setCell _ _ _ _ (by show b' ≠ b; exact h)]

/-- A block behind the variables that is not the row of op's. -/
def spare (w : World) (a b : Nat) : Prop := b < w.heap.size ∧ a + 3 < b ∧ ∀ v, w.cell? ⟨a, 0, none⟩ = some v → v.ownBlock ≠ some b

/-- Behind an append to op: the blocks beside it. -/
theorem push_spare {w w1 : World} {a b : Nat} {v v' : Value} {o : Obj} (hc : w.cell? ⟨a, 0, none⟩ = some v) (hc1 : (w1.cell? ⟨a, 0, none⟩).isSome = true) (hg : (w.alloc o).grownBy w1 v.ownBlock) (hat : v'.ownBlock = v.ownBlock ∨ ∃ k, v'.ownBlock = some k ∧ w.heap.size ≤ k) (h : spare w a b) :
    spare (w1.setCell ⟨a, 0, none⟩ v') a b ∧ (w1.setCell ⟨a, 0, none⟩ v').heap[b]? = w.heap[b]? := by
  obtain ⟨h1, h2, h3⟩ := h
  have hne := h3 v hc
  have hs := hg.size
  rw [World.size_alloc] at hs
  refine ⟨⟨by simp; omega, h2, ?_⟩, ?_⟩
  · intro u hu
    obtain ⟨v0, hv0⟩ := Option.isSome_iff_exists.1 hc1
    rw [World.cell?_setCell_same _ _ _ hv0] at hu
    obtain rfl := Option.some.inj hu
    rcases hat with e | ⟨k, e, hk⟩
    · rw [e]; exact hne
    · rw [e]
      intro e
      have := Option.some.inj e
      omega
  · rw [Below.heap_setCell _ _ _ _ (by show b ≠ a; omega), hg.block b (by rw [World.size_alloc]; omega) (fun e => hne e.symm)]
    exact heap_alloc_old w o h1

theorem set_spare {w : World} {a b c : Nat} (h : spare w a b) (hc : c ≠ a) (hb : c ≠ b) (u : Value) : spare (w.setCell ⟨c, 0, none⟩ u) a b ∧ (w.setCell ⟨c, 0, none⟩ u).heap[b]? = w.heap[b]? := by
  obtain ⟨h1, h2, h3⟩ := h
  refine ⟨⟨by simpa using h1, h2, fun v hv => h3 v ?_⟩, Below.heap_setCell _ _ _ _ (by show b ≠ c; omega)⟩
  rwa [cell_set_ne (by omega)] at hv

end Go.Proofs.YtedonckeomccpabGreatDoor

namespace Go.Proofs.YtedonckeomccpabGreatDoor
open Go.RowKit
set_option linter.unusedVariables false

/-- What 'put[:0]' is. -/
theorem cut_none (p : Option Addr) (n c : Nat) (w : World) : (Instr.sliceAt 87 (.slice p n c) none (some (.int .i64 0)) none).run Tryz.prog w = .ok (.slice p 0 c) w := by
  have h : (if c = 0 then p else Option.map (fun x => x.add 0) p) = p := by
    cases p <;> simp [Addr.add]
  have := run_sliceAt_slice (P := Tryz.prog) w 87 (.slice p n c) none (some (.int .i64 0)) none (by kernel_rfl)
  rw [this]
  have h2 := run_slice_h (P := Tryz.prog) w 87 p n c (by kernel_rfl) .i64 0 (by omega) (by omega)
  rw [h2]
  have h3 : (sizeOf (Tryz.prog.elem 87)).run Tryz.prog w = .ok 1 w := by kernel_rfl
  rw [h3]
  simp only [Result.andThen, sliced, Int.toNat_zero, Nat.zero_mul, Nat.sub_zero]
  rw [h]

end Go.Proofs.YtedonckeomccpabGreatDoor

namespace Go.Proofs.YtedonckeomccpabGreatDoor
open Go.RowKit
set_option linter.unusedVariables false

def partV (p : Pt) : Value := .agg #[.int .i64 p.keep, .int .i64 p.drop, .string ⟨p.put.toArray⟩]

theorem isKeep_any (p : Pt) (w : World) : Calls Tryz.prog 57 #[partV p] w fun e w' => e = .returned (.bool (decide (0 < p.keep))) ∧ Below w.heap.size w w' := by
  unfold partV
  go_enter Tryz.func57, Tryz.ntmps57
  go_wp2
  go_ret
  exact ⟨rfl, (Below.refl _ _).alloc (Nat.le_refl _) _⟩
theorem isDrop_any (p : Pt) (w : World) : Calls Tryz.prog 110 #[partV p] w fun e w' => e = .returned (.bool (decide (0 < p.drop))) ∧ Below w.heap.size w w' := by
  unfold partV
  go_enter Tryz.func110, Tryz.ntmps110
  go_wp2
  go_ret
  exact ⟨rfl, (Below.refl _ _).alloc (Nat.le_refl _) _⟩

/-- The last part's cells, in its row. -/
theorem last_cells {w : World} {B g n c : Nat} {init : List Pt} {q : Pt} (h : w.ownsRow B 50 3 (.slice (some ⟨g, 0, none⟩) n c) n (cellsP (init ++ [q]))) (hn : n = (init ++ [q]).length) :
    w.cell? ⟨g, init.length * 3, none⟩ = some (.int .i64 q.keep) ∧ w.cell? ⟨g, init.length * 3 + 1, none⟩ = some (.int .i64 q.drop) ∧ w.cell? ⟨g, init.length * 3 + 2, none⟩ = some (.string ⟨q.put.toArray⟩) ∧ w.frozen? ⟨g, init.length * 3, none⟩ = false := by
  subst hn
  have hn : (init ++ [q]).length = init.length + 1 := by simp
  have e : ∀ j, j < 3 → (cellsP (init ++ [q]))[init.length * 3 + j]? = (partCells q)[j]? := by
    intro j hj
    rw [cellsP_snoc, List.getElem?_append_right (by rw [cellsP_len]; omega), cellsP_len]
    congr 1
    omega
  refine ⟨?_, ?_, ?_, h.frozenAt _⟩
  · rw [h.cellAt _ (by rw [hn]; omega)]; exact e 0 (by omega)
  · rw [h.cellAt _ (by rw [hn]; omega)]; exact e 1 (by omega)
  · rw [h.cellAt _ (by rw [hn]; omega)]; exact e 2 (by omega)

end Go.Proofs.YtedonckeomccpabGreatDoor

namespace Go.Proofs.YtedonckeomccpabGreatDoor
open Go.RowKit
set_option linter.unusedVariables false

/-- The slice v reads as the parts ps. -/
def opAt (w : World) (v : Value) (ps : List Pt) : Prop :=
  ∃ p c, v = .slice p ps.length c ∧ ps.length ≤ c ∧ c ≤ maxLen ∧ (ps ≠ [] → ∃ b o, p = some ⟨b, o, none⟩ ∧ b < w.heap.size ∧ ∀ i q, ps[i]? = some q →
    w.cell? ⟨b, o + i * 3, none⟩ = some (.int .i64 q.keep) ∧ w.cell? ⟨b, o + i * 3 + 1, none⟩ = some (.int .i64 q.drop) ∧ w.cell? ⟨b, o + i * 3 + 2, none⟩ = some (.string ⟨q.put.toArray⟩))
theorem opAt_below {w w' : World} {v : Value} {ps : List Pt} (h : opAt w v ps) {B : Nat} (hb : Below B w w') (hB : w.heap.size ≤ B) : opAt w' v ps := by
  obtain ⟨p, c, rfl, h1, h2, h3⟩ := h
  refine ⟨p, c, rfl, h1, h2, fun hne => ?_⟩
  obtain ⟨b, o, e1, e2, e3⟩ := h3 hne
  refine ⟨b, o, e1, Nat.lt_of_lt_of_le e2 hb.size, fun i q hi => ?_⟩
  obtain ⟨f1, f2, f3⟩ := e3 i q hi
  exact ⟨(hb.cell (p := ⟨b, o + i * 3, none⟩) (Nat.lt_of_lt_of_le e2 hB)).trans f1, (hb.cell (p := ⟨b, o + i * 3 + 1, none⟩) (Nat.lt_of_lt_of_le e2 hB)).trans f2, (hb.cell (p := ⟨b, o + i * 3 + 2, none⟩) (Nat.lt_of_lt_of_le e2 hB)).trans f3⟩

theorem cellsP_get (ps : List Pt) (i : Nat) (q : Pt) (hi : ps[i]? = some q) : ∀ j, j < 3 → (cellsP ps)[i * 3 + j]? = (partCells q)[j]? := by
  induction ps generalizing i with
  | nil => simp at hi
  | cons p ps ih =>
    intro j hj
    have e : cellsP (p :: ps) = partCells p ++ cellsP ps := rfl
    have hl : (partCells p).length = 3 := rfl
    rw [e]
    cases i with
    | zero =>
      simp only [List.getElem?_cons_zero, Option.some.injEq] at hi
      subst hi
      rw [Nat.zero_mul, Nat.zero_add, List.getElem?_append_left (by rw [hl]; exact hj)]
    | succ i =>
      rw [List.getElem?_append_right (by rw [hl]; omega), hl, ← ih i (by simpa using hi) j hj]
      congr 1
      omega

/-- A row of parts reads as them. -/
theorem opAt_own {w : World} {B : Nat} {v : Value} {ps : List Pt} (h : w.ownsRow B 50 3 v ps.length (cellsP ps)) : opAt w v ps := by
  have h' := h
  rcases h.2 with ⟨rfl, h2⟩ | ⟨g, cap, cur, rfl, h2, h3, h4, h5, h6, h7⟩
  · obtain rfl : ps = [] := List.eq_nil_of_length_eq_zero h2
    exact ⟨none, 0, rfl, Nat.le_refl _, Nat.zero_le _, fun h => absurd rfl h⟩
  · refine ⟨_, cap, rfl, h4, h5, fun _ => ⟨g, 0, rfl, (Array.getElem?_eq_some_iff.1 h3).1, fun i q hi => ?_⟩⟩
    have hlt := (List.getElem?_eq_some_iff.1 hi).1
    have hc := cellsP_get ps i q hi
    refine ⟨?_, ?_, ?_⟩
    · rw [Nat.zero_add, h'.cellAt _ (by omega)]; exact hc 0 (by omega)
    · rw [Nat.zero_add, h'.cellAt _ (by omega)]; exact hc 1 (by omega)
    · rw [Nat.zero_add, h'.cellAt _ (by omega)]; exact hc 2 (by omega)

def soundP (p : Pt) : Prop := 0 ≤ p.keep ∧ 0 ≤ p.drop
def wtP (p : Pt) : Int := p.keep + p.drop + p.put.length
def wts (ps : List Pt) : Int := (ps.map wtP).sum
theorem wts_snoc (ps : List Pt) (p : Pt) : wts (ps ++ [p]) = wts ps + wtP p := by simp [wts]
theorem wts_nonneg {ps : List Pt} (h : ∀ p ∈ ps, soundP p) : 0 ≤ wts ps := by
  induction ps with
  | nil => simp [wts]
  | cons p ps ih =>
    have h1 := h p (List.mem_cons_self ..)
    have h2 := ih fun q hq => h q (List.mem_cons_of_mem _ hq)
    unfold wts at h2 ⊢
    rw [List.map_cons, List.sum_cons]
    unfold soundP at h1
    have : 0 ≤ wtP p := by unfold wtP; omega
    omega
theorem wts_take {ps : List Pt} (h : ∀ p ∈ ps, soundP p) (k : Nat) : wts (ps.take k) ≤ wts ps := by
  have h1 : wts ps = wts (ps.take k) + wts (ps.drop k) := by
    unfold wts
    rw [← List.sum_append, ← List.map_append, List.take_append_drop]
  have h2 := wts_nonneg (ps := ps.drop k) fun q hq => h q (List.mem_of_mem_drop hq)
  omega

/-- What a gathering's numbers are at most. -/
structure Bd (s : NSt) (T : Int) (n : Nat) : Prop where
  put : (s.put.length : Int) ≤ T
  d0 : 0 ≤ s.drop
  dT : s.drop ≤ T
  keep : ∀ q ∈ s.out, 0 ≤ q.keep ∧ q.keep ≤ T
  len : s.out.length ≤ 3 * n
theorem bd0 : Bd nst0 0 0 := ⟨by simp [nst0], by simp [nst0], by simp [nst0], by simp [nst0], by simp [nst0]⟩
theorem Bd.add {s : NSt} {T : Int} {n : Nat} (h : Bd s T n) (p : Pt) (hp : soundP p) : Bd (addP s p) (T + wtP p) (n + 1) := by
  obtain ⟨k, d, q⟩ := p
  obtain ⟨p1, p2⟩ := hp
  obtain ⟨h1, h2, h3, h4, h5⟩ := h
  have hw : wtP ⟨k, d, q⟩ = k + d + q.length := rfl
  have e1 : (0 : Int) ≤ k := p1
  have e2 : (0 : Int) ≤ d := p2
  have hT : 0 ≤ T := Int.le_trans h2 h3
  rw [hw]
  unfold addP
  by_cases hk : k = 0
  · rw [if_pos hk]
    refine ⟨?_, ?_, ?_, ?_, ?_⟩
    · show ((s.put ++ q).length : Int) ≤ _
      rw [List.length_append]
      omega
    · show 0 ≤ s.drop + d; omega
    · show s.drop + d ≤ _; omega
    · intro x hx
      have := h4 x hx
      omega
    · show s.out.length ≤ _; omega
  · rw [if_neg hk]
    obtain ⟨L, hL⟩ : ∃ L, tellP ⟨s.out, s.put ++ q, s.drop + d⟩ = L := ⟨_, rfl⟩
    have hm : ∀ x ∈ L, 0 ≤ x.keep ∧ x.keep ≤ T := by
      intro x hx
      rw [← hL, tellP] at hx
      simp only [List.mem_append] at hx
      rcases hx with hx | hx | hx
      · exact h4 x hx
      · split at hx
        · simp at hx
        · rw [List.mem_singleton.1 hx]; exact ⟨by simp, hT⟩
      · split at hx
        · simp at hx
        · rw [List.mem_singleton.1 hx]; exact ⟨by simp, hT⟩
    have hl : L.length ≤ s.out.length + 2 := by
      rw [← hL, tellP]
      simp only [List.length_append]
      split <;> split <;> simp
    have key : (∀ x ∈ pushKeep L k, 0 ≤ x.keep ∧ x.keep ≤ T + k) ∧ (pushKeep L k).length ≤ L.length + 1 := by
      have hsnoc : (∀ x ∈ L ++ [⟨k, 0, []⟩], 0 ≤ x.keep ∧ x.keep ≤ T + k) ∧ (L ++ [(⟨k, 0, []⟩ : Pt)]).length ≤ L.length + 1 := by
        refine ⟨fun x hx => ?_, by simp⟩
        rcases List.mem_append.1 hx with hx | hx
        · have := hm x hx; omega
        · rw [List.mem_singleton.1 hx]; exact ⟨e1, by show k ≤ _; omega⟩
      unfold pushKeep
      split
      · rename_i q0 hq0
        split
        · rename_i hq1
          have hin : q0 ∈ L := List.mem_of_getLast? hq0
          have := hm q0 hin
          refine ⟨fun x hx => ?_, by simp⟩
          rcases List.mem_append.1 hx with hx | hx
          · have := hm x (List.dropLast_subset _ hx); omega
          · rw [List.mem_singleton.1 hx]; exact ⟨by show 0 ≤ q0.keep + k; omega, by show q0.keep + k ≤ _; omega⟩
        · exact hsnoc
      · exact hsnoc
    rw [hL]
    refine ⟨?_, by simp, ?_, ?_, ?_⟩
    · show ((0 : Nat) : Int) ≤ _; omega
    · show (0 : Int) ≤ _; omega
    · intro x hx
      have := key.1 x hx
      show 0 ≤ x.keep ∧ x.keep ≤ T + (k + d + q.length)
      omega
    · have := key.2
      show (pushKeep L k).length ≤ _
      omega
theorem bds (ps : List Pt) (h : ∀ p ∈ ps, soundP p) : Bd (ps.foldl addP nst0) (wts ps) ps.length := by
  have key : ∀ n, n ≤ ps.length → Bd ((ps.take n).foldl addP nst0) (wts (ps.take n)) n := by
    intro n
    induction n with
    | zero => intro _; exact bd0
    | succ n ih =>
      intro hn
      have := ih (by omega)
      rw [List.take_succ_eq_append_getElem (by omega), List.foldl_append, wts_snoc]
      exact this.add _ (h _ (List.getElem_mem _))
  have := key ps.length (Nat.le_refl _)
  rwa [List.take_length] at this

end Go.Proofs.YtedonckeomccpabGreatDoor

namespace Go.Proofs.YtedonckeomccpabGreatDoor
open Go.RowKit
set_option linter.unusedVariables false

def lenW (s : Int × Int) (p : Pt) : Int × Int := (IntKind.i64.wrap (s.1 + IntKind.i64.wrap (p.keep + p.drop)), IntKind.i64.wrap (s.2 + IntKind.i64.wrap (p.keep + p.put.length)))
def lensW (ps : List Pt) : Int × Int := ps.foldl lenW (0, 0)

def fewP (p : Pt) : Bool := !(decide (300 < (p.put.length : Int)) || decide (5000 < p.keep) || decide (5000 < p.drop))
def fewB (ps : List Pt) : Bool := decide (ps.length ≤ 100) && ps.all fewP

set_option maxRecDepth 100000 in
set_option maxHeartbeats 2000000 in
theorem few_any (v : Value) (ps : List Pt) (w : World) (hr : opAt w v ps) (hl : ps.length < 10000000) :
    Calls Tryz.prog 25 #[v] w fun e w' => e = .returned (.bool (fewB ps)) ∧ Below w.heap.size w w' := by
  obtain ⟨p, c, rfl, r1, r2, r3⟩ := hr
  by_cases hm : 100 < ps.length
  · have hb : fewB ps = false := by unfold fewB; rw [decide_eq_false (by omega)]; rfl
    rw [hb]
    have hm' : (100 : Int) < (ps.length : Int) := by omega
    clear r3
    go_enter Tryz.func25, Tryz.ntmps25
    go_wp2
    go_ret
    exact ⟨rfl, Below.refl _ _⟩
  have hb : fewB ps = ps.all fewP := by unfold fewB; rw [decide_eq_true (by omega)]; rfl
  rw [hb]
  obtain ⟨n, hn⟩ : ∃ n, n = ps.length := ⟨_, rfl⟩
  rw [← hn] at r1 hl hm ⊢
  have HN : Hid (n = ps.length) := hn
  have hm' : ¬ (100 : Int) < (n : Int) := by omega
  clear hn hb hm
  have R3 : Hid (ps ≠ [] → ∃ b o, p = some ⟨b, o, none⟩ ∧ b < w.heap.size ∧ ∀ i q, ps[i]? = some q →
    w.cell? ⟨b, o + i * 3, none⟩ = some (.int .i64 q.keep) ∧ w.cell? ⟨b, o + i * 3 + 1, none⟩ = some (.int .i64 q.drop) ∧ w.cell? ⟨b, o + i * 3 + 2, none⟩ = some (.string ⟨q.put.toArray⟩)) := r3
  clear r3
  obtain ⟨R, hR⟩ : ∃ R, ps.all fewP = R := ⟨_, rfl⟩
  have HR : Hid (ps.all fewP = R) := hR
  rw [hR]
  clear hR
  go_enter Tryz.func25, Tryz.ntmps25
  go_wp2
  go_loopw [3] (fun i wr => ∃ (k : Nat), k ≤ n ∧ i = .int .i64 k ∧ (ps.drop k).all fewP = R ∧ Below w.heap.size w wr) (fun i _ => n - (intOf i).toNat)
  case atStart => exact ⟨0, Nat.zero_le _, rfl, HR.out, Below.refl _ _⟩
  case round =>
    obtain ⟨k, hk, rfl, hch, hwr⟩ := hrel
    by_cases hlt : k < n
    · have hkr : k < ps.length := by rw [← HN.out]; exact hlt
      have hne : ps ≠ [] := by intro e; rw [e] at hkr; exact absurd hkr (Nat.not_lt_zero _)
      obtain ⟨b, o, rfl, hbw, hcell⟩ := R3.out hne
      obtain ⟨c0, c1, c2⟩ := hcell k ps[k] (List.getElem?_eq_getElem hkr)
      have g0 := (hwr.cell (p := ⟨b, o + k * 3, none⟩) hbw).trans c0
      have g1 := (hwr.cell (p := ⟨b, o + k * 3 + 1, none⟩) hbw).trans c1
      have g2 := (hwr.cell (p := ⟨b, o + k * 3 + 2, none⟩) hbw).trans c2
      rw [List.drop_eq_getElem_cons hkr, List.all_cons] at hch
      generalize ps[k] = q at *
      obtain ⟨K, D, U⟩ := q
      unfold fewP at hch
      simp only at hch g0 g1 g2
      by_cases h1 : (300 : Int) < (U.length : Int)
      · have hRf : R = false := by rw [← hch, decide_eq_true h1]; rfl
        subst hRf
        clear hcell c0 c1 c2 hch HR
        go_wp2
        go_ret
        exact ⟨rfl, hwr⟩
      · by_cases h2 : (5000 : Int) < K
        · have hRf : R = false := by rw [← hch, decide_eq_true h2, decide_eq_false h1]; rfl
          subst hRf
          clear hcell c0 c1 c2 hch HR
          go_wp2
          go_ret
          exact ⟨rfl, hwr⟩
        · by_cases h3 : (5000 : Int) < D
          · have hRf : R = false := by rw [← hch, decide_eq_true h3, decide_eq_false h1, decide_eq_false h2]; rfl
            subst hRf
            clear hcell c0 c1 c2 hch HR
            go_wp2
            go_ret
            exact ⟨rfl, hwr⟩
          · have HCH : Hid ((ps.drop (k + 1)).all fewP = R) := by
              show _ = _
              rw [decide_eq_false h1, decide_eq_false h2, decide_eq_false h3] at hch
              exact hch
            clear hcell c0 c1 c2 hch HR
            go_wp2
            go_roundw
            case rel => exact ⟨k + 1, by omega, by go_num, HCH.out, hwr⟩
            case measure => simp [intOf]; omega
    · have e : ps.drop k = [] := List.drop_of_length_le (by rw [← HN.out]; omega)
      rw [e] at hch
      have hRf : R = true := by rw [← hch]; rfl
      subst hRf
      clear e R3 hch HR
      go_wp2
      go_ret
      exact ⟨rfl, hwr⟩

set_option maxRecDepth 100000 in
set_option maxHeartbeats 2000000 in
theorem Same_any (v v' : Value) (ps : List Pt) (w : World) (h1 : opAt w v ps) (h2 : opAt w v' ps) (hl : ps.length < 10000000) :
    Calls Tryz.prog 12 #[v, v'] w fun e w' => e = .returned (.bool true) ∧ Below w.heap.size w w' := by
  obtain ⟨p1, c1, rfl, a1, a2, a3⟩ := h1
  obtain ⟨p2, c2, rfl, b1, b2, b3⟩ := h2
  obtain ⟨n, hn⟩ : ∃ n, n = ps.length := ⟨_, rfl⟩
  rw [← hn] at a1 b1 hl ⊢
  have HN : Hid (n = ps.length) := hn
  clear hn
  have A3 : Hid (ps ≠ [] → ∃ b o, p1 = some ⟨b, o, none⟩ ∧ b < w.heap.size ∧ ∀ i q, ps[i]? = some q →
    w.cell? ⟨b, o + i * 3, none⟩ = some (.int .i64 q.keep) ∧ w.cell? ⟨b, o + i * 3 + 1, none⟩ = some (.int .i64 q.drop) ∧ w.cell? ⟨b, o + i * 3 + 2, none⟩ = some (.string ⟨q.put.toArray⟩)) := a3
  have B3 : Hid (ps ≠ [] → ∃ b o, p2 = some ⟨b, o, none⟩ ∧ b < w.heap.size ∧ ∀ i q, ps[i]? = some q →
    w.cell? ⟨b, o + i * 3, none⟩ = some (.int .i64 q.keep) ∧ w.cell? ⟨b, o + i * 3 + 1, none⟩ = some (.int .i64 q.drop) ∧ w.cell? ⟨b, o + i * 3 + 2, none⟩ = some (.string ⟨q.put.toArray⟩)) := b3
  clear a3 b3
  go_enter Tryz.func12, Tryz.ntmps12
  go_wp2
  go_loopw [13] (fun i wr => ∃ k : Nat, k ≤ n ∧ i = .int .i64 k ∧ Below w.heap.size w wr) (fun i _ => n - (intOf i).toNat)
  case atStart => exact ⟨0, Nat.zero_le _, rfl, Below.refl _ _⟩
  case round =>
    obtain ⟨k, hk, rfl, hwr⟩ := hrel
    by_cases hlt : k < n
    · have hkr : k < ps.length := by rw [← HN.out]; exact hlt
      have hne : ps ≠ [] := by intro e; rw [e] at hkr; exact absurd hkr (Nat.not_lt_zero _)
      obtain ⟨x1, o1, rfl, hx1, hc1⟩ := A3.out hne
      obtain ⟨x2, o2, rfl, hx2, hc2⟩ := B3.out hne
      obtain ⟨d0, d1, d2⟩ := hc1 k ps[k] (List.getElem?_eq_getElem hkr)
      obtain ⟨e0, e1, e2⟩ := hc2 k ps[k] (List.getElem?_eq_getElem hkr)
      have g0 := (hwr.cell (p := ⟨x1, o1 + k * 3, none⟩) hx1).trans d0
      have g1 := (hwr.cell (p := ⟨x1, o1 + k * 3 + 1, none⟩) hx1).trans d1
      have g2 := (hwr.cell (p := ⟨x1, o1 + k * 3 + 2, none⟩) hx1).trans d2
      have g3 := (hwr.cell (p := ⟨x2, o2 + k * 3, none⟩) hx2).trans e0
      have g4 := (hwr.cell (p := ⟨x2, o2 + k * 3 + 1, none⟩) hx2).trans e1
      have g5 := (hwr.cell (p := ⟨x2, o2 + k * 3 + 2, none⟩) hx2).trans e2
      generalize ps[k] = q at *
      obtain ⟨K, D, U⟩ := q
      simp only at g0 g1 g2 g3 g4 g5
      clear hc1 hc2 A3 B3 hne d0 d1 d2 e0 e1 e2
      go_wp2
      go_region
      all_goals
        go_wp2
        go_roundw
        case rel => exact ⟨k + 1, by omega, by go_num, hwr.drew⟩
        case measure => simp [intOf]; omega
    · clear A3 B3
      go_wp2
      go_ret
      exact ⟨rfl, hwr⟩
end Go.Proofs.YtedonckeomccpabGreatDoor

namespace Go.Proofs.YtedonckeomccpabGreatDoor
open Go.RowKit
set_option linter.unusedVariables false

theorem info_str : (Tryz.prog.info? 9).map (fun i => (i.zero, i.size, i.bytes)) = some (some (.string ⟨#[]⟩), 1, 16) := by kernel_rfl
theorem info_bool : (Tryz.prog.info? 4).map (fun i => (i.zero, i.size, i.bytes)) = some (some (.bool false), 1, 1) := by kernel_rfl

/-- The rows of strings and of bools, gaps that are yet to come among them. -/
def strsP (n : Nat) (g : GSt) : List (List UInt8) := g.1.map (·.1) ++ g.2 :: List.replicate (n - g.1.length) []
def boolsP (n : Nat) (g : GSt) : List Bool := g.1.map (·.2) ++ List.replicate (n - g.1.length) false
def strV (u : List UInt8) : Value := .string ⟨u.toArray⟩

theorem strsP_len {n : Nat} {g : GSt} (h : g.1.length ≤ n) : (strsP n g).length = n + 1 := by simp [strsP]; omega
theorem boolsP_len {n : Nat} {g : GSt} (h : g.1.length ≤ n) : (boolsP n g).length = n := by simp [boolsP]; omega
theorem strsP_tick {n : Nat} {g : GSt} (h : g.1.length < n) (d : Bool) : strsP n (tick d g) = strsP n g := by
  unfold strsP tick
  simp only [List.map_append, List.map_cons, List.map_nil, List.length_append, List.length_cons, List.length_nil, List.append_assoc, List.singleton_append]
  obtain ⟨k, hk⟩ : ∃ k, n - g.1.length = k + 1 := ⟨n - g.1.length - 1, by omega⟩
  have e : n - (g.1.length + (0 + 1)) = k := by omega
  rw [e, hk, List.replicate_succ]
theorem boolsP_tick {n : Nat} {g : GSt} (h : g.1.length < n) (d : Bool) : boolsP n (tick d g) = (boolsP n g).set g.1.length d := by
  unfold boolsP tick
  obtain ⟨k, hk⟩ : ∃ k, n - g.1.length = k + 1 := ⟨n - g.1.length - 1, by omega⟩
  have e : n - (g.1.length + 1) = k := by omega
  have hl : (g.1.map (·.2)).length = g.1.length := by simp
  rw [List.set_append_right _ _ (by rw [hl]; exact Nat.le_refl _), hl, Nat.sub_self, hk, List.replicate_succ, List.set_cons_zero]
  simp [e]
theorem boolsP_at {n : Nat} {g : GSt} (h : g.1.length < n) : (boolsP n g)[g.1.length]? = some false := by
  unfold boolsP
  obtain ⟨k, hk⟩ : ∃ k, n - g.1.length = k + 1 := ⟨n - g.1.length - 1, by omega⟩
  rw [List.getElem?_append_right (by simp), List.length_map, Nat.sub_self, hk, List.replicate_succ]
  rfl
theorem strsP_at {n : Nat} {g : GSt} : (strsP n g)[g.1.length]? = some g.2 := by
  unfold strsP
  rw [List.getElem?_append_right (by simp)]
  simp
theorem strsP_put {n : Nat} {g : GSt} (u : List UInt8) : strsP n (g.1, u) = (strsP n g).set g.1.length u := by
  unfold strsP
  have hl : (g.1.map (·.1)).length = g.1.length := by simp
  rw [List.set_append_right _ _ (by rw [hl]; exact Nat.le_refl _), hl, Nat.sub_self, List.set_cons_zero]
theorem boolsP_put {n : Nat} {g : GSt} (u : List UInt8) : boolsP n (g.1, u) = boolsP n g := rfl
theorem rowsP_keeps {n : Nat} : ∀ (k : Nat) (g : GSt), g.1.length + k ≤ n → strsP n (ticks false k g) = strsP n g ∧ boolsP n (ticks false k g) = boolsP n g
  | 0, _, _ => ⟨rfl, rfl⟩
  | k + 1, g, h => by
    have hl : (tick false g).1.length = g.1.length + 1 := by simp [tick]
    obtain ⟨h1, h2⟩ := rowsP_keeps (n := n) k (tick false g) (by rw [hl]; omega)
    rw [ticks, h1, h2, strsP_tick (n := n) (g := g) (by omega), boolsP_tick (n := n) (g := g) (by omega)]
    refine ⟨rfl, ?_⟩
    have := boolsP_at (n := n) (g := g) (by omega)
    have hlt : g.1.length < (boolsP n g).length := (List.getElem?_eq_some_iff.1 this).1
    rw [List.getElem?_eq_getElem hlt] at this
    have e := Option.some.inj this
    rw [← e]
    exact List.set_getElem_self hlt
theorem strsP_drops {n : Nat} : ∀ (k : Nat) (g : GSt), g.1.length + k ≤ n → strsP n (ticks true k g) = strsP n g
  | 0, _, _ => rfl
  | k + 1, g, h => by
    have hl : (tick true g).1.length = g.1.length + 1 := by simp [tick]
    rw [ticks, strsP_drops k (tick true g) (by rw [hl]; omega), strsP_tick (n := n) (g := g) (by omega)]

theorem spreads_snoc (ps : List Pt) (p : Pt) : spreads (ps ++ [p]) = spreadP (spreads ps) p := by simp [spreads]
theorem spreadP_nat (g : GSt) (p : Pt) : (spreadP g p).1.length = g.1.length + p.drop.toNat + p.keep.toNat := by
  unfold spreadP
  rw [ticks_len, ticks_len]
theorem spreads_le (ps : List Pt) (k : Nat) : (spreads (ps.take k)).1.length ≤ (spreads ps).1.length := by
  have key : ∀ (l : List Pt) (g : GSt), g.1.length ≤ (l.foldl spreadP g).1.length := by
    intro l
    induction l with
    | nil => intro g; exact Nat.le_refl _
    | cons p l ih =>
      intro g
      rw [List.foldl_cons]
      have := ih (spreadP g p)
      rw [spreadP_nat] at this
      omega
  have e : spreads ps = (ps.drop k).foldl spreadP (spreads (ps.take k)) := by
    unfold spreads
    rw [← List.foldl_append, List.take_append_drop]
  rw [e]
  exact key _ _

/-- How long an operation is, where nothing wraps round. -/
def isP (p : Pt) : Int := p.keep + p.put.length
theorem lens_plain (ps : List Pt) (h : ∀ p ∈ ps, soundP p) (hw : wts ps < 4611686018427387904) : (lensW ps).1 = (spreads ps).1.length ∧ (lensW ps).2 = (ps.map isP).sum ∧ ((spreads ps).1.length : Int) ≤ wts ps ∧ (ps.map isP).sum ≤ wts ps := by
  have key : ∀ k, k ≤ ps.length → (lensW (ps.take k)).1 = (spreads (ps.take k)).1.length ∧ (lensW (ps.take k)).2 = ((ps.take k).map isP).sum ∧ ((spreads (ps.take k)).1.length : Int) ≤ wts (ps.take k) ∧ ((ps.take k).map isP).sum ≤ wts (ps.take k) ∧ 0 ≤ ((ps.take k).map isP).sum := by
    intro k
    induction k with
    | zero => intro _; simp [lensW, spreads, wts]
    | succ k ih =>
      intro hk
      obtain ⟨h1, h2, h3, h4, h5⟩ := ih (by omega)
      have hp := h _ (List.getElem_mem (show k < ps.length by omega))
      have ht := wts_take h (k + 1)
      have hts : ps.take (k + 1) = ps.take k ++ [ps[k]] := List.take_succ_eq_append_getElem (by omega)
      have hls : lensW (ps.take (k + 1)) = lenW (lensW (ps.take k)) ps[k] := by
        unfold lensW
        rw [hts, List.foldl_append]; rfl
      rw [hls, hts, spreads_snoc, spreadP_nat, wts_snoc, List.map_append, List.sum_append]
      rw [hts, wts_snoc] at ht
      generalize ps[k] = q at *
      obtain ⟨q1, q2⟩ := hp
      have hwq : wtP q = q.keep + q.drop + q.put.length := rfl
      have hiq : ([q].map isP).sum = q.keep + q.put.length := by simp [isP]
      rw [hiq]
      unfold lenW
      simp only
      rw [h1, h2]
      have w1 : IntKind.i64.wrap (q.keep + q.drop) = q.keep + q.drop := by rw [IntKind.wrap_i64]; omega
      have w2 : IntKind.i64.wrap (q.keep + (q.put.length : Int)) = q.keep + q.put.length := by rw [IntKind.wrap_i64]; omega
      rw [w1, w2]
      have w3 : IntKind.i64.wrap (((spreads (ps.take k)).1.length : Int) + (q.keep + q.drop)) = ((spreads (ps.take k)).1.length : Int) + (q.keep + q.drop) := by rw [IntKind.wrap_i64]; omega
      have w4 : IntKind.i64.wrap (((ps.take k).map isP).sum + (q.keep + (q.put.length : Int))) = ((ps.take k).map isP).sum + (q.keep + q.put.length) := by rw [IntKind.wrap_i64]; omega
      rw [w3, w4]
      refine ⟨by omega, rfl, by omega, by omega, by omega⟩
  have := key ps.length (Nat.le_refl _)
  rw [List.take_length] at this
  exact ⟨this.1, this.2.1, this.2.2.1, this.2.2.2.1⟩

theorem ticks_put (d : Bool) : ∀ (n : Nat) (g : GSt), (ticks d n g).2.length ≤ g.2.length
  | 0, _ => Nat.le_refl _
  | n + 1, g => by
    have := ticks_put d n (tick d g)
    rw [ticks]
    have e : (tick d g).2.length = 0 := rfl
    omega
theorem spreads_put (ps : List Pt) (h : ∀ p ∈ ps, soundP p) (k : Nat) (hk : k ≤ ps.length) : ((spreads (ps.take k)).2.length : Int) ≤ wts (ps.take k) := by
  induction k with
  | zero => simp [spreads, wts]
  | succ k ih =>
    have h1 := ih (by omega)
    have hp := h _ (List.getElem_mem (show k < ps.length by omega))
    rw [List.take_succ_eq_append_getElem (by omega), spreads_snoc, wts_snoc]
    generalize ps[k] = q at *
    obtain ⟨q1, q2⟩ := hp
    have hwq : wtP q = q.keep + q.drop + q.put.length := rfl
    have h2 := ticks_put false q.keep.toNat (ticks true q.drop.toNat ((spreads (ps.take k)).1, (spreads (ps.take k)).2 ++ q.put))
    have h3 := ticks_put true q.drop.toNat ((spreads (ps.take k)).1, (spreads (ps.take k)).2 ++ q.put)
    have h4 : ((spreads (ps.take k)).2 ++ q.put).length = (spreads (ps.take k)).2.length + q.put.length := List.length_append
    have h5 : (spreadP (spreads (ps.take k)) q).2.length ≤ ((spreads (ps.take k)).2 ++ q.put).length := Nat.le_trans h2 h3
    omega

theorem wp_key {P : Program} {c : Code} {Q : Exit → Act → World → Prop} {a : Act} {w : World} (F : Act → World → Prop) (h1 : ∀ Q' : Exit → Act → World → Prop, (∀ a' w', F a' w' → Q' .normal a' w') → c.wp P Q' a w) (h2 : ∀ a' w', F a' w' → Q .normal a' w') : c.wp P Q a w := h1 Q h2

theorem own_setAt {w : World} {B e size n b o : Nat} {v : Value} {xs : List Value} (h : w.ownsRow B e size v n xs) (hb : b < B) (u : Value) : (w.setCell ⟨b, o, none⟩ u).ownsRow B e size v n xs := by
  obtain ⟨h0, hrow⟩ := h
  refine ⟨h0, ?_⟩
  rcases hrow with hn | ⟨g, cap, cur, rfl, hg, hgg, rest⟩
  · exact .inl hn
  · exact .inr ⟨g, cap, cur, rfl, hg, (Below.heap_setCell _ _ _ _ (by show g ≠ b; omega)).trans hgg, rest⟩
theorem below_three (w : World) (o1 o2 o3 : Obj) : Below w.heap.size w (((w.alloc o1).alloc o2).alloc o3).drew :=
  ((((Below.refl w.heap.size w).alloc (Nat.le_refl _) o1).alloc (by simp) o2).alloc (by rw [World.size_alloc, World.size_alloc]; omega) o3).drew
/-- A row that is made. -/
theorem own_made (W : World) (B n g : Nat) (z : Value) (T : TypeId) (hg : W.heap.size = g) (hB : B ≤ g) (hn : n ≤ maxLen) : (W.alloc (.cells (madeCells #[z] n) T)).ownsRow B T 1 (.slice (some ⟨g, 0, none⟩) n n) n (List.replicate n z) := by
  subst hg
  have := World.ownsRow_lit (base := B) (e := T) (size := 1) W (madeCells #[z] n) n hB hn (by rw [size_madeCells]; simp)
  rwa [toList_madeCells_one] at this

end Go.Proofs.YtedonckeomccpabGreatDoor

namespace Go.Proofs.YtedonckeomccpabGreatDoor
open Go.RowKit
set_option linter.unusedVariables false
attribute [local go_sem] Oper.semAt_some

/-- The boxes of steps: where it is, and how much is ahead. -/
structure stp (W : World) (s b : Nat) (u v a h : Int) : Prop where
  r : W.cell? ⟨s, 0, none⟩ = some (.pointer (some ⟨b, 0, none⟩))
  u : W.cell? ⟨s + 1, 0, none⟩ = some (.int .i64 u)
  v : W.cell? ⟨s + 2, 0, none⟩ = some (.int .i64 v)
  a : W.cell? ⟨s + 3, 0, none⟩ = some (.int .i64 a)
  af : W.frozen? ⟨s + 3, 0, none⟩ = false
  h : W.cell? ⟨s + 4, 0, none⟩ = some (.int .i64 h)
  hf : W.frozen? ⟨s + 4, 0, none⟩ = false
theorem stp.below {W W' : World} {s b : Nat} {u v a h : Int} (k : stp W s b u v a h) (hb : Below W.heap.size W W') : stp W' s b u v a h := by
  have l0 := World.block_lt_of_cell? W _ k.r
  have l1 := World.block_lt_of_cell? W _ k.u
  have l2 := World.block_lt_of_cell? W _ k.v
  have l3 := World.block_lt_of_cell? W _ k.a
  have l4 := World.block_lt_of_cell? W _ k.h
  exact ⟨(hb.cell l0).trans k.r, (hb.cell l1).trans k.u, (hb.cell l2).trans k.v, (hb.cell l3).trans k.a, (hb.frozen l3).trans k.af, (hb.cell l4).trans k.h, (hb.frozen l4).trans k.hf⟩
def stepsV (s : Nat) : Value := .func (.func 108) #[] #[.pointer (some ⟨s + 3, 0, none⟩), .pointer (some ⟨s, 0, none⟩), .pointer (some ⟨s + 1, 0, none⟩), .pointer (some ⟨s + 2, 0, none⟩), .pointer (some ⟨s + 4, 0, none⟩)]

set_option maxHeartbeats 1000000 in
theorem bsteps_any (b : Nat) (u v : Int) (w : World) : Calls Tryz.prog 78 #[.pointer (some ⟨b, 0, none⟩), .int .i64 u, .int .i64 v] w fun e w' => e = .returned (stepsV w.heap.size) ∧ stp w' w.heap.size b u v 0 0 ∧ Below w.heap.size w w' ∧ w'.heap.size = w.heap.size + 5 := by
  unfold stepsV
  go_enter Tryz.func78, Tryz.ntmps78
  go_wp2
  go_ret
  refine ⟨rfl, ⟨?_, ?_, ?_, ?_, ?_, ?_, ?_⟩, ?_, ?_⟩
  all_goals first
    | simp [go_sem]
    | exact (((((Below.refl w.heap.size w).alloc (Nat.le_refl _) _).alloc (by simp) _).alloc (by simp; omega) _).alloc (by simp; omega) _).alloc (by simp; omega) _

set_option maxRecDepth 100000 in
set_option maxHeartbeats 2000000 in
theorem steps1_any (s b : Nat) (rs X : List Nat) (u v a h n : Int) (W : World) (k : stp W s b u v a h) (hu : u = 1 ∨ u = 2 ∨ u = 3) (hv : v = 1 ∨ v = 2 ∨ v = 3) (h0 : 0 ≤ a + n) (h1 : a + n ≤ by_ u rs) (hX : find (reachesBy u (a + n)) [] rs = X) (hfine : by_ u X = a + n)
    (hT : Lib.Utf8Tabs 2 3 W) (hR : isRope W b rs) (hbs : b < s) (hz : C1 rs ≤ 100000000) (hh : 0 ≤ h) (hhx : h ≤ by_ v X) (hvx : by_ v X ≤ 100000000) (hbig : by_ u rs ≤ 100000000)
    (hK : ∀ W', Below s W W' → Lib.Utf8Tabs 2 3 W' ∧ isRope W' b rs) :
    Calls Tryz.prog 108 #[.int .i64 n, .pointer (some ⟨s + 3, 0, none⟩), .pointer (some ⟨s, 0, none⟩), .pointer (some ⟨s + 1, 0, none⟩), .pointer (some ⟨s + 2, 0, none⟩), .pointer (some ⟨s + 4, 0, none⟩)] W fun e w' =>
      e = .returned (.tuple #[.int .i64 (by_ v X - h), .nilIface]) ∧ stp w' s b u v (a + n) (by_ v X) ∧ Below s W w' ∧ W.heap.size ≤ w'.heap.size ∧ (∀ B e size m v' xs, s + 5 ≤ B → B ≤ W.heap.size → W.ownsRow B e size v' m xs → w'.ownsRow B e size v' m xs) ∧ ∀ k, k ≠ s + 3 → k ≠ s + 4 → k < W.heap.size → w'.heap[k]? = W.heap[k]? := by
  have l3 := World.block_lt_of_cell? W _ k.a
  have l4 := World.block_lt_of_cell? W _ k.h
  obtain ⟨k1, k2, k3, k4, k5, k6, k7⟩ := k
  have hw1 : IntKind.i64.wrap (a + n) = a + n := by rw [IntKind.wrap_i64]; omega
  have hw2 : IntKind.i64.wrap (by_ v X - h) = by_ v X - h := by rw [IntKind.wrap_i64]; omega
  have hb1 : Below s W (W.setCell ⟨s + 3, 0, none⟩ (.int .i64 (a + n))) := (Below.refl s W).setCell (p := ⟨s + 3, 0, none⟩) (Nat.le_add_right _ _) _
  obtain ⟨hT1, hR1⟩ := hK _ hb1
  have cC : Hid _ := convert_any b rs u v (a + n) hu hv h0 h1 (W.setCell ⟨s + 3, 0, none⟩ (.int .i64 (a + n))) hT1 hR1 hz X hX hfine
  have KS : Hid (stp (W.setCell ⟨s + 3, 0, none⟩ (.int .i64 (a + n))) s b u v (a + n) h) := by
    refine ⟨?_, ?_, ?_, ?_, ?_, ?_, ?_⟩ <;> simp [go_sem, k1, k2, k3, k4, k5, k6, k7]
  have HB1 : Hid (Below s W (W.setCell ⟨s + 3, 0, none⟩ (.int .i64 (a + n)))) := hb1
  generalize by_ v X = x at *
  clear hX hfine hu hv h0 h1 hT hR hz hK hT1 hR1 hb1 hbig
  go_enter Tryz.func108, Tryz.ntmps108
  go_wp2_with (first
    | (go_at_call 77; refine Calls.mono cC.out ?_; rintro e w2 ⟨rfl, hb2⟩; have KS2 : Hid (stp w2 s b u v (a + n) h) := KS.out.below hb2; have HB2 : Hid (Below s W w2) := HB1.out.trans (hb2.mono (by simp; omega)); have HS2 := hb2.size; have HW2 : Hid _ := hb2; obtain ⟨m1, m2, m3, m4, m5, m6, m7⟩ := KS.out.below hb2; clear hb2)
    | fail)
  go_ret2
  have hz2 : W.heap.size ≤ w2.heap.size := by simpa using HS2
  refine ⟨rfl, ?_, HB2.out.setCell (p := ⟨s + 4, 0, none⟩) (Nat.le_add_right _ _) _, by simpa using hz2, ?_, ?_⟩
  · refine ⟨?_, ?_, ?_, ?_, ?_, ?_, ?_⟩ <;> simp [go_sem, m1, m2, m3, m4, m5, m6, m7]
  · intro B e size m v' xs hB hBW ho
    refine own_setAt ?_ (by omega) _
    exact own_below (own_setAt ho (by omega) _) HW2.out
  · intro k hk3 hk4 hk
    have e1 := Below.heap_setCell w2 (⟨s + 4, 0, none⟩ : Addr) (.int .i64 x) k (by show k ≠ s + 4; exact hk4)
    have e2 := HW2.out.block k (by simpa using hk)
    have e3 := Below.heap_setCell W (⟨s + 3, 0, none⟩ : Addr) (.int .i64 (a + n)) k (by show k ≠ s + 3; exact hk3)
    exact e1.trans (e2.trans e3)
end Go.Proofs.YtedonckeomccpabGreatDoor

namespace Go.Proofs
open Go.Shelf
def Tryz.lays196_ren : Go.Shelf.Ren := ⟨fun | 196 => 81 | 259 => 111 | n => n, fun | 0 => 0 | 3 => 3 | 4 => 4 | 5 => 5 | 9 => 9 | 12 => 12 | 46 => 85 | 53 => 206 | 119 => 183 | 138 => 185 | 139 => 186 | n => n, fun | 3 => 2 | 4 => 3 | n => n⟩
theorem Tryz.lays196 : Go.Proofs.Lays.n196 Tryz.prog Tryz.lays196_ren := {
  mixed := by kernel_rfl
  f196 := Tryz.func81.trans (congrArg some (by kernel_rfl))
  f259 := Tryz.func111.trans (congrArg some (by kernel_rfl))
  t0 := Tryz.underlying0
  a0 := Tryz.isAgg0
  z0 := Tryz.sizeOf0
  v0 := Tryz.zeroValue0
  t3 := Tryz.underlying3
  a3 := Tryz.isAgg3
  z3 := Tryz.sizeOf3
  v3 := Tryz.zeroValue3
  t4 := Tryz.underlying4
  a4 := Tryz.isAgg4
  z4 := Tryz.sizeOf4
  v4 := Tryz.zeroValue4
  t5 := Tryz.underlying5
  a5 := Tryz.isAgg5
  z5 := Tryz.sizeOf5
  v5 := Tryz.zeroValue5
  t9 := Tryz.underlying9
  a9 := Tryz.isAgg9
  z9 := Tryz.sizeOf9
  v9 := Tryz.zeroValue9
  t12 := Tryz.underlying12
  a12 := Tryz.isAgg12
  z12 := Tryz.sizeOf12
  v12 := Tryz.zeroValue12
  t46 := Tryz.underlying85
  a46 := Tryz.isAgg85
  z46 := Tryz.sizeOf85
  v46 := Tryz.zeroValue85
  t53 := Tryz.underlying206
  a53 := Tryz.isAgg206
  z53 := Tryz.sizeOf206
  v53 := Tryz.zeroValue206
  t119 := Tryz.underlying183
  a119 := Tryz.isAgg183
  z119 := Tryz.sizeOf183
  t138 := Tryz.underlying185
  a138 := Tryz.isAgg185
  z138 := Tryz.sizeOf185
  v138 := Tryz.zeroValue185
  t139 := Tryz.underlying186
  a139 := Tryz.isAgg186
  z139 := Tryz.sizeOf186
  v139 := Tryz.zeroValue186
  g3 := by kernel_rfl
  g4 := by kernel_rfl }
end Go.Proofs
namespace Go.Proofs.YtedonckeomccpabGreatDoor
open Go.RowKit

/-- The library's own word for a sound text is ours. -/
theorem valid_scan (n : Nat) : ∀ (l : List UInt8), l.length ≤ n → Lib.validGoD n l = (scan l).2 := by
  induction n with
  | zero =>
    intro l hl
    have : l = [] := List.eq_nil_of_length_eq_zero (by omega)
    subst this
    rfl
  | succ n ih =>
    intro l hl
    unfold Lib.validGoD
    by_cases hne : l = []
    · subst hne; rfl
    · rw [if_neg hne]
      have hd : Lib.decodeL l = dec l := by
        have := decode_dec ⟨l.toArray⟩ 0
        rw [List.drop_zero] at this
        rw [← this]
        unfold Lib.decodeL
        congr 1
        apply ByteArray.ext
        simp
      rw [hd]
      by_cases hb : badB (dec l) = true
      · rw [scan_bad hne hb, if_pos (badB_true hb)]
      · have hb' : badB (dec l) = false := Bool.eq_false_iff.2 hb
        rw [scan_good hne hb', if_neg (by intro h; exact hb (by unfold badB; simp [h])), ih]
        have h1 := dec_ge1 l
        rw [List.length_drop]
        omega

theorem ValidString_any (s : ByteArray) (w : World) (hs : s.size ≤ 9223372036854775807) (hT : Lib.Utf8Tabs 2 3 w) :
    Calls Tryz.prog 81 #[.string s] w fun e w' => e = .returned (.bool (scan s.data.toList).2) ∧ Below w.heap.size w w' := by
  have := Any.utf8_ValidString Tryz.lays196 s w hs hT
  rwa [show Lib.validD s.data.toList = (scan s.data.toList).2 from valid_scan _ _ (Nat.le_refl _)] at this
end Go.Proofs.YtedonckeomccpabGreatDoor

namespace Go.Proofs.YtedonckeomccpabGreatDoor
open Go.RowKit
set_option linter.unusedVariables false

def oneB (p : Pt) : Bool := if p.drop = 0 ∧ p.put = [] then decide (0 < p.keep) else if p.keep = 0 ∧ p.put = [] then decide (0 < p.drop) else decide (p.keep = 0 ∧ p.drop = 0)
def chk1 : List Pt → Int
  | [] => 0
  | p :: ps => if oneB p then (if (scan p.put).2 then chk1 ps else 3) else 1
def chk2 : List Pt → Int → Int
  | [], n => if n = 0 then 0 else 2
  | p :: ps, n => if n < p.keep + p.drop then 2 else chk2 ps (n - (p.keep + p.drop))
def chkE (ps : List Pt) (n : Int) : Int := if chk1 ps = 0 then chk2 ps n else chk1 ps

set_option maxHeartbeats 1000000 in
theorem isOne_any (p : Pt) (w : World) : Calls Tryz.prog 80 #[partV p] w fun e w' => e = .returned (.bool (oneB p)) ∧ Below w.heap.size w w' := by
  obtain ⟨k, d, q⟩ := p
  have cK := isKeep_any ⟨k, d, q⟩
  have cD := isDrop_any ⟨k, d, q⟩
  unfold oneB
  unfold partV at *
  simp only at cK cD ⊢
  by_cases hq : q = []
  · subst hq
    by_cases hd : d = 0
    · subst hd
      go_enter Tryz.func80, Tryz.ntmps80
      go_wp2_with (first | (go_at_call 57; refine (cK _).mono ?_; rintro e w1 ⟨rfl, hb1⟩) | fail)
      go_ret
      exact ⟨by simp, ((Below.refl _ _).alloc (Nat.le_refl _) _).trans (hb1.mono (by simp))⟩
    · have hdb : (d == 0) = false := beq_eq_false_iff_ne.2 hd
      by_cases hk : k = 0
      · subst hk
        go_enter Tryz.func80, Tryz.ntmps80
        go_wp2_with (first | (go_at_call 110; refine (cD _).mono ?_; rintro e w1 ⟨rfl, hb1⟩) | fail)
        go_ret
        exact ⟨by simp, ((Below.refl _ _).alloc (Nat.le_refl _) _).trans (hb1.mono (by simp))⟩
      · have hkb : (k == 0) = false := beq_eq_false_iff_ne.2 hk
        go_enter Tryz.func80, Tryz.ntmps80
        go_wp2
        go_ret
        exact ⟨by simp, (Below.refl _ _).alloc (Nat.le_refl _) _⟩
  · have ho : (if d = 0 ∧ q = [] then decide (0 < k) else if k = 0 ∧ q = [] then decide (0 < d) else decide (k = 0 ∧ d = 0)) = decide (k = 0 ∧ d = 0) := by simp [hq]
    rw [ho]
    clear ho
    have HD : Hid (decide (k = 0 ∧ d = 0) = (k == 0 && d == 0)) := by show _ = _; by_cases h1 : k = 0 <;> by_cases h2 : d = 0 <;> simp [h1, h2]
    rw [HD.out]
    by_cases hd : d = 0
    · subst hd
      by_cases hk : k = 0
      · subst hk
        go_enter Tryz.func80, Tryz.ntmps80
        go_wp2
        go_ret
        exact ⟨rfl, (Below.refl _ _).alloc (Nat.le_refl _) _⟩
      · have hkb : (k == 0) = false := beq_eq_false_iff_ne.2 hk
        go_enter Tryz.func80, Tryz.ntmps80
        go_wp2
        go_ret
        exact ⟨rfl, (Below.refl _ _).alloc (Nat.le_refl _) _⟩
    · have hdb : (d == 0) = false := beq_eq_false_iff_ne.2 hd
      by_cases hk : k = 0
      · subst hk
        go_enter Tryz.func80, Tryz.ntmps80
        go_wp2
        go_ret
        exact ⟨rfl, (Below.refl _ _).alloc (Nat.le_refl _) _⟩
      · have hkb : (k == 0) = false := beq_eq_false_iff_ne.2 hk
        go_enter Tryz.func80, Tryz.ntmps80
        go_wp2
        go_ret
        exact ⟨by rw [hkb]; rfl, (Below.refl _ _).alloc (Nat.le_refl _) _⟩

def wfP (p : Pt) : Prop := -9223372036854775808 ≤ p.keep ∧ p.keep < 9223372036854775808 ∧ -9223372036854775808 ≤ p.drop ∧ p.drop < 9223372036854775808 ∧ p.put.length < 1000000000000

theorem one_sound {p : Pt} (h : oneB p = true) : soundP p ∧ (p.keep = 0 ∨ p.drop = 0) := by
  unfold oneB at h
  unfold soundP
  split at h
  · rename_i h1
    have := of_decide_eq_true h
    exact ⟨⟨by omega, by omega⟩, .inr h1.1⟩
  · split at h
    · rename_i h1
      have := of_decide_eq_true h
      exact ⟨⟨by omega, by omega⟩, .inl h1.1⟩
    · have := of_decide_eq_true h
      exact ⟨⟨by omega, by omega⟩, .inl this.1⟩

theorem chk1_ones {ps : List Pt} (h : chk1 ps = 0) : ∀ p ∈ ps, oneB p = true ∧ (scan p.put).2 = true := by
  induction ps with
  | nil => simp
  | cons p ps ih =>
    unfold chk1 at h
    split at h
    · rename_i h1
      split at h
      · rename_i h2
        intro q hq
        rcases List.mem_cons.1 hq with rfl | hq
        · exact ⟨h1, h2⟩
        · exact ih h q hq
      · cases h
    · cases h

set_option maxRecDepth 100000 in
set_option maxHeartbeats 4000000 in
theorem Check_any (v : Value) (ps : List Pt) (N : Int) (w : World) (hT : Lib.Utf8Tabs 2 3 w) (hr : opAt w v ps) (hwf : ∀ p ∈ ps, wfP p) (hN : -9223372036854775808 ≤ N ∧ N < 9223372036854775808) (hl : ps.length < 10000000) :
    Calls Tryz.prog 42 #[v, .int .i64 N] w fun e w' => e = .returned (errV (chkE ps N)) ∧ Below w.heap.size w w' := by
  obtain ⟨p, c, rfl, r1, r2, r3⟩ := hr
  obtain ⟨n, hn⟩ : ∃ n, n = ps.length := ⟨_, rfl⟩
  rw [← hn] at r1 hl ⊢
  have HN : Hid (n = ps.length) := hn
  clear hn
  have R3 : Hid (ps ≠ [] → ∃ b o, p = some ⟨b, o, none⟩ ∧ b < w.heap.size ∧ ∀ i q, ps[i]? = some q →
    w.cell? ⟨b, o + i * 3, none⟩ = some (.int .i64 q.keep) ∧ w.cell? ⟨b, o + i * 3 + 1, none⟩ = some (.int .i64 q.drop) ∧ w.cell? ⟨b, o + i * 3 + 2, none⟩ = some (.string ⟨q.put.toArray⟩)) := r3
  have HWF : Hid (∀ p ∈ ps, wfP p) := hwf
  have HT : Hid (Lib.Utf8Tabs 2 3 w) := hT
  obtain ⟨hN0, hN1⟩ := hN
  clear r3 hwf hT
  go_enter Tryz.func42, Tryz.ntmps42
  go_wp2
  go_loopw [11] (fun i wr => ∃ (k : Nat), k ≤ n ∧ i = .int .i64 k ∧ chk1 ps = chk1 (ps.drop k) ∧ Below w.heap.size w wr) (fun i _ => n - (intOf i).toNat)
  case atStart => exact ⟨0, Nat.zero_le _, rfl, rfl, Below.refl _ _⟩
  case round =>
    obtain ⟨k, hk, rfl, hch, hwr⟩ := hrel
    by_cases hlt : k < n
    · have hkr : k < ps.length := by rw [← HN.out]; exact hlt
      have hne : ps ≠ [] := by intro e; rw [e] at hkr; exact absurd hkr (Nat.not_lt_zero _)
      obtain ⟨b, o, rfl, hbw, hcell⟩ := R3.out hne
      obtain ⟨c0, c1, c2⟩ := hcell k ps[k] (List.getElem?_eq_getElem hkr)
      have g0 := (hwr.cell (p := ⟨b, o + k * 3, none⟩) hbw).trans c0
      have g1 := (hwr.cell (p := ⟨b, o + k * 3 + 1, none⟩) hbw).trans c1
      have g2 := (hwr.cell (p := ⟨b, o + k * 3 + 2, none⟩) hbw).trans c2
      rw [List.drop_eq_getElem_cons hkr, chk1] at hch
      have hwq := HWF.out ps[k] (List.getElem_mem _)
      generalize ps[k] = q at *
      have hsize := hwr.size
      have HWR : Hid (Below w.heap.size w wr) := hwr
      have hb0 : Below wr.heap.size wr (wr.alloc (.cells #[.int .i64 q.keep, .int .i64 q.drop, .string ⟨q.put.toArray⟩] 50)) := (Below.refl _ _).alloc (Nat.le_refl _) _
      have HB0 : Hid (Below w.heap.size w (wr.alloc (.cells #[.int .i64 q.keep, .int .i64 q.drop, .string ⟨q.put.toArray⟩] 50))) := hwr.trans (hb0.mono hsize)
      have x2 : (wr.alloc (.cells #[.int .i64 q.keep, .int .i64 q.drop, .string ⟨q.put.toArray⟩] 50)).cell? ⟨wr.heap.size, 2, none⟩ = some (.string ⟨q.put.toArray⟩) := by simp [go_sem]
      have X2 : Hid _ := x2
      have cO := isOne_any q
      unfold partV at cO
      have cV : Hid (∀ wx, Below w.heap.size w wx → Calls Tryz.prog 81 #[.string ⟨q.put.toArray⟩] wx fun e w' => e = .returned (.bool (scan q.put).2) ∧ Below wx.heap.size wx w') := fun wx hb =>
        ValidString_any ⟨q.put.toArray⟩ wx (by have := hwq.2.2.2.2; simp [ByteArray.size]; omega) (Go.Proofs.Utf8Tabs_below HT.out hb)
      by_cases h1 : oneB q = true
      · rw [if_pos h1] at hch
        rw [h1] at cO
        by_cases h2 : (scan q.put).2 = true
        · rw [if_pos h2] at hch
          rw [h2] at cV
          have HCH : Hid (chk1 ps = chk1 (ps.drop (k + 1))) := hch
          clear hcell c0 c1 c2 hch hwq hwr hb0 x2 HWF h1 h2
          go_wp2_with (first | (go_at_call 80; refine (cO _).mono ?_; rintro e w1 ⟨rfl, hb1⟩; have HB1 : Hid (Below w.heap.size w w1) := HB0.out.trans (hb1.mono HB0.out.size); have hc2 := (hb1.cell (p := ⟨wr.heap.size, 2, none⟩) (by simp)).trans X2.out; clear hb1) | (go_at_call 81; refine (cV.out _ HB1.out).mono ?_; rintro e w2 ⟨rfl, hb2⟩; have HB2 : Hid (Below w.heap.size w w2) := HB1.out.trans (hb2.mono HB1.out.size); clear hb2) | fail)
          go_roundw
          case rel => exact ⟨k + 1, by omega, by go_num, HCH.out, HB2.out⟩
          case measure => simp [intOf]; omega
        · have h2 : (scan q.put).2 = false := Bool.eq_false_iff.2 h2
          rw [h2] at hch cV
          have HCH : Hid (chk1 ps = 3) := by show chk1 ps = 3; simpa using hch
          clear hcell c0 c1 c2 hch hwq hwr hb0 x2 HWF h1 h2
          go_wp2_with (first | (go_at_call 80; refine (cO _).mono ?_; rintro e w1 ⟨rfl, hb1⟩; have HB1 : Hid (Below w.heap.size w w1) := HB0.out.trans (hb1.mono HB0.out.size); have hc2 := (hb1.cell (p := ⟨wr.heap.size, 2, none⟩) (by simp)).trans X2.out; clear hb1) | (go_at_call 81; refine (cV.out _ HB1.out).mono ?_; rintro e w2 ⟨rfl, hb2⟩; have HB2 : Hid (Below w.heap.size w w2) := HB1.out.trans (hb2.mono HB1.out.size); clear hb2) | fail)
          go_ret
          refine ⟨?_, HB2.out⟩
          unfold chkE
          rw [HCH.out]
          rfl
      · have h1 : oneB q = false := Bool.eq_false_iff.2 h1
        rw [h1] at hch cO
        have HCH : Hid (chk1 ps = 1) := by show chk1 ps = 1; simpa using hch
        clear hcell c0 c1 c2 hch hwq hwr hb0 x2 HWF h1
        go_wp2_with (first | (go_at_call 80; refine (cO _).mono ?_; rintro e w1 ⟨rfl, hb1⟩; have HB1 : Hid (Below w.heap.size w w1) := HB0.out.trans (hb1.mono HB0.out.size); clear hb1) | fail)
        go_ret
        refine ⟨?_, HB1.out⟩
        unfold chkE
        rw [HCH.out]
        rfl
    · have e : ps.drop k = [] := List.drop_of_length_le (by rw [← HN.out]; omega)
      rw [e] at hch
      have H0 : Hid (chk1 ps = 0) := hch
      have HWR : Hid (Below w.heap.size w wr) := hwr
      have HON : Hid (∀ p ∈ ps, soundP p ∧ (p.keep = 0 ∨ p.drop = 0)) := fun p hp => one_sound (chk1_ones hch p hp).1
      clear e hch hwr
      go_wp2
      go_loopw [1, 27] (fun m i wr => ∃ (k : Nat) (M : Int), k ≤ n ∧ i = .int .i64 k ∧ m = .int .i64 M ∧ -9223372036854775808 ≤ M ∧ M < 9223372036854775808 ∧ chk2 ps N = chk2 (ps.drop k) M ∧ Below w.heap.size w wr) (fun _ i _ => n - (intOf i).toNat)
      case atStart => exact ⟨0, N, Nat.zero_le _, rfl, rfl, hN0, hN1, rfl, HWR.out⟩
      case round =>
        obtain ⟨k, M, hk, rfl, rfl, hM0, hM1, hch, hwr⟩ := hrel
        by_cases hlt : k < n
        · have hkr : k < ps.length := by rw [← HN.out]; exact hlt
          have hne : ps ≠ [] := by intro e; rw [e] at hkr; exact absurd hkr (Nat.not_lt_zero _)
          obtain ⟨b, o, rfl, hbw, hcell⟩ := R3.out hne
          obtain ⟨c0, c1, c2⟩ := hcell k ps[k] (List.getElem?_eq_getElem hkr)
          have g0 := (hwr.cell (p := ⟨b, o + k * 3, none⟩) hbw).trans c0
          have g1 := (hwr.cell (p := ⟨b, o + k * 3 + 1, none⟩) hbw).trans c1
          have g2 := (hwr.cell (p := ⟨b, o + k * 3 + 2, none⟩) hbw).trans c2
          rw [List.drop_eq_getElem_cons hkr, chk2] at hch
          have hwq := HWF.out ps[k] (List.getElem_mem _)
          have hon := HON.out ps[k] (List.getElem_mem _)
          generalize ps[k] = q at *
          obtain ⟨⟨s0, s1⟩, s2⟩ := hon
          have hsum0 : 0 ≤ q.keep + q.drop := by omega
          have hsum1 : q.keep + q.drop < 9223372036854775808 := by have := hwq.2.1; have := hwq.2.2.2.1; omega
          have hw1 : IntKind.i64.wrap (q.keep + q.drop) = q.keep + q.drop := by rw [IntKind.wrap_i64]; omega
          have HB0 : Hid (Below w.heap.size w (wr.alloc (.cells #[.int .i64 q.keep, .int .i64 q.drop, .string ⟨q.put.toArray⟩] 50))) := hwr.alloc hwr.size _
          by_cases h1 : M < q.keep + q.drop
          · rw [if_pos h1] at hch
            have HCH : Hid (chk2 ps N = 2) := hch
            clear hcell c0 c1 c2 hch hwq hwr HWF s2
            go_wp2
            go_ret
            refine ⟨?_, HB0.out⟩
            unfold chkE
            rw [if_pos H0.out, HCH.out]
            rfl
          · rw [if_neg h1] at hch
            have HCH : Hid (chk2 ps N = chk2 (ps.drop (k + 1)) (M - (q.keep + q.drop))) := hch
            have hw2 : IntKind.i64.wrap (M - (q.keep + q.drop)) = M - (q.keep + q.drop) := by rw [IntKind.wrap_i64]; omega
            clear hcell c0 c1 c2 hch hwq hwr HWF s2
            go_wp2
            go_roundw
            case rel => exact ⟨k + 1, M - (q.keep + q.drop), by omega, by go_num, by first | rfl | go_num, by omega, by omega, HCH.out, HB0.out⟩
            case measure => simp [intOf]; omega
        · have e : ps.drop k = [] := List.drop_of_length_le (by rw [← HN.out]; omega)
          rw [e, chk2] at hch
          have HX : Hid (Below w.heap.size w wr) := hwr
          by_cases h0 : M = 0
          · rw [if_pos h0] at hch
            subst h0
            have HCH : Hid (chk2 ps N = 0) := hch
            clear e hch hwr
            go_wp2
            go_ret
            refine ⟨?_, HX.out⟩
            unfold chkE
            rw [if_pos H0.out, HCH.out]
            rfl
          · rw [if_neg h0] at hch
            have hmb : (M == 0) = false := beq_eq_false_iff_ne.2 h0
            have HCH : Hid (chk2 ps N = 2) := hch
            clear e hch hwr
            go_wp2
            go_ret
            refine ⟨?_, HX.out⟩
            unfold chkE
            rw [if_pos H0.out, HCH.out]
            rfl
end Go.Proofs.YtedonckeomccpabGreatDoor
