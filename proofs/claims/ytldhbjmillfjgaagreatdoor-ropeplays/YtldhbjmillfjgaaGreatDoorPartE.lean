/-
  Two operations side by side: the model of what Compose and Transform go through (pure).
  Gaps, from the left on (pure); the document's Transform over them.
  Side by side is gap by gap (pure), where puts stand alone in both.
  Transform: the program's pairs add up to the document's parts (pure).
  What a least form is made of (pure).
  Operations in other units: what comes of them (pure).
  The document's own Ahead: all places are looked at.
  The document's Ahead at a place that there isn't.
  rope's Ahead, of a unit, at a place that there isn't: below 0, or beyond the end.
  pos.Convert of any place, by units that are.
  pos.Spot of a place that there is; of one that there isn't.
  rope's Line, of any line.
  Lines (pure): a text is what is ahead of its last line, and that line, which has no line feed.
  pos.Spot of any place.
  pos.lineEnd: how many are ahead of a line's line feed, or of the end.
  pos.Place.
  pos.Place of any spot.
  What Ahead tells, of any unit and place: the document's and the program's.
  How high a document's tree is: what the law asks.
  The document's own Line, where there is no such line.
  The document's own Spot.
  Lines as bytes (pure): where the last line feed is, and the first one.
-/
import Derived.Test.YtldhbjmillfjgaaGreatDoorPartD
import Derived.Test.YtldhbjmillfjgaaGreatDoorPartA
import Derived.Test.YtldhbjmillfjgaaGreatDoorPartC
import Derived.Test.YtldhbjmillfjgaaGreatDoorPartB
import Derived.Lib.LastIndexByte
import Derived.Lib.Bytealg
namespace Go.Proofs.YtldhbjmillfjgaaGreatDoor
set_option linter.unusedVariables false

/-- Whatever the gaps: gathered, they are what their parts add up to. -/
theorem gather_runG (G : GSt) : gatherP G = tellP (runG G) := by
  unfold gatherP
  obtain ⟨h1, h2⟩ := steps_any G.1 kst0 inv0
  obtain ⟨f1, f2, f3, f4⟩ := step_flush _ h2 G.2 false
  rw [endK_nf, f1, h1]
  · rfl
  · intro hk
    by_cases hq : G.2 ≠ [] ∨ false = true
    · rw [f2 hq] at hk; omega
    · rw [f3 hq] at hk ⊢
      exact ⟨(h2.quiet hk).1, (h2.quiet hk).2.1⟩

def lengthP (p : Pt) : Int := p.keep + p.drop + p.put.length
def noP : Pt := ⟨0, 0, []⟩
/-- So much off a first part; what is left of it. -/
def cutP (p : Pt) (n : Int) : Pt × List Pt :=
  if lengthP p = n then (p, [])
  else if 0 < p.keep then (⟨n, 0, []⟩, [⟨p.keep - n, p.drop, p.put⟩])
  else if 0 < p.drop then (⟨0, n, []⟩, [⟨p.keep, p.drop - n, p.put⟩])
  else (⟨0, 0, p.put.take n.toNat⟩, [⟨p.keep, p.drop, p.put.drop n.toNat⟩])
/-- The pairs that are taken, from the left on. -/
def sideP (la lb : Pt → Bool) : Nat → List Pt → List Pt → List (Pt × Pt)
  | 0, _, _ => []
  | f + 1, p :: a, b => if la p then (p, noP) :: sideP la lb f a b else match b with
    | q :: b => if lb q then (noP, q) :: sideP la lb f (p :: a) b else
      ((cutP p (min (lengthP p) (lengthP q))).1, (cutP q (min (lengthP p) (lengthP q))).1) :: sideP la lb f ((cutP p (min (lengthP p) (lengthP q))).2 ++ a) ((cutP q (min (lengthP p) (lengthP q))).2 ++ b)
    | [] => []
  | f + 1, [], q :: b => if lb q then (noP, q) :: sideP la lb f [] b else []
  | f + 1, [], [] => []

def isDropP (p : Pt) : Bool := decide (0 < p.drop)
def isKeepP (p : Pt) : Bool := decide (0 < p.keep)
def isPutP (p : Pt) : Bool := decide (p.put ≠ [])
/-- What Compose adds of a pair. -/
def compP (x : Pt × Pt) : List Pt := if isDropP x.1 || isKeepP x.2 then [x.1] else if isPutP x.2 || isKeepP x.1 then [x.2] else []
/-- What Transform adds of a pair. -/
def turnP (x : Pt × Pt) : List Pt := if isPutP x.2 then [⟨x.2.put.length, 0, []⟩] else if isPutP x.1 || isKeepP x.2 then [x.1] else []

/-- A part that is one thing, and not nothing. -/
def oneP (p : Pt) : Prop := (0 < p.keep ∧ p.drop = 0 ∧ p.put = []) ∨ (p.keep = 0 ∧ 0 < p.drop ∧ p.put = []) ∨ (p.keep = 0 ∧ p.drop = 0 ∧ p.put ≠ [])
theorem length_pos {p : Pt} (h : oneP p) : 0 < lengthP p := by
  unfold lengthP
  rcases h with ⟨h1, h2, h3⟩ | ⟨h1, h2, h3⟩ | ⟨h1, h2, h3⟩
  · rw [h2, h3]; simp; omega
  · rw [h1, h3]; simp; omega
  · have := List.length_pos_iff.2 h3; omega
theorem cut_one {p : Pt} (h : oneP p) {n : Int} (h0 : 0 < n) (hn : n ≤ lengthP p) : oneP (cutP p n).1 ∧ lengthP (cutP p n).1 = n ∧ (∀ q ∈ (cutP p n).2, oneP q ∧ lengthP q = lengthP p - n) ∧ ((cutP p n).2 = [] ↔ lengthP p = n) := by
  unfold cutP
  by_cases e : lengthP p = n
  · rw [if_pos e]; exact ⟨h, e, by simp, by simp [e]⟩
  · rw [if_neg e]
    obtain ⟨K, D, U⟩ := p
    have e' : ¬ K + D + (U.length : Int) = n := e
    have hn' : n ≤ K + D + (U.length : Int) := hn
    clear e hn
    rcases h with ⟨h1, h2, h3⟩ | ⟨h1, h2, h3⟩ | ⟨h1, h2, h3⟩
    · replace h1 : 0 < K := h1
      obtain rfl : D = 0 := h2
      obtain rfl : U = [] := h3
      have hl : (([] : List UInt8).length : Int) = 0 := rfl
      rw [hl] at e' hn'
      rw [if_pos (show 0 < (⟨K, 0, []⟩ : Pt).keep from h1)]
      refine ⟨.inl ⟨h0, rfl, rfl⟩, by simp [lengthP], ?_, ⟨fun h => (by cases h), fun h => absurd h (by simp only [lengthP, List.length_nil]; omega)⟩⟩
      intro q hq
      obtain rfl := List.mem_singleton.1 hq
      exact ⟨.inl ⟨by show 0 < K - n; omega, rfl, rfl⟩, by simp only [lengthP, List.length_nil]; omega⟩
    · obtain rfl : K = 0 := h1
      replace h2 : 0 < D := h2
      obtain rfl : U = [] := h3
      have hl : (([] : List UInt8).length : Int) = 0 := rfl
      rw [hl] at e' hn'
      rw [if_neg (show ¬ 0 < (⟨0, D, []⟩ : Pt).keep from Int.lt_irrefl 0), if_pos (show 0 < (⟨0, D, []⟩ : Pt).drop from h2)]
      refine ⟨.inr (.inl ⟨rfl, h0, rfl⟩), by simp [lengthP], ?_, ⟨fun h => (by cases h), fun h => absurd h (by simp only [lengthP, List.length_nil]; omega)⟩⟩
      intro q hq
      obtain rfl := List.mem_singleton.1 hq
      exact ⟨.inr (.inl ⟨rfl, by show 0 < D - n; omega, rfl⟩), by simp only [lengthP, List.length_nil]; omega⟩
    · obtain rfl : K = 0 := h1
      obtain rfl : D = 0 := h2
      replace h3 : U ≠ [] := h3
      rw [if_neg (show ¬ 0 < (⟨0, 0, U⟩ : Pt).keep from Int.lt_irrefl 0), if_neg (show ¬ 0 < (⟨0, 0, U⟩ : Pt).drop from Int.lt_irrefl 0)]
      have hl : (U.take n.toNat).length = n.toNat := by rw [List.length_take]; omega
      have hd : (U.drop n.toNat).length = U.length - n.toNat := List.length_drop
      refine ⟨.inr (.inr ⟨rfl, rfl, ?_⟩), by simp only [lengthP, hl]; omega, ?_, ⟨fun h => (by cases h), fun h => absurd h (by simp only [lengthP]; omega)⟩⟩
      · intro e'
        have := congrArg List.length e'
        rw [hl, List.length_nil] at this
        omega
      · intro q hq
        obtain rfl := List.mem_singleton.1 hq
        refine ⟨.inr (.inr ⟨rfl, rfl, ?_⟩), by simp only [lengthP, hd]; omega⟩
        intro e'
        have := congrArg List.length e'
        rw [hd, List.length_nil] at this
        omega
end Go.Proofs.YtldhbjmillfjgaaGreatDoor

namespace Go.Proofs.YtldhbjmillfjgaaGreatDoor
set_option linter.unusedVariables false

theorem ticks_shift (d : Bool) : ∀ (n : Nat) (l : List (List UInt8 × Bool)) (g : GSt), ticks d n (l ++ g.1, g.2) = (l ++ (ticks d n g).1, (ticks d n g).2)
  | 0, l, g => rfl
  | n + 1, l, g => by
    rw [ticks, ticks]
    have e : tick d (l ++ g.1, g.2) = (l ++ (tick d g).1, (tick d g).2) := by simp [tick]
    rw [e]
    exact ticks_shift d n l (tick d g)
theorem spreadP_shift (l : List (List UInt8 × Bool)) (g : GSt) (p : Pt) : spreadP (l ++ g.1, g.2) p = (l ++ (spreadP g p).1, (spreadP g p).2) := by
  unfold spreadP
  rw [ticks_shift true p.drop.toNat l (g.1, g.2 ++ p.put), ticks_shift]
/-- The gaps of what is yet to come, with what was put ahead of it. -/
def gapsR : List UInt8 → List Pt → GSt
  | acc, [] => ([], acc)
  | acc, p :: ps => ((spreadP ([], acc) p).1 ++ (gapsR (spreadP ([], acc) p).2 ps).1, (gapsR (spreadP ([], acc) p).2 ps).2)
theorem spreads_gaps (ps : List Pt) : ∀ (l : List (List UInt8 × Bool)) (acc : List UInt8), ps.foldl spreadP (l, acc) = (l ++ (gapsR acc ps).1, (gapsR acc ps).2) := by
  induction ps with
  | nil => intro l acc; simp [gapsR]
  | cons p ps ih =>
    intro l acc
    have e := spreadP_shift l ([], acc) p
    rw [List.append_nil] at e
    rw [List.foldl_cons, e, ih]
    simp [gapsR]
theorem spreads_eq (ps : List Pt) : spreads ps = gapsR [] ps := by
  have := spreads_gaps ps [] []
  simpa [spreads] using this
theorem gaps_put (acc u : List UInt8) (ps : List Pt) : gapsR acc (⟨0, 0, u⟩ :: ps) = gapsR (acc ++ u) ps := by
  simp [gapsR, spreadP, ticks]
theorem ticks_one (d : Bool) : ∀ (n : Nat) (acc : List UInt8), ticks d (n + 1) ([], acc) = ((acc, d) :: List.replicate n ([], d), [])
  | 0, acc => by simp [ticks, tick]
  | n + 1, acc => by
    rw [ticks_more, ticks_one d n acc]
    simp [tick, List.replicate_succ']
theorem gaps_keep (acc : List UInt8) (n : Nat) (ps : List Pt) : gapsR acc (⟨(n : Int) + 1, 0, []⟩ :: ps) = ((acc, false) :: List.replicate n ([], false) ++ (gapsR [] ps).1, (gapsR [] ps).2) := by
  have h1 : ((n : Int) + 1).toNat = n + 1 := by omega
  have h2 := ticks_one false n acc
  rw [ticks] at h2
  simp only [gapsR, spreadP, h1, Int.toNat_zero, ticks, List.append_nil, h2]
theorem gaps_drop (acc : List UInt8) (n : Nat) (ps : List Pt) : gapsR acc (⟨0, (n : Int) + 1, []⟩ :: ps) = ((acc, true) :: List.replicate n ([], true) ++ (gapsR [] ps).1, (gapsR [] ps).2) := by
  have h1 : ((n : Int) + 1).toNat = n + 1 := by omega
  have h2 := ticks_one true n acc
  rw [ticks] at h2
  simp only [gapsR, spreadP, h1, Int.toNat_zero, ticks, List.append_nil, h2]

/-- What the document's Transform adds, gap by gap: b says that the other's put is counted first. -/
def docT (first : Bool) : List (List UInt8 × Bool) → List UInt8 → List (List UInt8 × Bool) → List UInt8 → List Pt
  | (u, d) :: x, xl, (v, e) :: y, yl => (if first then [⟨0, 0, u⟩, ⟨v.length, 0, []⟩] else [⟨v.length, 0, []⟩, ⟨0, 0, u⟩]) ++ (if e then [] else [unitP d]) ++ docT first x xl y yl
  | _, xl, _, yl => if first then [⟨0, 0, xl⟩, ⟨yl.length, 0, []⟩] else [⟨yl.length, 0, []⟩, ⟨0, 0, xl⟩]
end Go.Proofs.YtldhbjmillfjgaaGreatDoor

namespace Go.Proofs.YtldhbjmillfjgaaGreatDoor
set_option linter.unusedVariables false

def unitK (d : Bool) (k : Nat) : Pt := if d then ⟨0, k, []⟩ else ⟨k, 0, []⟩
theorem one_cases {p : Pt} (h : oneP p) : (∃ u, u ≠ [] ∧ p = ⟨0, 0, u⟩) ∨ ∃ d n, p = unitK d (n + 1) := by
  obtain ⟨K, D, U⟩ := p
  rcases h with ⟨h1, h2, h3⟩ | ⟨h1, h2, h3⟩ | ⟨h1, h2, h3⟩
  · obtain rfl : D = 0 := h2
    obtain rfl : U = [] := h3
    replace h1 : 0 < K := h1
    refine .inr ⟨false, K.toNat - 1, ?_⟩
    have : K = ((K.toNat - 1 + 1 : Nat) : Int) := by omega
    show (⟨K, 0, []⟩ : Pt) = ⟨((K.toNat - 1 + 1 : Nat) : Int), 0, []⟩
    rw [← this]
  · obtain rfl : K = 0 := h1
    obtain rfl : U = [] := h3
    replace h2 : 0 < D := h2
    refine .inr ⟨true, D.toNat - 1, ?_⟩
    have : D = ((D.toNat - 1 + 1 : Nat) : Int) := by omega
    show (⟨0, D, []⟩ : Pt) = ⟨0, ((D.toNat - 1 + 1 : Nat) : Int), []⟩
    rw [← this]
  · obtain rfl : K = 0 := h1
    obtain rfl : D = 0 := h2
    exact .inl ⟨U, h3, rfl⟩
theorem gaps_unit (acc : List UInt8) (d : Bool) (n : Nat) (ps : List Pt) : gapsR acc (unitK d (n + 1) :: ps) = ((acc, d) :: List.replicate n ([], d) ++ (gapsR [] ps).1, (gapsR [] ps).2) := by
  cases d with
  | true => exact gaps_drop acc n ps
  | false => exact gaps_keep acc n ps
def accG (acc : List UInt8) : GSt → GSt
  | ([], l) => ([], acc ++ l)
  | ((u, d) :: x, l) => ((acc ++ u, d) :: x, l)
theorem accG_nil (g : GSt) : accG [] g = g := by
  obtain ⟨x, l⟩ := g
  cases x <;> rfl
theorem accG_more (a b : List UInt8) (g : GSt) : accG a (accG b g) = accG (a ++ b) g := by
  obtain ⟨x, l⟩ := g
  cases x <;> simp [accG]
theorem gaps_acc (ps : List Pt) (h : ∀ p ∈ ps, oneP p) : ∀ acc, gapsR acc ps = accG acc (gapsR [] ps) := by
  induction ps with
  | nil => intro acc; simp [gapsR, accG]
  | cons p ps ih =>
    intro acc
    have ih := ih fun q hq => h q (by simp [hq])
    rcases one_cases (h p (by simp)) with ⟨u, hu, rfl⟩ | ⟨d, n, rfl⟩
    · rw [gaps_put, gaps_put, ih, ih ([] ++ u), accG_more, List.nil_append]
    · rw [gaps_unit, gaps_unit]; simp [accG]

/-- Gap by gap. -/
def docG (eA eB : List UInt8 → NSt → NSt) (eU : Bool → Bool → NSt → NSt) : List (List UInt8 × Bool) → List UInt8 → List (List UInt8 × Bool) → List UInt8 → NSt → NSt
  | (u, d) :: x, xl, (v, e) :: y, yl, s => docG eA eB eU x xl y yl (eU d e (eB v (eA u s)))
  | [], xl, _, yl, s => eB yl (eA xl s)
  | _, xl, [], yl, s => eB yl (eA xl s)
def docS (eA eB : List UInt8 → NSt → NSt) (eU : Bool → Bool → NSt → NSt) (a b : GSt) (s : NSt) : NSt := docG eA eB eU a.1 a.2 b.1 b.2 s
def stepsU (eU : NSt → NSt) : Nat → NSt → NSt
  | 0, s => s
  | n + 1, s => stepsU eU n (eU s)

theorem docS_accA (eA eB : List UInt8 → NSt → NSt) (eU : Bool → Bool → NSt → NSt) (hA : ∀ u v s, eA (u ++ v) s = eA v (eA u s)) (acc : List UInt8) (a b : GSt) (s : NSt) (hl : a.1.length = b.1.length) : docS eA eB eU (accG acc a) b s = docS eA eB eU a b (eA acc s) := by
  obtain ⟨x, xl⟩ := a
  obtain ⟨y, yl⟩ := b
  cases x with
  | nil => cases y <;> simp [docS, accG, docG, hA]
  | cons c x =>
    cases y with
    | nil => simp at hl
    | cons e y => simp [docS, accG, docG, hA]
/-- Where nothing is put ahead in a. -/
def quietG (a : GSt) : Prop := match a with
  | ([], l) => l = []
  | ((u, _) :: _, _) => u = []
theorem docS_accB (eA eB : List UInt8 → NSt → NSt) (eU : Bool → Bool → NSt → NSt) (hA0 : ∀ s, eA [] s = s) (hB : ∀ u v s, eB (u ++ v) s = eB v (eB u s)) (acc : List UInt8) (a b : GSt) (s : NSt) (hl : a.1.length = b.1.length) (hq : quietG a) : docS eA eB eU a (accG acc b) s = docS eA eB eU a b (eB acc s) := by
  obtain ⟨x, xl⟩ := a
  obtain ⟨y, yl⟩ := b
  cases x with
  | nil =>
    obtain rfl : xl = [] := hq
    cases y with
    | nil => simp [docS, accG, docG, hA0, hB]
    | cons e y => simp at hl
  | cons c x =>
    cases y with
    | nil => simp at hl
    | cons e y =>
      obtain ⟨u, d⟩ := c
      obtain rfl : u = [] := hq
      simp [docS, accG, docG, hA0, hB]
theorem docS_units (eA eB : List UInt8 → NSt → NSt) (eU : Bool → Bool → NSt → NSt) (hA0 : ∀ s, eA [] s = s) (hB0 : ∀ s, eB [] s = s) (d e : Bool) : ∀ (k : Nat) (a b : GSt) (s : NSt), docS eA eB eU (List.replicate k ([], d) ++ a.1, a.2) (List.replicate k ([], e) ++ b.1, b.2) s = docS eA eB eU a b (stepsU (eU d e) k s)
  | 0, a, b, s => rfl
  | k + 1, a, b, s => by
    have := docS_units eA eB eU hA0 hB0 d e k a b (eU d e s)
    simpa [docS, docG, List.replicate_succ, hA0, hB0, stepsU] using this
/-- So many units off a first part. -/
theorem cut_unit (d : Bool) (n k : Nat) (hk : k ≤ n) : (cutP (unitK d (n + 1)) ((k : Int) + 1)).1 = unitK d (k + 1) ∧ ∀ ps, gapsR [] (unitK d (n + 1) :: ps) = (List.replicate (k + 1) ([], d) ++ (gapsR [] ((cutP (unitK d (n + 1)) ((k : Int) + 1)).2 ++ ps)).1, (gapsR [] ((cutP (unitK d (n + 1)) ((k : Int) + 1)).2 ++ ps)).2) := by
  have hl : lengthP (unitK d (n + 1)) = (n : Int) + 1 := by cases d <;> simp [lengthP, unitK]
  by_cases e : n = k
  · subst e
    have hc : cutP (unitK d (n + 1)) ((n : Int) + 1) = (unitK d (n + 1), []) := by unfold cutP; rw [if_pos hl]
    rw [hc]
    refine ⟨rfl, fun ps => ?_⟩
    rw [gaps_unit]
    simp [List.replicate_succ]
  · obtain ⟨m, rfl⟩ : ∃ m, n = k + (m + 1) := ⟨n - k - 1, by omega⟩
    have hc : cutP (unitK d (k + (m + 1) + 1)) ((k : Int) + 1) = (unitK d (k + 1), [unitK d (m + 1)]) := by
      unfold cutP
      rw [if_neg (by rw [hl]; omega)]
      cases d with
      | true =>
        have h1 : ¬ 0 < (unitK true (k + (m + 1) + 1)).keep := by simp [unitK]
        have h2 : 0 < (unitK true (k + (m + 1) + 1)).drop := by simp [unitK]; omega
        rw [if_neg h1, if_pos h2]
        simp [unitK]; omega
      | false =>
        have h1 : 0 < (unitK false (k + (m + 1) + 1)).keep := by simp [unitK]; omega
        rw [if_pos h1]
        simp [unitK]; omega
    rw [hc]
    refine ⟨rfl, fun ps => ?_⟩
    rw [List.singleton_append, gaps_unit, gaps_unit]
    have e2 : List.replicate (k + (m + 1)) (([] : List UInt8), d) = List.replicate k ([], d) ++ ([], d) :: List.replicate m ([], d) := by
      rw [← List.replicate_succ, List.replicate_append_replicate]
    rw [e2]
    simp [List.replicate_succ]

def runS (t : Pt × Pt → List Pt) (l : List (Pt × Pt)) (s : NSt) : NSt := l.foldl (fun s x => (t x).foldl addP s) s
def lensU (ps : List Pt) : Nat := (gapsR [] ps).1.length
theorem quiet_unit (d : Bool) (n : Nat) (ps : List Pt) : quietG (gapsR [] (unitK d (n + 1) :: ps)) := by
  rw [gaps_unit]; rfl
theorem put_isPut {u : List UInt8} (h : u ≠ []) : isPutP ⟨0, 0, u⟩ = true := by simp [isPutP, h]
theorem unit_isPut (d : Bool) (n : Nat) : isPutP (unitK d n) = false := by cases d <;> simp [isPutP, unitK]
def weight (ps : List Pt) : Nat := (ps.map fun p => (lengthP p).toNat).sum
theorem weight_cons (p : Pt) (ps : List Pt) : weight (p :: ps) = (lengthP p).toNat + weight ps := by simp [weight]
theorem weight_append (a b : List Pt) : weight (a ++ b) = weight a + weight b := by simp [weight]
theorem len_unit (d : Bool) (n : Nat) : lengthP (unitK d n) = (n : Int) := by cases d <;> simp [lengthP, unitK]
theorem cut_weight (d : Bool) (n k : Nat) (hk : k ≤ n) : weight (cutP (unitK d (n + 1)) ((k : Int) + 1)).2 = n - k := by
  have hl : lengthP (unitK d (n + 1)) = (n : Int) + 1 := by rw [len_unit]; simp
  unfold cutP
  by_cases e : n = k
  · subst e
    rw [if_pos hl]; simp [weight]
  · rw [if_neg (by rw [hl]; omega)]
    cases d with
    | true =>
      have h1 : ¬ 0 < (unitK true (n + 1)).keep := by simp [unitK]
      have h2 : 0 < (unitK true (n + 1)).drop := by simp [unitK]
      rw [if_neg h1, if_pos h2]
      simp [weight, lengthP, unitK]; omega
    | false =>
      have h1 : 0 < (unitK false (n + 1)).keep := by simp [unitK]
      rw [if_pos h1]
      simp [weight, lengthP, unitK]; omega

/-- Pair by pair, or gap by gap. -/
theorem side_gaps (t : Pt × Pt → List Pt) (eA eB : List UInt8 → NSt → NSt) (eU : Bool → Bool → NSt → NSt) (hA0 : ∀ s, eA [] s = s) (hB0 : ∀ s, eB [] s = s)
    (hA : ∀ u v s, eA (u ++ v) s = eA v (eA u s)) (hB : ∀ u v s, eB (u ++ v) s = eB v (eB u s))
    (tA : ∀ u s, u ≠ [] → (t (⟨0, 0, u⟩, noP)).foldl addP s = eA u s) (tB : ∀ u s, u ≠ [] → (t (noP, ⟨0, 0, u⟩)).foldl addP s = eB u s)
    (tU : ∀ d e k s, (t (unitK d (k + 1), unitK e (k + 1))).foldl addP s = stepsU (eU d e) (k + 1) s) :
    ∀ (f : Nat) (a b : List Pt) (s : NSt), (∀ p ∈ a, oneP p) → (∀ p ∈ b, oneP p) → lensU a = lensU b → weight a + weight b ≤ f →
      runS t (sideP isPutP isPutP f a b) s = docS eA eB eU (gapsR [] a) (gapsR [] b) s := by
  intro f
  induction f with
  | zero =>
    intro a b s ha hb hl hw
    have h0 : ∀ (l : List Pt), (∀ p ∈ l, oneP p) → weight l = 0 → l = [] := by
      intro l hl hw
      cases l with
      | nil => rfl
      | cons p l =>
        have := length_pos (hl p (by simp))
        rw [weight_cons] at hw
        omega
    obtain rfl := h0 a ha (by omega)
    obtain rfl := h0 b hb (by omega)
    simp [sideP, runS, docS, docG, gapsR, hA0, hB0]
  | succ f ih =>
    intro a b s ha hb hl hw
    cases a with
    | nil =>
      cases b with
      | nil => simp [sideP, runS, docS, docG, gapsR, hA0, hB0]
      | cons q b =>
        rcases one_cases (hb q (by simp)) with ⟨v, hv, rfl⟩ | ⟨e, m, rfl⟩
        · have hlq := length_pos (hb _ (List.mem_cons_self ..))
          rw [weight_cons] at hw
          have hb' : ∀ p ∈ b, oneP p := fun p hp => hb p (by simp [hp])
          unfold lensU at hl
          rw [gaps_put, gaps_acc b hb'] at hl ⊢
          have hl' : (gapsR [] ([] : List Pt)).1.length = (gapsR [] b).1.length := by
            rw [hl]; cases h : gapsR [] b with | mk x l => cases x <;> simp [accG]
          rw [docS_accB eA eB eU hA0 hB _ _ _ _ hl' rfl]
          rw [← ih [] b (eB ([] ++ v) s) (by simp) hb' hl' (by omega)]
          simp only [sideP, put_isPut hv, if_true, runS, List.foldl_cons, tB v s hv, List.nil_append]
        · unfold lensU at hl
          rw [gaps_unit] at hl
          simp [gapsR] at hl
    | cons p a =>
      have hlp := length_pos (ha p (by simp))
      have ha' : ∀ p ∈ a, oneP p := fun p hp => ha p (by simp [hp])
      rcases one_cases (ha p (by simp)) with ⟨u, hu, rfl⟩ | ⟨d, n, rfl⟩
      · rw [weight_cons] at hw
        unfold lensU at hl
        rw [gaps_put, gaps_acc a ha'] at hl ⊢
        have hl' : (gapsR [] a).1.length = (gapsR [] b).1.length := by
          rw [← hl]; cases h : gapsR [] a with | mk x l => cases x <;> simp [accG]
        rw [docS_accA eA eB eU hA _ _ _ _ hl']
        rw [← ih a b (eA ([] ++ u) s) ha' hb hl' (by omega)]
        simp only [sideP, put_isPut hu, if_true, runS, List.foldl_cons, tA u s hu, List.nil_append]
      · cases b with
        | nil =>
          unfold lensU at hl
          rw [gaps_unit] at hl
          simp [gapsR] at hl
        | cons q b =>
          have hb' : ∀ p ∈ b, oneP p := fun p hp => hb p (by simp [hp])
          have hlq := length_pos (hb q (by simp))
          rcases one_cases (hb q (by simp)) with ⟨v, hv, rfl⟩ | ⟨e, m, rfl⟩
          · rw [weight_cons _ b] at hw
            unfold lensU at hl
            rw [gaps_put, gaps_acc b hb'] at hl ⊢
            have hl' : (gapsR [] (unitK d (n + 1) :: a)).1.length = (gapsR [] b).1.length := by
              rw [hl]; cases h : gapsR [] b with | mk x l => cases x <;> simp [accG]
            rw [docS_accB eA eB eU hA0 hB _ _ _ _ hl' (quiet_unit d n a)]
            rw [← ih (unitK d (n + 1) :: a) b (eB ([] ++ v) s) ha hb' hl' (by omega)]
            simp only [sideP, unit_isPut, put_isPut hv, if_true, Bool.false_eq_true, if_false, runS, List.foldl_cons, tB v s hv, List.nil_append]
          · obtain ⟨k, hk⟩ : ∃ k, k = min n m := ⟨_, rfl⟩
            have l1 : lengthP (unitK d (n + 1)) = (n : Int) + 1 := by cases d <;> simp [lengthP, unitK]
            have l2 : lengthP (unitK e (m + 1)) = (m : Int) + 1 := by cases e <;> simp [lengthP, unitK]
            have hmin : min (lengthP (unitK d (n + 1))) (lengthP (unitK e (m + 1))) = (k : Int) + 1 := by rw [l1, l2]; omega
            obtain ⟨c1, c2⟩ := cut_unit d n k (by omega)
            obtain ⟨c3, c4⟩ := cut_unit e m k (by omega)
            obtain ⟨_, _, o1, _⟩ := cut_one (ha _ (List.mem_cons_self ..)) (n := (k : Int) + 1) (by omega) (by rw [l1]; omega)
            obtain ⟨_, _, o2, _⟩ := cut_one (hb _ (List.mem_cons_self ..)) (n := (k : Int) + 1) (by omega) (by rw [l2]; omega)
            have wA := cut_weight d n k (by omega)
            have wB := cut_weight e m k (by omega)
            rw [weight_cons, weight_cons, len_unit, len_unit] at hw
            have gA := c2 a
            have gB := c4 b
            have ho1 : ∀ p ∈ (cutP (unitK d (n + 1)) ((k : Int) + 1)).2 ++ a, oneP p := fun p hp => by
              rcases List.mem_append.1 hp with h | h
              · exact (o1 p h).1
              · exact ha' p h
            have ho2 : ∀ p ∈ (cutP (unitK e (m + 1)) ((k : Int) + 1)).2 ++ b, oneP p := fun p hp => by
              rcases List.mem_append.1 hp with h | h
              · exact (o2 p h).1
              · exact hb' p h
            have hl' : lensU ((cutP (unitK d (n + 1)) ((k : Int) + 1)).2 ++ a) = lensU ((cutP (unitK e (m + 1)) ((k : Int) + 1)).2 ++ b) := by
              unfold lensU at hl ⊢
              rw [gA, gB] at hl
              simp only [List.length_append, List.length_replicate] at hl
              omega
            rw [gA, gB, docS_units eA eB eU hA0 hB0 d e (k + 1), ← ih _ _ _ ho1 ho2 hl' (by rw [weight_append, weight_append, wA, wB]; omega)]
            simp only [sideP, unit_isPut, Bool.false_eq_true, if_false, runS, List.foldl_cons, hmin, c1, c3, tU]
end Go.Proofs.YtldhbjmillfjgaaGreatDoor

namespace Go.Proofs.YtldhbjmillfjgaaGreatDoor
set_option linter.unusedVariables false

def tPut (u : List UInt8) (s : NSt) : NSt := addP s ⟨0, 0, u⟩
def tKeep (v : List UInt8) (s : NSt) : NSt := addP s ⟨v.length, 0, []⟩
def tUnit (d e : Bool) (s : NSt) : NSt := if e then s else addP s (unitP d)
theorem tPut_nil (s : NSt) : tPut [] s = s := addP_none s
theorem tKeep_nil (s : NSt) : tKeep [] s = s := addP_none s
theorem tPut_more (u v : List UInt8) (s : NSt) : tPut (u ++ v) s = tPut v (tPut u s) := (addP_puts s u v).symm
theorem tKeep_more (u v : List UInt8) (s : NSt) : tKeep (u ++ v) s = tKeep v (tKeep u s) := by
  unfold tKeep
  cases u with
  | nil => simp [addP_none]
  | cons c u =>
    rw [addP_keeps s ((c :: u).length : Int) (v.length : Int) (by simp) (by omega), List.length_append]
    simp
theorem units_add (d : Bool) : ∀ (k : Nat) (s : NSt), stepsU (tUnit d false) (k + 1) s = addP s (unitK d (k + 1))
  | 0, s => by cases d <;> rfl
  | k + 1, s => by
    have e1 : stepsU (tUnit d false) (k + 1 + 1) s = stepsU (tUnit d false) (k + 1) (tUnit d false s) := rfl
    rw [e1, units_add d k]
    cases d with
    | true =>
      show addP (addP s ⟨0, 1, []⟩) ⟨0, ((k + 1 : Nat) : Int), []⟩ = addP s ⟨0, ((k + 1 + 1 : Nat) : Int), []⟩
      rw [addP_drops]
      congr 2
      omega
    | false =>
      show addP (addP s ⟨1, 0, []⟩) ⟨((k + 1 : Nat) : Int), 0, []⟩ = addP s ⟨((k + 1 + 1 : Nat) : Int), 0, []⟩
      rw [addP_keeps s 1 _ (by omega) (by omega)]
      congr 2
      omega
theorem units_none (d : Bool) : ∀ (k : Nat) (s : NSt), stepsU (tUnit d true) k s = s
  | 0, _ => rfl
  | k + 1, s => units_none d k s
theorem turnQ_put (u : List UInt8) (s : NSt) (h : u ≠ []) : (turnP (⟨0, 0, u⟩, noP)).foldl addP s = tPut u s := by simp [turnP, isPutP, noP, h, tPut]
theorem turnQ_keep (v : List UInt8) (s : NSt) (h : v ≠ []) : (turnP (noP, ⟨0, 0, v⟩)).foldl addP s = tKeep v s := by simp [turnP, isPutP, h, tKeep]
theorem turnQ_unit (d e : Bool) (k : Nat) (s : NSt) : (turnP (unitK d (k + 1), unitK e (k + 1))).foldl addP s = stepsU (tUnit d e) (k + 1) s := by
  cases e with
  | true =>
    rw [units_none]
    have h1 : isPutP (unitK true (k + 1)) = false := unit_isPut true (k + 1)
    have h2 : isPutP (unitK d (k + 1)) = false := unit_isPut d (k + 1)
    have h3 : isKeepP (unitK true (k + 1)) = false := by simp [isKeepP, unitK]
    simp [turnP, h1, h2, h3]
  | false =>
    rw [units_add]
    have h1 : isPutP (unitK false (k + 1)) = false := unit_isPut false (k + 1)
    have h3 : isKeepP (unitK false (k + 1)) = true := by simp [isKeepP, unitK]
    simp [turnP, h1, h3]

/-- The document's parts, added up. -/
theorem docT_true : ∀ (x : List (List UInt8 × Bool)) (xl : List UInt8) (y : List (List UInt8 × Bool)) (yl : List UInt8) (s : NSt), (docT true x xl y yl).foldl addP s = docG tPut tKeep tUnit x xl y yl s
  | [], xl, [], yl, s => rfl
  | [], xl, _ :: _, yl, s => rfl
  | _ :: _, xl, [], yl, s => rfl
  | (u, d) :: x, xl, (v, e) :: y, yl, s => by
    rw [docT, docG, List.foldl_append, docT_true x xl y yl]
    cases e <;> rfl
theorem docT_false : ∀ (x : List (List UInt8 × Bool)) (xl : List UInt8) (y : List (List UInt8 × Bool)) (yl : List UInt8) (s : NSt), (docT false x xl y yl).foldl addP s = docG tKeep tPut (fun e d => tUnit d e) y yl x xl s
  | [], xl, [], yl, s => rfl
  | [], xl, _ :: _, yl, s => rfl
  | _ :: _, xl, [], yl, s => rfl
  | (u, d) :: x, xl, (v, e) :: y, yl, s => by
    rw [docT, docG, List.foldl_append, docT_false x xl y yl]
    cases e <;> rfl

/-- Transform, a's first. -/
theorem turn_first (f : Nat) (a b : List Pt) (s : NSt) (ha : ∀ p ∈ a, oneP p) (hb : ∀ p ∈ b, oneP p) (hl : lensU a = lensU b) (hw : weight a + weight b ≤ f) :
    runS turnP (sideP isPutP isPutP f a b) s = (docT true (gapsR [] a).1 (gapsR [] a).2 (gapsR [] b).1 (gapsR [] b).2).foldl addP s := by
  rw [docT_true]
  exact side_gaps turnP tPut tKeep tUnit tPut_nil tKeep_nil tPut_more tKeep_more turnQ_put turnQ_keep turnQ_unit f a b s ha hb hl hw
/-- Transform, the other's first. -/
theorem turn_second (f : Nat) (a b : List Pt) (s : NSt) (ha : ∀ p ∈ a, oneP p) (hb : ∀ p ∈ b, oneP p) (hl : lensU a = lensU b) (hw : weight a + weight b ≤ f) :
    runS (fun x => turnP (x.2, x.1)) (sideP isPutP isPutP f b a) s = (docT false (gapsR [] a).1 (gapsR [] a).2 (gapsR [] b).1 (gapsR [] b).2).foldl addP s := by
  rw [docT_false]
  exact side_gaps (fun x => turnP (x.2, x.1)) tKeep tPut (fun e d => tUnit d e) tKeep_nil tPut_nil tKeep_more tPut_more (fun v s h => turnQ_keep v s h) (fun u s h => turnQ_put u s h) (fun e d k s => turnQ_unit d e k s) f b a s hb ha hl.symm (by omega)
end Go.Proofs.YtldhbjmillfjgaaGreatDoor

namespace Go.Proofs.YtldhbjmillfjgaaGreatDoor
set_option linter.unusedVariables false

structure OneS (s : NSt) : Prop where
  out : ∀ p ∈ s.out, oneP p
  drop : 0 ≤ s.drop
theorem tell_one {s : NSt} (h : OneS s) : ∀ p ∈ tellP s, oneP p := by
  intro p hp
  unfold tellP at hp
  rcases List.mem_append.1 hp with hp | hp
  · exact h.out p hp
  · rcases List.mem_append.1 hp with hp | hp
    · split at hp
      · simp at hp
      · rename_i hne
        rw [List.mem_singleton.1 hp]
        exact .inr (.inr ⟨rfl, rfl, hne⟩)
    · split at hp
      · simp at hp
      · rename_i hne
        rw [List.mem_singleton.1 hp]
        have := h.drop
        exact .inr (.inl ⟨rfl, by show 0 < s.drop; omega, rfl⟩)
theorem push_one {l : List Pt} (h : ∀ p ∈ l, oneP p) {k : Int} (hk : 0 < k) : ∀ p ∈ pushKeep l k, oneP p := by
  intro p hp
  unfold pushKeep at hp
  have hnew : oneP (⟨k, 0, []⟩ : Pt) := .inl ⟨hk, rfl, rfl⟩
  cases hq : l.getLast? with
  | none =>
    rw [hq] at hp
    simp only [List.mem_append, List.mem_singleton] at hp
    rcases hp with hp | rfl
    · exact h p hp
    · exact hnew
  | some q =>
    rw [hq] at hp
    have hql : q ∈ l := List.mem_of_getLast? hq
    simp only at hp
    split at hp
    · rename_i h0
      simp only [List.mem_append, List.mem_singleton] at hp
      rcases hp with hp | rfl
      · exact h p (List.dropLast_subset l hp)
      · rcases h q hql with ⟨h1, h2, h3⟩ | ⟨h1, _, _⟩ | ⟨h1, _, _⟩
        · exact .inl ⟨by show 0 < q.keep + k; omega, h2, h3⟩
        · omega
        · omega
    · simp only [List.mem_append, List.mem_singleton] at hp
      rcases hp with hp | rfl
      · exact h p hp
      · exact hnew
theorem add_one {s : NSt} (h : OneS s) (p : Pt) (hk : 0 ≤ p.keep) (hd : 0 ≤ p.drop) : OneS (addP s p) := by
  unfold addP
  have h' : OneS ⟨s.out, s.put ++ p.put, s.drop + p.drop⟩ := ⟨h.out, by have := h.drop; show 0 ≤ s.drop + p.drop; omega⟩
  split
  · exact h'
  · rename_i hk0
    exact ⟨push_one (tell_one h') (by omega), by show (0 : Int) ≤ 0; omega⟩
theorem fold_one (ps : List Pt) (h : ∀ p ∈ ps, 0 ≤ p.keep ∧ 0 ≤ p.drop) : ∀ s, OneS s → OneS (ps.foldl addP s) := by
  induction ps with
  | nil => exact fun s hs => hs
  | cons p ps ih => exact fun s hs => ih (fun q hq => h q (by simp [hq])) _ (add_one hs p (h p (by simp)).1 (h p (by simp)).2)
theorem norm_one (ps : List Pt) (h : ∀ p ∈ ps, 0 ≤ p.keep ∧ 0 ≤ p.drop) : ∀ p ∈ normP ps, oneP p :=
  tell_one (fold_one ps h nst0 ⟨by simp [nst0], by simp [nst0]⟩)

/-- How long it is, is kept. -/
def longP (ps : List Pt) : Int := (ps.map lenP).sum
def longS (s : NSt) : Int := longP s.out + s.drop
theorem long_append (a b : List Pt) : longP (a ++ b) = longP a + longP b := by simp [longP]
theorem tell_long (s : NSt) : longP (tellP s) = longS s := by
  unfold tellP longS
  rw [long_append, long_append]
  by_cases hp : s.put = [] <;> by_cases hd : s.drop = 0 <;> simp [longP, lenP, hp, hd]
theorem push_long (l : List Pt) (k : Int) : longP (pushKeep l k) = longP l + k := by
  unfold pushKeep
  cases hq : l.getLast? with
  | none => simp [longP, lenP]
  | some q =>
    simp only
    split
    · have e : l = l.dropLast ++ [q] := by
        have hne : l ≠ [] := by rintro rfl; simp at hq
        have := List.dropLast_concat_getLast hne
        rw [List.getLast?_eq_some_getLast hne] at hq
        rw [Option.some.inj hq] at this
        exact this.symm
      conv => rhs; rw [e]
      rw [long_append, long_append]
      simp [longP, lenP]
      omega
    · rw [long_append]; simp [longP, lenP]
theorem add_long (s : NSt) (p : Pt) : longS (addP s p) = longS s + lenP p := by
  unfold addP
  split
  · rename_i h
    simp [longS, lenP, h]
    omega
  · show longP (pushKeep _ _) + 0 = _
    rw [push_long, tell_long]
    simp [longS, lenP]
    omega
theorem fold_long (ps : List Pt) : ∀ s, longS (ps.foldl addP s) = longS s + longP ps := by
  induction ps with
  | nil => intro s; simp [longP]
  | cons p ps ih =>
    intro s
    rw [List.foldl_cons, ih, add_long]
    simp [longP]
    omega
theorem norm_long (ps : List Pt) : longP (normP ps) = longP ps := by
  unfold normP
  rw [tell_long, fold_long]
  simp [longS, nst0, longP]
theorem lensU_long (ps : List Pt) (h : ∀ p ∈ ps, 0 ≤ p.keep ∧ 0 ≤ p.drop) : (lensU ps : Int) = longP ps := by
  unfold lensU
  have key : ∀ (ps : List Pt), (∀ p ∈ ps, 0 ≤ p.keep ∧ 0 ≤ p.drop) → ∀ acc, ((gapsR acc ps).1.length : Int) = longP ps := by
    intro ps
    induction ps with
    | nil => intro _ acc; simp [gapsR, longP]
    | cons p ps ih =>
      intro h acc
      have h1 := spreadP_len ([], acc) p (h p (by simp)).1 (h p (by simp)).2
      have h2 := ih (fun q hq => h q (by simp [hq])) (spreadP ([], acc) p).2
      simp only [gapsR, List.length_append, longP, List.map_cons, List.sum_cons] at h2 ⊢
      push_cast
      simp only [List.length_nil] at h1
      omega
  exact key ps h []
end Go.Proofs.YtldhbjmillfjgaaGreatDoor

namespace Go.Proofs.YtldhbjmillfjgaaGreatDoor
set_option linter.unusedVariables false

/-- A part in another unit. -/
def unit1 (n : Int) (q : Pt) : Pt := if 0 < q.keep then ⟨n, 0, []⟩ else if 0 < q.drop then ⟨0, n, []⟩ else ⟨0, 0, q.put⟩
/-- How much is ahead of a place, as runes. -/
def upTo (rs : List Nat) (u a : Int) : List Nat := find (reachesBy u a) [] rs
def onEdge (rs : List Nat) (u a : Int) : Bool := decide (by_ u (upTo rs u a) = a)
/-- The parts in another unit, and whether all end between two runes. -/
def turnZ (rs : List Nat) (u v : Int) : Int → List Pt → List Pt × Bool
  | _, [] => ([], true)
  | a, q :: qs => if onEdge rs u (a + lenP q) then
      (unit1 (by_ v (upTo rs u (a + lenP q)) - by_ v (upTo rs u a)) q :: (turnZ rs u v (a + lenP q) qs).1, (turnZ rs u v (a + lenP q) qs).2)
    else ([], false)
theorem C2_one (r : Nat) : 1 ≤ C2 [r] := by
  unfold C2 sum2 wide
  simp only [List.map_cons, List.map_nil, List.sum_cons, List.sum_nil, Int.add_zero]
  unfold cH
  split <;> omega
theorem by_one {u : Int} (hu : unitOk u) (r : Nat) : 1 ≤ by_ u [r] := by
  unfold by_
  rcases hu with rfl | rfl | rfl
  · rw [if_pos rfl, C1_len]
    have := List.length_pos_iff.2 (enc_ne r)
    have e : encs [r] = enc r := by simp [encs]
    rw [e]; omega
  · rw [if_neg (by decide), if_pos rfl]
    exact C2_one r
  · rw [if_neg (by decide), if_neg (by decide), if_pos rfl]
    show (1 : Int) ≤ ((1 : Nat) : Int); omega
/-- More runes, more of each unit. -/
theorem by_mono {u : Int} (hu : unitOk u) : ∀ (rs : List Nat) (i j : Nat), i < j → j ≤ rs.length → by_ u (rs.take i) < by_ u (rs.take j)
  | rs, i, j, h, hj => by
    have e : rs.take j = rs.take i ++ (rs.drop i).take (j - i) := by rw [← List.take_add]; congr 1; omega
    rw [e, by_append]
    have hne : (rs.drop i).take (j - i) ≠ [] := fun e => by
      have := congrArg List.length e
      rw [List.length_take, List.length_drop, List.length_nil] at this
      omega
    cases hx : (rs.drop i).take (j - i) with
    | nil => exact absurd hx hne
    | cons r x =>
      have e2 : r :: x = [r] ++ x := rfl
      rw [e2, by_append]
      have := by_one hu r
      have := by_pos u x
      omega
/-- What is ahead of a place: as few runes as reach it. -/
theorem find_least (u a : Int) : ∀ (rs pre : List Nat), a ≤ by_ u (pre ++ rs) → ∃ k, k ≤ rs.length ∧ find (reachesBy u a) pre rs = pre ++ rs.take k ∧ a ≤ by_ u (pre ++ rs.take k) ∧ ∀ i, i < k → by_ u (pre ++ rs.take i) < a
  | [], pre, h => by
    refine ⟨0, Nat.le_refl _, ?_, by simpa using h, fun i hi => absurd hi (Nat.not_lt_zero _)⟩
    have : reachesBy u a pre = true := decide_eq_true (by simpa using h)
    unfold find
    rw [if_pos this]; simp
  | r :: rs, pre, h => by
    by_cases h0 : a ≤ by_ u pre
    · refine ⟨0, Nat.zero_le _, ?_, by simpa using h0, fun i hi => absurd hi (Nat.not_lt_zero _)⟩
      have : reachesBy u a pre = true := decide_eq_true h0
      unfold find
      rw [if_pos this]; simp
    · obtain ⟨k, k1, k2, k3, k4⟩ := find_least u a rs (pre ++ [r]) (by simpa using h)
      have e : ∀ i, pre ++ (r :: rs).take (i + 1) = (pre ++ [r]) ++ rs.take i := fun i => by simp
      refine ⟨k + 1, by simp; omega, ?_, by rw [e]; exact k3, fun i hi => ?_⟩
      · rw [e, ← k2]
        have hf : reachesBy u a pre = false := decide_eq_false h0
        conv => lhs; unfold find
        rw [hf, if_neg (by decide), seek]
        conv => rhs; unfold find
        split
        · rfl
        · simp
      · cases i with
        | zero => rw [List.take_zero, List.append_nil]; omega
        | succ i => rw [e]; exact k4 i (by omega)
/-- What is ahead, as the first runes. -/
theorem upTo_least (rs : List Nat) (u a : Int) (h : a ≤ by_ u rs) : ∃ k, k ≤ rs.length ∧ upTo rs u a = rs.take k ∧ a ≤ by_ u (rs.take k) ∧ ∀ i, i < k → by_ u (rs.take i) < a := by
  obtain ⟨k, h1, h2, h3, h4⟩ := find_least u a rs [] (by simpa using h)
  exact ⟨k, h1, by unfold upTo; simpa using h2, by simpa using h3, fun i hi => by simpa using h4 i hi⟩
/-- The first of the places at which it is just so much; there is one where what is ahead is so much. -/
theorem edge_first {u : Int} (hu : unitOk u) {rs : List Nat} {a : Int} (h : a ≤ by_ u rs) :
    (onEdge rs u a = true → ∃ k, k ≤ rs.length ∧ upTo rs u a = rs.take k ∧ by_ u (rs.take k) = a ∧ ∀ i, i < k → by_ u (rs.take i) ≠ a) ∧
    (onEdge rs u a = false → ∀ i, i ≤ rs.length → by_ u (rs.take i) ≠ a) := by
  obtain ⟨k, h1, h2, h3, h4⟩ := upTo_least rs u a h
  unfold onEdge
  rw [h2]
  refine ⟨fun e => ⟨k, h1, h2 ▸ rfl, of_decide_eq_true e, fun i hi => by have := h4 i hi; omega⟩, fun e i hi e2 => ?_⟩
  have hne : by_ u (rs.take k) ≠ a := of_decide_eq_false e
  by_cases hik : i < k
  · have := h4 i hik; omega
  · by_cases hke : k = i
    · subst hke; exact hne e2
    · have := by_mono hu rs k i (by omega) hi
      omega
theorem upTo_le {u v : Int} (rs : List Nat) {a : Int} (h : a ≤ by_ u rs) : by_ v (upTo rs u a) ≤ by_ v rs := by
  obtain ⟨k, h1, h2, _, _⟩ := upTo_least rs u a h
  rw [h2]
  have e : rs = rs.take k ++ rs.drop k := (List.take_append_drop k rs).symm
  have : by_ v rs = by_ v (rs.take k) + by_ v (rs.drop k) := by rw [← by_append, List.take_append_drop]
  have := by_pos v (rs.drop k)
  omega
theorem upTo_mono {u v : Int} (rs : List Nat) {a b : Int} (hab : a ≤ b) (h : b ≤ by_ u rs) : by_ v (upTo rs u a) ≤ by_ v (upTo rs u b) := by
  obtain ⟨k, k1, k2, k3, k4⟩ := upTo_least rs u a (by omega)
  obtain ⟨j, j1, j2, j3, j4⟩ := upTo_least rs u b h
  rw [k2, j2]
  have hkj : k ≤ j := by
    by_cases hh : k ≤ j
    · exact hh
    · have := k4 j (by omega); omega
  have e : rs.take j = rs.take k ++ (rs.drop k).take (j - k) := by rw [← List.take_add]; congr 1; omega
  rw [e, by_append]
  have := by_pos v ((rs.drop k).take (j - k))
  omega
theorem upTo_zero (rs : List Nat) (u : Int) : upTo rs u 0 = [] := find_zero u rs
end Go.Proofs.YtldhbjmillfjgaaGreatDoor

namespace Go.Proofs.YtldhbjmillfjgaaGreatDoor
open Go.RowKit
set_option linter.unusedVariables false
attribute [local go_sem] Oper.semAt_some

theorem inB_unit (u : Int) : inB u 1 3 = true ↔ unitOk u := by
  unfold inB unitOk
  rw [decide_eq_true_iff]
  constructor
  · intro h; omega
  · intro h; omega
set_option maxHeartbeats 1000000 in
theorem refAhead_bad (s : ByteArray) (u a : Int) (hu : ¬ unitOk u) (w : World) :
    Calls Tryz.prog 15 #[.string s, .int .i64 u, .int .i64 a] w fun e w' => e = .returned (.tuple #[cntV [], .int .i64 1]) ∧ Below w.heap.size w w' := by
  have hb : inB u 1 3 = false := Bool.eq_false_iff.2 fun e => hu ((inB_unit u).1 e)
  have cI := fun wx => in_any u 1 3 wx
  rw [hb] at cI
  have hC : cntV [] = .agg #[.int .i64 0, .int .i64 0, .int .i64 0, .int .i64 0] := rfl
  have HB : Hid (Below w.heap.size w (w.alloc (.cells #[.int .i64 0, .int .i64 0, .int .i64 0, .int .i64 0] 29))) := (Below.refl _ w).alloc (Nat.le_refl _) _
  rw [hC]
  clear hu hb hC
  go_enter Tryz.func15, Tryz.ntmps15
  go_wp2_with (first
    | (go_at_call 32; refine (cI _).mono ?_; rintro e w1 ⟨rfl, hw1⟩; obtain rfl := hw1.symm)
    | fail)
  refine bodyPost_ret (v := .tuple #[.agg #[.int .i64 0, .int .i64 0, .int .i64 0, .int .i64 0], .int .i64 1]) (by simp [results, Tryz.results15, go_sem]) rfl ⟨rfl, HB.out⟩

def raI (w W : World) (g c : Nat) (rs : List Nat) (u a : Int) (k : Nat) (wr : World) : Prop :=
  k ≤ rs.length + 1 ∧ (∀ i, i < k → by_ u (rs.take i) ≠ a) ∧ Below W.heap.size W wr
set_option maxRecDepth 100000 in
set_option maxHeartbeats 8000000 in
theorem refAhead_any (s : ByteArray) (rs : List Nat) (u a : Int) (hr : ∀ r ∈ rs, isRune r) (he : encs rs = s.data.toList) (hs : s.size < 1000000) (hu : unitOk u) (h0 : 0 ≤ a) (h1 : a ≤ by_ u rs) (w : World) :
    Calls Tryz.prog 15 #[.string s, .int .i64 u, .int .i64 a] w fun e w' => e = .returned (.tuple #[cntV (if onEdge rs u a then upTo rs u a else []), .int .i64 (if onEdge rs u a then 0 else 10)]) ∧ Below w.heap.size w w' := by
  have hC1 : C1 rs = s.size := by rw [C1_len, he, ← Lib.size_eq]
  have hru : inB u 1 3 = true := (inB_unit u).2 hu
  have hra : inB a 0 (by_ u rs) = true := decide_eq_true ⟨h0, h1⟩
  have hu0 : -9223372036854775808 ≤ u ∧ u < 9223372036854775808 := by unfold unitOk at hu; omega
  have cI1 := fun wx => in_any u 1 3 wx
  rw [hru] at cI1
  have cI2 := fun wx => in_any a 0 (by_ u rs) wx
  rw [hra] at cI2
  have cC : Hid (∀ wx, Calls Tryz.prog 6 #[.string s] wx fun e w' => e = .returned (.tuple #[cntV rs, .agg #[.int .i64 0, .int .i64 (-1)]]) ∧ Below wx.heap.size wx w') := fun wx => refCount_of s rs hr he (by omega) wx
  have cN : Hid (∀ wx, Calls Tryz.prog 20 #[cntV rs, .int .i64 u] wx fun e w' => e = .returned (.int .i64 (by_ u rs)) ∧ Below wx.heap.size wx w') := fun wx => refIn_any u rs hu0.1 hu0.2 (by omega) wx
  have hsc := scan_encs rs hr
  rw [he] at hsc
  have hro : runesOf s.data.toList = rs := by
    unfold runesOf
    rw [hsc]
    simp [wide, List.map_map, Function.comp_def]
  have cE : Hid (∀ wx, Calls Tryz.prog 44 #[.string s] wx fun e w' => ∃ v, e = .returned v ∧ w'.ownsRow wx.heap.size 29 4 v (rs.length + 1) (edges rs (rs.length + 1)) ∧ Below wx.heap.size wx w') := fun wx => by
    have := refEdges_any s (by omega) wx (by rw [hsc])
    rw [hro] at this
    exact this
  obtain ⟨e1, e2⟩ := edge_first hu h1
  have HE1 : Hid _ := e1
  have HE2 : Hid _ := e2
  have HR : Hid (∀ r ∈ rs, isRune r) := hr
  have cT : Hid (∀ i wx, Calls Tryz.prog 20 #[cntV (rs.take i), .int .i64 u] wx fun e w' => e = .returned (.int .i64 (by_ u (rs.take i))) ∧ Below wx.heap.size wx w') := fun i wx => refIn_any u (rs.take i) hu0.1 hu0.2 (by
    have e : C1 rs = C1 (rs.take i) + C1 (rs.drop i) := by rw [← C1_append, List.take_append_drop]
    have := C1_pos (rs.drop i)
    omega) wx
  have hrl : rs.length < 1000000 := by have := C3_le rs; unfold C3 at this; omega
  have hb0 : Below w.heap.size w (w.alloc (.cells #[.int .i64 0, .int .i64 0, .int .i64 0, .int .i64 0] 29)) := (Below.refl _ w).alloc (Nat.le_refl _) _
  have HB0 : Hid _ := hb0
  have HK0 : Hid (counted (w.alloc (.cells #[.int .i64 0, .int .i64 0, .int .i64 0, .int .i64 0] 29)) w.heap.size 0 0 0 0) := counted_new w 0 0 0 0 29
  obtain ⟨Bu, hBu⟩ : ∃ Bu, by_ u rs = Bu := ⟨_, rfl⟩
  rw [hBu] at cI2 cN
  obtain ⟨XA, hXA⟩ : ∃ XA, (if onEdge rs u a then upTo rs u a else []) = XA := ⟨_, rfl⟩
  obtain ⟨EA, hEA⟩ : ∃ EA : Int, (if onEdge rs u a then 0 else 10) = EA := ⟨_, rfl⟩
  have HXA : Hid _ := hXA
  have HEA : Hid _ := hEA
  rw [hXA, hEA]
  clear hXA hEA
  unfold cntV at cC cN cT
  clear hr he hs hu h0 h1 hC1 hru hra hu0 hsc hro e1 e2 hb0 hBu
  go_enter Tryz.func15, Tryz.ntmps15
  go_wp2_with (first
    | (have _ := HB2; go_at_call 32; refine (cI2 _).mono ?_; rintro e w1 ⟨rfl, hw1⟩; obtain rfl := hw1.symm)
    | (go_at_call 32; refine (cI1 _).mono ?_; rintro e w1 ⟨rfl, hw1⟩; obtain rfl := hw1.symm)
    | (go_at_call 6; refine (cC.out _).mono ?_; rintro e w1 ⟨rfl, hb1⟩; have HB1 : Hid (Below w.heap.size w w1) := HB0.out.trans (hb1.mono HB0.out.size); have HK1 : Hid (counted w1 w.heap.size 0 0 0 0) := counted_below HK0.out hb1; have hbx := (Below.refl w1.heap.size w1).alloc (Nat.le_refl _) (.cells #[.int .i64 (C1 rs), .int .i64 (C2 rs), .int .i64 (C3 rs), .int .i64 (C4 rs)] 29); have hby := hbx.alloc hbx.size (.cells #[.int .i64 0, .int .i64 (-1)] 32); have HBY : Hid (Below w1.heap.size w1 ((w1.alloc (.cells #[.int .i64 (C1 rs), .int .i64 (C2 rs), .int .i64 (C3 rs), .int .i64 (C4 rs)] 29)).alloc (.cells #[.int .i64 0, .int .i64 (-1)] 32))) := hby; clear hb1 hbx hby)
    | (go_at_call 20; refine (cN.out _).mono ?_; rintro e w2 ⟨rfl, hb2⟩; have HB2 : Hid (Below w.heap.size w w2) := HB1.out.trans ((HBY.out.trans (hb2.mono HBY.out.size)).mono HB1.out.size); have HK2 : Hid (counted w2 w.heap.size 0 0 0 0) := counted_below HK1.out (HBY.out.trans (hb2.mono HBY.out.size)); clear hb2)
    | (go_at_call 44; refine (cE.out _).mono ?_; rintro e w3 ⟨v3, rfl, ho3, hb3⟩; obtain ⟨g, c3, rfl, hg1, hg2⟩ := own_pos ho3 (Nat.succ_pos _); have HO3 : Hid (w3.ownsRow w2.heap.size 29 4 (.slice (some ⟨g, 0, none⟩) (rs.length + 1) c3) (rs.length + 1) (edges rs (rs.length + 1))) := ho3; have HB3 : Hid (Below w.heap.size w w3) := HB2.out.trans (hb3.mono HB2.out.size); have HK3 : Hid (counted w3 w.heap.size 0 0 0 0) := counted_below HK2.out hb3; clear ho3 hb3)
    | fail)
  clear cI1 cI2 cC cN cE HB0 HB1 HBY HB2 HK0 HK1 HK2
  go_loopw [31] (fun i wr => ∃ k : Nat, i = .int .i64 k ∧ k ≤ rs.length + 1 ∧ (∀ j, j < k → by_ u (rs.take j) ≠ a) ∧ Below w3.heap.size w3 wr) (fun i _ => rs.length + 1 - (intOf i).toNat)
  case atStart => exact ⟨0, rfl, Nat.zero_le _, fun j hj => absurd hj (Nat.not_lt_zero _), Below.refl _ _⟩
  case round =>
    obtain ⟨k, rfl, hk, hno, hbw⟩ := hrel
    have HNO : Hid (∀ j, j < k → by_ u (rs.take j) ≠ a) := hno
    have HBW : Hid (Below w3.heap.size w3 wr) := hbw
    have hKr := counted_below HK3.out hbw
    have HKR : Hid (counted wr w.heap.size 0 0 0 0) := hKr
    have HWR : Hid (Below w.heap.size w wr) := HB3.out.trans (hbw.mono HB3.out.size)
    clear hno hKr
    by_cases hlt : k < rs.length + 1
    · have hkl : (k : Int) < (rs.length : Int) + 1 := by omega
      have hown := own_below HO3.out hbw
      have hec := edge_cnt HR.out (i := k) (by omega)
      have g0 : wr.cell? ⟨g, k * 4, none⟩ = some (.int .i64 (C1 (rs.take k))) := edge_cell hown k 0 hlt (by omega) (by rw [hec]; rfl)
      have g1 : wr.cell? ⟨g, k * 4 + 1, none⟩ = some (.int .i64 (C2 (rs.take k))) := edge_cell hown k 1 hlt (by omega) (by rw [hec]; rfl)
      have g2 : wr.cell? ⟨g, k * 4 + 2, none⟩ = some (.int .i64 (C3 (rs.take k))) := edge_cell hown k 2 hlt (by omega) (by rw [hec]; rfl)
      have g3 : wr.cell? ⟨g, k * 4 + 3, none⟩ = some (.int .i64 (C4 (rs.take k))) := edge_cell hown k 3 hlt (by omega) (by rw [hec]; rfl)
      have hbx : Below wr.heap.size wr (wr.alloc (.cells #[.int .i64 (C1 (rs.take k)), .int .i64 (C2 (rs.take k)), .int .i64 (C3 (rs.take k)), .int .i64 (C4 (rs.take k))] 29)) := (Below.refl _ _).alloc (Nat.le_refl _) _
      have HBX : Hid (Below wr.heap.size wr (wr.alloc (.cells #[.int .i64 (C1 (rs.take k)), .int .i64 (C2 (rs.take k)), .int .i64 (C3 (rs.take k)), .int .i64 (C4 (rs.take k))] 29))) := hbx
      have HCX : Hid (counted (wr.alloc (.cells #[.int .i64 (C1 (rs.take k)), .int .i64 (C2 (rs.take k)), .int .i64 (C3 (rs.take k)), .int .i64 (C4 (rs.take k))] 29)) wr.heap.size (C1 (rs.take k)) (C2 (rs.take k)) (C3 (rs.take k)) (C4 (rs.take k))) := counted_new wr _ _ _ _ _
      have cK := fun wx => cT.out k wx
      have CK : Hid (∀ wx, Calls Tryz.prog 20 #[.agg #[.int .i64 (C1 (rs.take k)), .int .i64 (C2 (rs.take k)), .int .i64 (C3 (rs.take k)), .int .i64 (C4 (rs.take k))], .int .i64 u] wx fun e w' => e = .returned (.int .i64 (by_ u (rs.take k))) ∧ Below wx.heap.size wx w') := cK
      by_cases heq : by_ u (rs.take k) = a
      · have HEQ : Hid (onEdge rs u a = true ∧ upTo rs u a = rs.take k) := by
          show onEdge rs u a = true ∧ upTo rs u a = rs.take k
          cases hE : onEdge rs u a with
          | false => exact absurd heq (HE2.out hE k (by omega))
          | true =>
            obtain ⟨j, j1, j2, j3, j4⟩ := HE1.out hE
            have : j = k := by
              by_cases h1 : j < k
              · exact absurd j3 (HNO.out j h1)
              · by_cases h2 : k < j
                · exact absurd heq (j4 k h2)
                · omega
            subst this
            exact ⟨rfl, j2⟩
        rw [heq] at CK
        clear hown hec hbx cK heq hbw HNO
        go_wp2_with (first
          | (go_at_call 20; refine (CK.out _).mono ?_; rintro e w5 ⟨rfl, hb5⟩; have hg := HBX.out.trans (hb5.mono HBX.out.size); have HB5 : Hid (Below w.heap.size w w5) := HWR.out.trans (hg.mono HWR.out.size); have HK5 : Hid (counted w5 w.heap.size 0 0 0 0) := counted_below HKR.out hg; have hC5 := counted_below HCX.out hb5; have HC5 : Hid _ := hC5; obtain ⟨⟨m0, m1, m2, m3⟩, _⟩ := hC5; obtain ⟨⟨z0, z1, z2, z3⟩, y0, y1, y2, y3⟩ := counted_below HKR.out hg; clear hb5 hg)
          | fail)
        have hset := counted_set (m1 := C1 (rs.take k)) (m2 := C2 (rs.take k)) (m3 := C3 (rs.take k)) (m4 := C4 (rs.take k)) HK5.out
        obtain ⟨⟨s0, s1, s2, s3⟩, _⟩ := hset
        refine bodyPost_ret (v := .tuple #[.agg #[.int .i64 (C1 (rs.take k)), .int .i64 (C2 (rs.take k)), .int .i64 (C3 (rs.take k)), .int .i64 (C4 (rs.take k))], .int .i64 0]) (by simp [results, Tryz.results15, go_sem, s0, s1, s2, s3]) rfl ⟨?_, below_set4 HB5.out (Nat.le_refl _) _ _ _ _⟩
        rw [← HXA.out, ← HEA.out, HEQ.out.1, HEQ.out.2]; rfl
      · have hne : (by_ u (rs.take k) == a) = false := beq_eq_false_iff_ne.2 heq
        have HNE : Hid (by_ u (rs.take k) ≠ a) := heq
        obtain ⟨bx, hbxe⟩ : ∃ bx, by_ u (rs.take k) = bx := ⟨_, rfl⟩
        rw [hbxe] at CK hne
        clear hown hec hbx cK heq hbw hbxe
        go_wp2_with (first
          | (go_at_call 20; refine (CK.out _).mono ?_; rintro e w5 ⟨rfl, hb5⟩; have hg := HBX.out.trans (hb5.mono HBX.out.size); have HB5 : Hid (Below w3.heap.size w3 w5) := HBW.out.trans (hg.mono HBW.out.size); clear hb5 hg)
          | fail)
        go_roundw
        case rel =>
          refine ⟨k + 1, by go_num, by omega, fun j hj => ?_, HB5.out⟩
          by_cases h1 : j = k
          · subst h1; exact HNE.out
          · exact HNO.out j (by omega)
        case measure => simp [intOf]; omega
    · obtain rfl : k = rs.length + 1 := by omega
      have hkl : ¬ ((rs.length + 1 : Nat) : Int) < (rs.length : Int) + 1 := by omega
      have HEQ : Hid (onEdge rs u a = false) := by
        show onEdge rs u a = false
        cases hE : onEdge rs u a with
        | false => rfl
        | true =>
          obtain ⟨j, j1, j2, j3, j4⟩ := HE1.out hE
          exact absurd j3 (HNO.out j (by omega))
      clear hbw HNO
      obtain ⟨⟨z0, z1, z2, z3⟩, y0, y1, y2, y3⟩ := HKR.out
      go_wp2
      have hset := counted_set (m1 := 0) (m2 := 0) (m3 := 0) (m4 := 0) HKR.out
      obtain ⟨⟨s0, s1, s2, s3⟩, _⟩ := hset
      refine bodyPost_ret (v := .tuple #[.agg #[.int .i64 0, .int .i64 0, .int .i64 0, .int .i64 0], .int .i64 10]) (by simp [results, Tryz.results15, go_sem, s0, s1, s2, s3]) rfl ⟨?_, below_set4 HWR.out (Nat.le_refl _) _ _ _ _⟩
      rw [← HXA.out, ← HEA.out, HEQ.out]; rfl
end Go.Proofs.YtldhbjmillfjgaaGreatDoor

namespace Go.Proofs.YtldhbjmillfjgaaGreatDoor
open Go.RowKit
set_option linter.unusedVariables false
attribute [local go_sem] Oper.semAt_some

set_option maxRecDepth 100000 in
set_option maxHeartbeats 8000000 in
theorem refAhead_rng (s : ByteArray) (rs : List Nat) (u a : Int) (hr : ∀ r ∈ rs, isRune r) (he : encs rs = s.data.toList) (hs : s.size < 1000000) (hu : unitOk u) (hl : a < 0 ∨ by_ u rs < a) (w : World) :
    Calls Tryz.prog 15 #[.string s, .int .i64 u, .int .i64 a] w fun e w' => e = .returned (.tuple #[cntV [], .int .i64 2]) ∧ Below w.heap.size w w' := by
  have hC1 : C1 rs = s.size := by rw [C1_len, he, ← Lib.size_eq]
  have hru : inB u 1 3 = true := (inB_unit u).2 hu
  have hra : inB a 0 (by_ u rs) = false := decide_eq_false (by omega)
  have hu0 : -9223372036854775808 ≤ u ∧ u < 9223372036854775808 := by unfold unitOk at hu; omega
  have cI1 := fun wx => in_any u 1 3 wx
  rw [hru] at cI1
  have cI2 := fun wx => in_any a 0 (by_ u rs) wx
  rw [hra] at cI2
  have cC : Hid (∀ wx, Calls Tryz.prog 6 #[.string s] wx fun e w' => e = .returned (.tuple #[cntV rs, .agg #[.int .i64 0, .int .i64 (-1)]]) ∧ Below wx.heap.size wx w') := fun wx => refCount_of s rs hr he (by omega) wx
  have cN : Hid (∀ wx, Calls Tryz.prog 20 #[cntV rs, .int .i64 u] wx fun e w' => e = .returned (.int .i64 (by_ u rs)) ∧ Below wx.heap.size wx w') := fun wx => refIn_any u rs hu0.1 hu0.2 (by omega) wx
  have hb0 : Below w.heap.size w (w.alloc (.cells #[.int .i64 0, .int .i64 0, .int .i64 0, .int .i64 0] 29)) := (Below.refl _ w).alloc (Nat.le_refl _) _
  have HB0 : Hid _ := hb0
  have HK0 : Hid (counted (w.alloc (.cells #[.int .i64 0, .int .i64 0, .int .i64 0, .int .i64 0] 29)) w.heap.size 0 0 0 0) := counted_new w 0 0 0 0 29
  obtain ⟨Bu, hBu⟩ : ∃ Bu, by_ u rs = Bu := ⟨_, rfl⟩
  rw [hBu] at cI2 cN
  have hC : cntV [] = .agg #[.int .i64 0, .int .i64 0, .int .i64 0, .int .i64 0] := rfl
  rw [hC]
  unfold cntV at cC cN
  clear hC hr he hs hu hl hC1 hru hra hu0 hb0 hBu
  go_enter Tryz.func15, Tryz.ntmps15
  go_wp2_with (first
    | (have _ := HB2; go_at_call 32; refine (cI2 _).mono ?_; rintro e w1 ⟨rfl, hw1⟩; obtain rfl := hw1.symm)
    | (go_at_call 32; refine (cI1 _).mono ?_; rintro e w1 ⟨rfl, hw1⟩; obtain rfl := hw1.symm)
    | (go_at_call 6; refine (cC.out _).mono ?_; rintro e w1 ⟨rfl, hb1⟩; have HB1 : Hid (Below w.heap.size w w1) := HB0.out.trans (hb1.mono HB0.out.size); have HK1 : Hid (counted w1 w.heap.size 0 0 0 0) := counted_below HK0.out hb1; have hbx := (Below.refl w1.heap.size w1).alloc (Nat.le_refl _) (.cells #[.int .i64 (C1 rs), .int .i64 (C2 rs), .int .i64 (C3 rs), .int .i64 (C4 rs)] 29); have hby := hbx.alloc hbx.size (.cells #[.int .i64 0, .int .i64 (-1)] 32); have HBY : Hid (Below w1.heap.size w1 ((w1.alloc (.cells #[.int .i64 (C1 rs), .int .i64 (C2 rs), .int .i64 (C3 rs), .int .i64 (C4 rs)] 29)).alloc (.cells #[.int .i64 0, .int .i64 (-1)] 32))) := hby; clear hb1 hbx hby)
    | (go_at_call 20; refine (cN.out _).mono ?_; rintro e w2 ⟨rfl, hb2⟩; have HB2 : Hid (Below w.heap.size w w2) := HB1.out.trans ((HBY.out.trans (hb2.mono HBY.out.size)).mono HB1.out.size); have HK2 : Hid (counted w2 w.heap.size 0 0 0 0) := counted_below HK1.out (HBY.out.trans (hb2.mono HBY.out.size)); clear hb2; obtain ⟨⟨z0, z1, z2, z3⟩, y0, y1, y2, y3⟩ := HK2.out)
    | fail)
  have hset := counted_set (m1 := 0) (m2 := 0) (m3 := 0) (m4 := 0) HK2.out
  obtain ⟨⟨s0, s1, s2, s3⟩, _⟩ := hset
  refine bodyPost_ret (v := .tuple #[.agg #[.int .i64 0, .int .i64 0, .int .i64 0, .int .i64 0], .int .i64 2]) (by simp [results, Tryz.results15, go_sem, s0, s1, s2, s3]) rfl ⟨rfl, below_set4 HB2.out (Nat.le_refl _) _ _ _ _⟩
end Go.Proofs.YtldhbjmillfjgaaGreatDoor

namespace Go.Proofs.YtldhbjmillfjgaaGreatDoor
open Go.RowKit
set_option linter.unusedVariables false
attribute [local go_sem] Oper.semAt_some yieldsUpon okUpon field0 field3

set_option maxRecDepth 100000 in
set_option maxHeartbeats 2000000 in
theorem ahead_far (b : Nat) (rs : List Nat) (u at_ : Int) (hu : u = 1 ∨ u = 2 ∨ u = 3) (hl0 : 0 ≤ at_) (hl1 : by_ u rs < at_) (w : World) (hT : Lib.Utf8Tabs 2 3 w) (h : isRope w b rs) (hz : C1 rs ≤ 100000000) :
    Calls Tryz.prog 16 #[.pointer (some ⟨b, 0, none⟩), .int .i64 u, .int .i64 at_] w fun e w' => e = .returned (.tuple #[cntV [], .iface 30 (.int .i64 2)]) ∧ Below w.heap.size w w' := by
  obtain ⟨q, t, h1, _, _, h4, ho, rfl⟩ := h
  have hb2 : Below w.heap.size w (((w.alloc (.cells #[.int .i64 u] 3)).alloc (.cells #[.int .i64 at_] 3)).alloc (.cells #[.int .i64 0, .int .i64 0, .int .i64 0, .int .i64 0] 29)) := (((Below.refl _ w).alloc (Nat.le_refl _) _).alloc (by simp) _).alloc (by simp; omega) _
  have hlu : (((w.alloc (.cells #[.int .i64 u] 3)).alloc (.cells #[.int .i64 at_] 3)).alloc (.cells #[.int .i64 0, .int .i64 0, .int .i64 0, .int .i64 0] 29)).cell? ⟨w.heap.size, 0, none⟩ = some (.int .i64 u) := by simp [go_sem]
  have hla : (((w.alloc (.cells #[.int .i64 u] 3)).alloc (.cells #[.int .i64 at_] 3)).alloc (.cells #[.int .i64 0, .int .i64 0, .int .i64 0, .int .i64 0] 29)).cell? ⟨w.heap.size + 1, 0, none⟩ = some (.int .i64 at_) := by simp [go_sem]
  have hr := counted_new ((w.alloc (.cells #[.int .i64 u] 3)).alloc (.cells #[.int .i64 at_] 3)) 0 0 0 0 29
  rw [World.size_alloc, World.size_alloc] at hr
  have cT := fun wx (hb : Below w.heap.size w wx) => ropetree_any b q wx (cell_on hb h1)
  have cC := fun wx (hb : Below w.heap.size w wx) => ncounts_any q t wx (isTree_below hb h4)
  have cN := fun wx => isUnit_good u hu wx
  have cI := fun wx => In_any u t.runes wx
  generalize by_ u t.runes = n at *
  have n0 : ¬ at_ < 0 := by omega
  have n1 : n < at_ := by omega
  have hC : cntV [] = .agg #[.int .i64 0, .int .i64 0, .int .i64 0, .int .i64 0] := rfl
  rw [hC]
  clear hC
  clear h4 ho hT hu hz
  unfold cntV at cI
  go_enter Tryz.func16, Tryz.ntmps16
  go_wp2_with (first
    | (go_at_call 45; refine (cN _).mono ?_; rintro e w1 ⟨rfl, hw1⟩; obtain rfl := hw1.symm)
    | (go_at_call 35; refine (cT _ hb2).mono ?_; rintro e w1 ⟨rfl, hw1⟩; obtain rfl := hw1.symm)
    | fail)
  obtain ⟨W2, hW2⟩ : ∃ W2, (((w.alloc (.cells #[.int .i64 u] 3)).alloc (.cells #[.int .i64 at_] 3)).alloc (.cells #[.int .i64 0, .int .i64 0, .int .i64 0, .int .i64 0] 29)) = W2 := ⟨_, rfl⟩
  rw [hW2] at hb2 hlu hla hr ⊢
  clear hW2
  refine wp_region_rel 10 10 (by kernel_rfl) rfl ?_
  intro w3 hb3
  have hb23 := hb2.trans (hb3.mono hb2.size)
  obtain ⟨G, hG⟩ := exists_growth w3
  have gl := hG.cell (cell_on hb3 hla)
  have gu := hG.cell (cell_on hb3 hlu)
  have cG := fun x => cC (G x) (hb23.trans ((hG.below x).mono hb23.size))
  have cJ := fun x => cI (G x)
  (refine anyG_step hG (i := 0) rfl (by kernel_rfl) (by kernel_rfl) (by kernel_rfl) (fun K hK => ?_); go_simp; refine hK _ ?_; clear hK K)
  (refine anyG_step hG (i := 1) rfl (by kernel_rfl) (by kernel_rfl) (by kernel_rfl) (fun K hK => ?_); go_simp; refine hK _ ?_; clear hK K)
  (refine anyG_step hG (i := 2) rfl (by kernel_rfl) (by kernel_rfl) (by kernel_rfl) (fun K hK => ?_); go_simp; refine hK _ ?_; clear hK K)
  (refine anyG_step hG (i := 3) rfl (by kernel_rfl) (by kernel_rfl) (by kernel_rfl) (fun K hK => ?_); go_simp; refine hK _ ?_; clear hK K)
  (refine anyG_step hG (i := 4) rfl (by kernel_rfl) (by kernel_rfl) (by kernel_rfl) (fun K hK => ?_); go_simp; refine hK _ ?_; clear hK K)
  (refine anyG_step hG (i := 5) rfl (by kernel_rfl) (by kernel_rfl) (by kernel_rfl) (fun K hK => ?_); go_simp; apply Exists.intro; refine ⟨fun _ => ?_, hK _ ?_⟩; exact cG _; clear hK K)
  (refine anyG_step hG (i := 6) rfl (by kernel_rfl) (by kernel_rfl) (by kernel_rfl) (fun K hK => ?_); go_simp; refine hK _ ?_; clear hK K)
  (refine anyG_step hG (i := 7) rfl (by kernel_rfl) (by kernel_rfl) (by kernel_rfl) (fun K hK => ?_); go_simp; apply Exists.intro; refine ⟨fun _ => ?_, hK _ ?_⟩; exact cJ _; clear hK K)
  (refine anyG_step hG (i := 8) rfl (by kernel_rfl) (by kernel_rfl) (by kernel_rfl) (fun K hK => ?_); go_simp; refine hK _ ?_; clear hK K)
  (refine anyG_step hG (i := 9) rfl (by kernel_rfl) (by kernel_rfl) (by kernel_rfl) (fun K hK => ?_); go_simp; refine hK _ ?_; clear hK K)
  clear gl gu cG cJ hG
  refine anyG_end (by kernel_rfl) ?_
  intro w4 hb4
  have hb34 := hb3.trans (hb4.mono hb3.size)
  have hb24 := hb2.trans (hb34.mono hb2.size)
  have hr4 := counted_below hr hb34
  have HR4 : Hid _ := hr4
  have HB24 : Hid _ := hb24
  obtain ⟨⟨z0, z1, z2, z3⟩, y0, y1, y2, y3⟩ := hr4
  clear hb3 hb4 hb34 hb23 hb24 cC cT cI cN hlu hla hr
  go_wp2
  have hset := counted_set (m1 := 0) (m2 := 0) (m3 := 0) (m4 := 0) HR4.out
  obtain ⟨⟨s0, s1, s2, s3⟩, _⟩ := hset
  refine bodyPost_ret (v := .tuple #[.agg #[.int .i64 0, .int .i64 0, .int .i64 0, .int .i64 0], .iface 30 (.int .i64 2)]) (by simp [results, Tryz.results16, go_sem, s0, s1, s2, s3]) rfl ⟨rfl, below_set4 HB24.out (by omega) _ _ _ _⟩

set_option maxRecDepth 100000 in
set_option maxHeartbeats 2000000 in
theorem ahead_neg (b : Nat) (rs : List Nat) (u at_ : Int) (hu : u = 1 ∨ u = 2 ∨ u = 3) (hl0 : at_ < 0) (w : World) (h : isRope w b rs) :
    Calls Tryz.prog 16 #[.pointer (some ⟨b, 0, none⟩), .int .i64 u, .int .i64 at_] w fun e w' => e = .returned (.tuple #[cntV [], .iface 30 (.int .i64 2)]) ∧ Below w.heap.size w w' := by
  obtain ⟨q, t, h1, _, _, h4, ho, rfl⟩ := h
  have hb2 : Below w.heap.size w (((w.alloc (.cells #[.int .i64 u] 3)).alloc (.cells #[.int .i64 at_] 3)).alloc (.cells #[.int .i64 0, .int .i64 0, .int .i64 0, .int .i64 0] 29)) := (((Below.refl _ w).alloc (Nat.le_refl _) _).alloc (by simp) _).alloc (by simp; omega) _
  have hlu : (((w.alloc (.cells #[.int .i64 u] 3)).alloc (.cells #[.int .i64 at_] 3)).alloc (.cells #[.int .i64 0, .int .i64 0, .int .i64 0, .int .i64 0] 29)).cell? ⟨w.heap.size, 0, none⟩ = some (.int .i64 u) := by simp [go_sem]
  have hla : (((w.alloc (.cells #[.int .i64 u] 3)).alloc (.cells #[.int .i64 at_] 3)).alloc (.cells #[.int .i64 0, .int .i64 0, .int .i64 0, .int .i64 0] 29)).cell? ⟨w.heap.size + 1, 0, none⟩ = some (.int .i64 at_) := by simp [go_sem]
  have hr := counted_new ((w.alloc (.cells #[.int .i64 u] 3)).alloc (.cells #[.int .i64 at_] 3)) 0 0 0 0 29
  rw [World.size_alloc, World.size_alloc] at hr
  have cT := fun wx (hb : Below w.heap.size w wx) => ropetree_any b q wx (cell_on hb h1)
  have cN := fun wx => isUnit_good u hu wx
  have hC : cntV [] = .agg #[.int .i64 0, .int .i64 0, .int .i64 0, .int .i64 0] := rfl
  rw [hC]
  clear h4 ho hu hC
  go_enter Tryz.func16, Tryz.ntmps16
  go_wp2_with (first
    | (go_at_call 45; refine (cN _).mono ?_; rintro e w1 ⟨rfl, hw1⟩; obtain rfl := hw1.symm)
    | (go_at_call 35; refine (cT _ hb2).mono ?_; rintro e w1 ⟨rfl, hw1⟩; obtain rfl := hw1.symm)
    | fail)
  obtain ⟨W2, hW2⟩ : ∃ W2, (((w.alloc (.cells #[.int .i64 u] 3)).alloc (.cells #[.int .i64 at_] 3)).alloc (.cells #[.int .i64 0, .int .i64 0, .int .i64 0, .int .i64 0] 29)) = W2 := ⟨_, rfl⟩
  rw [hW2] at hb2 hlu hla hr ⊢
  clear hW2
  have HR4 : Hid _ := hr
  have HB24 : Hid _ := hb2
  obtain ⟨⟨z0, z1, z2, z3⟩, y0, y1, y2, y3⟩ := hr
  clear hb2 cT cN
  go_region
  go_wp2
  have hset := counted_set (m1 := 0) (m2 := 0) (m3 := 0) (m4 := 0) HR4.out
  obtain ⟨⟨s0, s1, s2, s3⟩, _⟩ := hset
  refine bodyPost_ret (v := .tuple #[.agg #[.int .i64 0, .int .i64 0, .int .i64 0, .int .i64 0], .iface 30 (.int .i64 2)]) (by simp [results, Tryz.results16, go_sem, s0, s1, s2, s3]) rfl ⟨rfl, (below_set4 HB24.out (by omega) _ _ _ _).drew⟩

/-- Ahead, of a unit: what it tells. -/
def aheadE (u at_ : Int) (rs : List Nat) : Value :=
  if at_ < 0 ∨ by_ u rs < at_ then .tuple #[cntV [], .iface 30 (.int .i64 2)]
  else if by_ u (find (reachesBy u at_) [] rs) = at_ then .tuple #[cntV (find (reachesBy u at_) [] rs), .nilIface] else .tuple #[cntV [], .iface 30 (.int .i64 10)]
theorem ahead_all (b : Nat) (rs : List Nat) (u at_ : Int) (hu : u = 1 ∨ u = 2 ∨ u = 3) (w : World) (hT : Lib.Utf8Tabs 2 3 w) (h : isRope w b rs) (hz : C1 rs ≤ 100000000) :
    Calls Tryz.prog 16 #[.pointer (some ⟨b, 0, none⟩), .int .i64 u, .int .i64 at_] w fun e w' => e = .returned (aheadE u at_ rs) ∧ Below w.heap.size w w' := by
  unfold aheadE
  by_cases h0 : at_ < 0
  · rw [if_pos (Or.inl h0)]
    exact ahead_neg b rs u at_ hu h0 w h
  · by_cases h1 : by_ u rs < at_
    · rw [if_pos (Or.inr h1)]
      exact ahead_far b rs u at_ hu (by omega) h1 w hT h hz
    · rw [if_neg (by omega)]
      refine (ahead_any b rs u at_ hu (by omega) (by omega) w hT h hz).mono ?_
      rintro e w' ⟨rfl, hb⟩
      refine ⟨?_, hb⟩
      split <;> rfl
end Go.Proofs.YtldhbjmillfjgaaGreatDoor

namespace Go.Proofs.YtldhbjmillfjgaaGreatDoor
open Go.RowKit
set_option linter.unusedVariables false
attribute [local go_sem] Oper.semAt_some

set_option maxHeartbeats 1000000 in
theorem convert_rng (b : Nat) (rs : List Nat) (u v at_ : Int) (hu : unitOk u) (hv : unitOk v) (hl : at_ < 0 ∨ by_ u rs < at_) (w : World) (hT : Lib.Utf8Tabs 2 3 w) (h : isRope w b rs) (hz : C1 rs ≤ 100000000) :
    Calls Tryz.prog 21 #[.pointer (some ⟨b, 0, none⟩), .int .i64 u, .int .i64 v, .int .i64 at_] w fun e w' => e = .returned (.tuple #[.int .i64 0, errV 2]) ∧ Below w.heap.size w w' := by
  have cU : Hid _ := unitError_good b rs v hv w hT h hz
  have cA : Hid (∀ wx, Below w.heap.size w wx → Calls Tryz.prog 16 #[.pointer (some ⟨b, 0, none⟩), .int .i64 u, .int .i64 at_] wx fun e w' => e = .returned (.tuple #[.agg #[.int .i64 0, .int .i64 0, .int .i64 0, .int .i64 0], .iface 30 (.int .i64 2)]) ∧ Below wx.heap.size wx w') := fun wx hb => by
    have := ahead_all b rs u at_ hu wx (Go.Proofs.Utf8Tabs_below hT hb) (isRope_below h hb) hz
    unfold aheadE at this
    rw [if_pos hl] at this
    exact this
  have hV : errV 2 = .iface 30 (.int .i64 2) := rfl
  rw [hV]
  clear hT h hu hz hv hl hV
  go_enter Tryz.func21, Tryz.ntmps21
  go_wp2_with (first
    | (go_at_call 51; refine Calls.mono cU.out ?_; rintro e w1 ⟨rfl, hb1⟩; have HB1 : Hid (Below w.heap.size w w1) := hb1; clear hb1)
    | (go_at_call 16; refine (cA.out _ HB1.out).mono ?_; rintro e w2 ⟨rfl, hb2⟩; have HB2 : Hid (Below w.heap.size w w2) := HB1.out.trans (hb2.mono HB1.out.size); clear hb2)
    | fail)
  go_ret2
  exact ⟨rfl, HB2.out.alloc HB2.out.size _⟩

/-- What Convert tells. -/
def convE (u v at_ : Int) (rs : List Nat) : Value :=
  if ¬ (v = 1 ∨ v = 2 ∨ v = 3) then .tuple #[.int .i64 0, errV 1]
  else if ¬ (u = 1 ∨ u = 2 ∨ u = 3) then .tuple #[.int .i64 0, errV 1]
  else if at_ < 0 ∨ by_ u rs < at_ then .tuple #[.int .i64 0, errV 2]
  else if by_ u (find (reachesBy u at_) [] rs) = at_ then .tuple #[.int .i64 (by_ v (find (reachesBy u at_) [] rs)), .nilIface] else .tuple #[.int .i64 0, errV 10]
theorem convert_all (b : Nat) (rs : List Nat) (u v at_ : Int) (w : World) (hT : Lib.Utf8Tabs 2 3 w) (h : isRope w b rs) (hz : C1 rs ≤ 100000000) :
    Calls Tryz.prog 21 #[.pointer (some ⟨b, 0, none⟩), .int .i64 u, .int .i64 v, .int .i64 at_] w fun e w' => e = .returned (convE u v at_ rs) ∧ Below w.heap.size w w' := by
  unfold convE
  by_cases hv : (v = 1 ∨ v = 2 ∨ v = 3)
  · rw [if_neg (not_not_intro hv)]
    by_cases hu : (u = 1 ∨ u = 2 ∨ u = 3)
    · rw [if_neg (not_not_intro hu)]
      by_cases hl : at_ < 0 ∨ by_ u rs < at_
      · rw [if_pos hl]
        exact convert_rng b rs u v at_ hu hv hl w hT h hz
      · rw [if_neg hl]
        by_cases hf : by_ u (find (reachesBy u at_) [] rs) = at_
        · rw [if_pos hf]
          exact convert_any b rs u v at_ hu hv (by omega) (by omega) w hT h hz _ rfl hf
        · rw [if_neg hf]
          exact convert_ord b rs u v at_ hu hv (by omega) (by omega) w hT h hz _ rfl hf
    · rw [if_pos hu]
      exact convert_from b rs u v at_ hv hu w hT h hz
  · rw [if_pos hv]
    exact convert_to b u v at_ hv w
end Go.Proofs.YtldhbjmillfjgaaGreatDoor

namespace Go.Proofs.YtldhbjmillfjgaaGreatDoor
open Go.RowKit
set_option linter.unusedVariables false
attribute [local go_sem] Oper.semAt_some yieldsUpon okUpon field0 field3

/-- A spot's two cells. -/
def spotW (w : World) (a : Nat) (x y : Int) : Prop :=
  (w.cell? ⟨a, 0, none⟩ = some (.int .i64 x) ∧ w.cell? ⟨a, 1, none⟩ = some (.int .i64 y)) ∧ w.frozen? ⟨a, 0, none⟩ = false ∧ w.frozen? ⟨a, 1, none⟩ = false
theorem spotW_new (w : World) (x y : Int) (t : TypeId) : spotW (w.alloc (.cells #[.int .i64 x, .int .i64 y] t)) w.heap.size x y := by
  refine ⟨⟨?_, ?_⟩, ?_, ?_⟩ <;> simp [go_sem]
theorem spotW_below {w w' : World} {a : Nat} {x y : Int} (h : spotW w a x y) (hb : Below w.heap.size w w') : spotW w' a x y := by
  have hlt : a < w.heap.size := World.block_lt_of_cell? w _ h.1.1
  obtain ⟨⟨a0, a1⟩, b0, b1⟩ := h
  refine ⟨⟨?_, ?_⟩, ?_, ?_⟩
  · rw [hb.cell (p := ⟨a, 0, none⟩) hlt]; exact a0
  · rw [hb.cell (p := ⟨a, 1, none⟩) hlt]; exact a1
  · rw [hb.frozen (p := ⟨a, 0, none⟩) hlt]; exact b0
  · rw [hb.frozen (p := ⟨a, 1, none⟩) hlt]; exact b1
theorem spotW_set {w : World} {a : Nat} {x y m n : Int} (h : spotW w a x y) : spotW ((w.setCell ⟨a, 0, none⟩ (.int .i64 m)).setCell ⟨a, 1, none⟩ (.int .i64 n)) a m n := by
  obtain ⟨⟨a0, a1⟩, b0, b1⟩ := h
  refine ⟨⟨?_, ?_⟩, ?_, ?_⟩
  all_goals simp [go_sem, a0, a1, b0, b1]
theorem below_set2 {lo : Nat} {w W : World} {B : Nat} (hb : Below lo w W) (hlo : lo ≤ B) (u0 u1 : Value) :
    Below lo w ((W.setCell ⟨B, 0, none⟩ u0).setCell ⟨B, 1, none⟩ u1) :=
  (hb.setCell (p := ⟨B, 0, none⟩) hlo _).setCell (p := ⟨B, 1, none⟩) hlo _
theorem by_le (u : Int) (rs : List Nat) : by_ u rs ≤ 2 * C1 rs := by
  have h1 := C1_pos rs
  have h2 := C2_le rs
  have h3 := C3_le rs
  unfold by_
  split
  · omega
  · split
    · omega
    · split <;> omega

set_option maxRecDepth 100000 in
set_option maxHeartbeats 4000000 in
theorem spot_told (b : Nat) (u at_ E : Int) (w : World)
    (cA : Hid (∀ wx, Below w.heap.size w wx → Calls Tryz.prog 16 #[.pointer (some ⟨b, 0, none⟩), .int .i64 u, .int .i64 at_] wx fun e w' => e = .returned (.tuple #[cntV [], .iface 30 (.int .i64 E)]) ∧ Below wx.heap.size wx w')) :
    Calls Tryz.prog 23 #[.pointer (some ⟨b, 0, none⟩), .int .i64 u, .int .i64 at_] w fun e w' => e = .returned (.tuple #[.agg #[.int .i64 0, .int .i64 0], .iface 30 (.int .i64 E)]) ∧ Below w.heap.size w w' := by
  have hC : cntV [] = .agg #[.int .i64 0, .int .i64 0, .int .i64 0, .int .i64 0] := rfl
  rw [hC] at cA
  clear hC
  have HB0 : Hid (Below w.heap.size w (w.alloc (.cells #[.int .i64 0, .int .i64 0] 54))) := (Below.refl _ w).alloc (Nat.le_refl _) _
  have HS0 : Hid (spotW (w.alloc (.cells #[.int .i64 0, .int .i64 0] 54)) w.heap.size 0 0) := spotW_new w 0 0 _
  go_enter Tryz.func23, Tryz.ntmps23
  go_wp2_with (first
    | (go_at_call 16; refine (cA.out _ HB0.out).mono ?_; rintro e w2 ⟨rfl, hb2⟩; have HB2 : Hid (Below w.heap.size w w2) := HB0.out.trans (hb2.mono HB0.out.size); have HS2 : Hid (spotW w2 w.heap.size 0 0) := spotW_below HS0.out hb2; have hlt : w.heap.size < w2.heap.size := World.block_lt_of_cell? w2 _ HS2.out.1.1; have hne : w.heap.size ≠ w2.heap.size := Nat.ne_of_lt hlt; clear hb2; obtain ⟨⟨k0, k1⟩, k2, k3⟩ := HS2.out)
    | fail)
  have hset := spotW_below (spotW_set (m := 0) (n := 0) HS2.out) ((Below.refl _ _).alloc (Nat.le_refl _) (.cells #[.int .i64 0, .int .i64 0, .int .i64 0, .int .i64 0] 29))
  have hB := below_set2 HB2.out (Nat.le_refl _) (.int .i64 0) (.int .i64 0)
  obtain ⟨⟨s0, s1⟩, _⟩ := hset
  refine bodyPost_ret (v := .tuple #[.agg #[.int .i64 0, .int .i64 0], .iface 30 (.int .i64 E)]) (by simp [results, Tryz.results23, go_sem, s0, s1]) rfl ⟨rfl, hB.alloc hB.size _⟩

set_option maxRecDepth 100000 in
set_option maxHeartbeats 4000000 in
theorem spot_good (b : Nat) (rs X Y : List Nat) (u at_ : Int) (w : World) (hX : C1 X ≤ 100000000) (hY : C1 Y ≤ 100000000)
    (cA : Hid (∀ wx, Below w.heap.size w wx → Calls Tryz.prog 16 #[.pointer (some ⟨b, 0, none⟩), .int .i64 u, .int .i64 at_] wx fun e w' => e = .returned (.tuple #[cntV X, .nilIface]) ∧ Below wx.heap.size wx w'))
    (cL : Hid (∀ wx, Below w.heap.size w wx → Calls Tryz.prog 18 #[.pointer (some ⟨b, 0, none⟩), .int .i64 (C4 X)] wx fun e w' => e = .returned (.tuple #[cntV Y, .nilIface]) ∧ Below wx.heap.size wx w')) :
    Calls Tryz.prog 23 #[.pointer (some ⟨b, 0, none⟩), .int .i64 u, .int .i64 at_] w fun e w' => e = .returned (.tuple #[.agg #[.int .i64 (C4 X), .int .i64 (by_ u X - by_ u Y)], .nilIface]) ∧ Below w.heap.size w w' := by
  have HB0 : Hid (Below w.heap.size w (w.alloc (.cells #[.int .i64 0, .int .i64 0] 54))) := (Below.refl _ w).alloc (Nat.le_refl _) _
  have HS0 : Hid (spotW (w.alloc (.cells #[.int .i64 0, .int .i64 0] 54)) w.heap.size 0 0) := spotW_new w 0 0 _
  have cIX : Hid (∀ wx, Calls Tryz.prog 46 #[cntV X, .int .i64 u] wx fun e w' => e = .returned (.int .i64 (by_ u X)) ∧ Below wx.heap.size wx w') := fun wx => In_any u X wx
  have cIY : Hid (∀ wx, Calls Tryz.prog 46 #[cntV Y, .int .i64 u] wx fun e w' => e = .returned (.int .i64 (by_ u Y)) ∧ Below wx.heap.size wx w') := fun wx => In_any u Y wx
  have bX : by_ u X ≤ 200000000 := Int.le_trans (by_le u X) (by omega)
  have bY : by_ u Y ≤ 200000000 := Int.le_trans (by_le u Y) (by omega)
  have pX := by_pos u X
  have pY := by_pos u Y
  unfold cntV at cA cL cIX cIY
  generalize by_ u X = nx at *
  generalize by_ u Y = ny at *
  have hwr : IntKind.i64.wrap (nx - ny) = nx - ny := by unfold IntKind.wrap; simp [IntKind.bits, IntKind.signed]; omega
  clear hX hY bX bY pX pY
  go_enter Tryz.func23, Tryz.ntmps23
  go_wp2_with (first
    | (go_at_call 16; refine (cA.out _ HB0.out).mono ?_; rintro e w2 ⟨rfl, hb2⟩; have HB2 : Hid (Below w.heap.size w w2) := HB0.out.trans (hb2.mono HB0.out.size); have HS2 : Hid (spotW w2 w.heap.size 0 0) := spotW_below HS0.out hb2; have hlt : w.heap.size < w2.heap.size := World.block_lt_of_cell? w2 _ HS2.out.1.1; have hne : w.heap.size ≠ w2.heap.size := Nat.ne_of_lt hlt; clear hb2; have HS3 : Hid (spotW (w2.alloc (.cells #[.int .i64 (C1 X), .int .i64 (C2 X), .int .i64 (C3 X), .int .i64 (C4 X)] 29)) w.heap.size 0 0) := spotW_below HS2.out ((Below.refl _ _).alloc (Nat.le_refl _) _); have HB3 : Hid (Below w.heap.size w (w2.alloc (.cells #[.int .i64 (C1 X), .int .i64 (C2 X), .int .i64 (C3 X), .int .i64 (C4 X)] 29))) := HB2.out.alloc HB2.out.size _)
    | (go_at_call 18; refine (cL.out _ HB3.out).mono ?_; rintro e w4 ⟨rfl, hb4⟩; have HB4 : Hid (Below w.heap.size w w4) := HB3.out.trans (hb4.mono HB3.out.size); have HS4 : Hid (spotW w4 w.heap.size 0 0) := spotW_below HS3.out hb4; have HX4 : Hid (counted w4 w2.heap.size (C1 X) (C2 X) (C3 X) (C4 X)) := counted_below (counted_new w2 _ _ _ _ _) hb4; clear hb4)
    | fail)
  have hb5 : Below w.heap.size w (w4.alloc (.cells #[.int .i64 (C1 Y), .int .i64 (C2 Y), .int .i64 (C3 Y), .int .i64 (C4 Y)] 29)) := HB4.out.alloc HB4.out.size _
  have hg5 : Below w4.heap.size w4 (w4.alloc (.cells #[.int .i64 (C1 Y), .int .i64 (C2 Y), .int .i64 (C3 Y), .int .i64 (C4 Y)] 29)) := (Below.refl _ _).alloc (Nat.le_refl _) _
  have hs5 := spotW_below HS4.out hg5
  have hx5 := counted_below HX4.out hg5
  have hy5 := counted_new w4 (C1 Y) (C2 Y) (C3 Y) (C4 Y) 29
  generalize (w4.alloc (.cells #[.int .i64 (C1 Y), .int .i64 (C2 Y), .int .i64 (C3 Y), .int .i64 (C4 Y)] 29)) = W5 at *
  generalize w4.heap.size = BY at *
  generalize w2.heap.size = BX at *
  clear hg5 HB4 HS4 HX4 HB3 HS3 HB2 HS2 HB0 HS0 hlt hne cA cL
  refine wp_region_rel 10 12 (by kernel_rfl) rfl ?_
  intro w6 hb6
  obtain ⟨G, hG⟩ := exists_growth w6
  have hx6 := counted_below hx5 hb6
  have hy6 := counted_below hy5 hb6
  obtain ⟨⟨x0, x1, x2, x3⟩, _⟩ := hx6
  obtain ⟨⟨y0, y1, y2, y3⟩, _⟩ := hy6
  have gx0 := hG.cell x0
  have gx1 := hG.cell x1
  have gx2 := hG.cell x2
  have gx3 := hG.cell x3
  have gy0 := hG.cell y0
  have gy1 := hG.cell y1
  have gy2 := hG.cell y2
  have gy3 := hG.cell y3
  have cX := fun x => cIX.out (G x)
  have cY := fun x => cIY.out (G x)
  clear x0 x1 x2 x3 y0 y1 y2 y3 cIX cIY
  (refine anyG_step hG (i := 0) rfl (by kernel_rfl) (by kernel_rfl) (by kernel_rfl) (fun K hK => ?_); go_simp; refine hK _ ?_; clear hK K)
  (refine anyG_step hG (i := 1) rfl (by kernel_rfl) (by kernel_rfl) (by kernel_rfl) (fun K hK => ?_); go_simp; refine hK _ ?_; clear hK K)
  (refine anyG_step hG (i := 2) rfl (by kernel_rfl) (by kernel_rfl) (by kernel_rfl) (fun K hK => ?_); go_simp; refine hK _ ?_; clear hK K)
  (refine anyG_step hG (i := 3) rfl (by kernel_rfl) (by kernel_rfl) (by kernel_rfl) (fun K hK => ?_); go_simp; refine hK _ ?_; clear hK K)
  (refine anyG_step hG (i := 4) rfl (by kernel_rfl) (by kernel_rfl) (by kernel_rfl) (fun K hK => ?_); go_simp; apply Exists.intro; refine ⟨fun _ => ?_, hK _ ?_⟩; exact cX _; clear hK K)
  (refine anyG_step hG (i := 5) rfl (by kernel_rfl) (by kernel_rfl) (by kernel_rfl) (fun K hK => ?_); go_simp; refine hK _ ?_; clear hK K)
  (refine anyG_step hG (i := 6) rfl (by kernel_rfl) (by kernel_rfl) (by kernel_rfl) (fun K hK => ?_); go_simp; refine hK _ ?_; clear hK K)
  (refine anyG_step hG (i := 7) rfl (by kernel_rfl) (by kernel_rfl) (by kernel_rfl) (fun K hK => ?_); go_simp; apply Exists.intro; refine ⟨fun _ => ?_, hK _ ?_⟩; exact cY _; clear hK K)
  (refine anyG_step hG (i := 8) rfl (by kernel_rfl) (by kernel_rfl) (by kernel_rfl) (fun K hK => ?_); go_simp; refine hK _ ?_; clear hK K)
  (refine anyG_step hG (i := 9) rfl (by kernel_rfl) (by kernel_rfl) (by kernel_rfl) (fun K hK => ?_); go_simp; refine hK _ ?_; clear hK K)
  clear gx0 gx1 gx2 gx3 gy0 gy1 gy2 gy3 cX cY hG
  refine anyG_late (i := 10) rfl (by kernel_rfl) (by kernel_rfl) ?_
  intro w7 hb7 K hK
  have hb67 := hb6.trans (hb7.mono hb6.size)
  have hs7 := spotW_below hs5 hb67
  have HS7 : Hid _ := hs7
  have HB7 : Hid (Below w.heap.size w w7) := hb5.trans (hb67.mono hb5.size)
  obtain ⟨⟨k0, k1⟩, k2, k3⟩ := hs7
  clear hb6 hb7 hb67 hs5 hx5 hy5 hb5
  go_simp
  refine hK _ _ ?_
  clear hK K
  refine anyG_late (i := 11) rfl (by kernel_rfl) (by kernel_rfl) ?_
  intro w8 hb8 K hK
  go_simp
  refine hK _ _ ?_
  clear hK K
  refine anyG_end (by kernel_rfl) ?_
  intro w9 hb9
  have hb79 := hb8.trans (hb9.mono hb8.size)
  have hset := spotW_below (spotW_set (m := C4 X) (n := nx - ny) HS7.out) hb79
  have hB7 := below_set2 HB7.out (Nat.le_refl _) (.int .i64 (C4 X)) (.int .i64 (nx - ny))
  have hB9 := hB7.trans (hb79.mono hB7.size)
  clear hb8 hb9 hb79 hB7 k0 k1 k2 k3
  go_wp2
  obtain ⟨⟨s0, s1⟩, _⟩ := hset
  refine bodyPost_ret (v := .tuple #[.agg #[.int .i64 (C4 X), .int .i64 (nx - ny)], .nilIface]) (by simp [results, Tryz.results23, go_sem, s0, s1]) rfl ⟨rfl, hB9⟩
end Go.Proofs.YtldhbjmillfjgaaGreatDoor

namespace Go.Proofs.YtldhbjmillfjgaaGreatDoor
open Go.RowKit
set_option linter.unusedVariables false
attribute [local go_sem] Oper.semAt_some yieldsUpon okUpon field0 field3

set_option maxRecDepth 100000 in
set_option maxHeartbeats 2000000 in
theorem line_far (b : Nat) (rs : List Nat) (line : Int) (hl0 : 0 ≤ line) (hl1 : C4 rs < line) (w : World) (hT : Lib.Utf8Tabs 2 3 w) (h : isRope w b rs) (hz : C1 rs ≤ 100000000) :
    Calls Tryz.prog 18 #[.pointer (some ⟨b, 0, none⟩), .int .i64 line] w fun e w' => e = .returned (.tuple #[cntV [], .iface 30 (.int .i64 2)]) ∧ Below w.heap.size w w' := by
  obtain ⟨q, t, h1, _, _, h4, ho, rfl⟩ := h
  have hb2 : Below w.heap.size w ((w.alloc (.cells #[.int .i64 line] 3)).alloc (.cells #[.int .i64 0, .int .i64 0, .int .i64 0, .int .i64 0] 29)) := ((Below.refl _ w).alloc (Nat.le_refl _) _).alloc (by simp) _
  have hl : ((w.alloc (.cells #[.int .i64 line] 3)).alloc (.cells #[.int .i64 0, .int .i64 0, .int .i64 0, .int .i64 0] 29)).cell? ⟨w.heap.size, 0, none⟩ = some (.int .i64 line) := by simp [go_sem]
  have hr := counted_new (w.alloc (.cells #[.int .i64 line] 3)) 0 0 0 0 29
  rw [World.size_alloc] at hr
  have cT := fun wx (hb : Below w.heap.size w wx) => ropetree_any b q wx (cell_on hb h1)
  have cC := fun wx (hb : Below w.heap.size w wx) => ncounts_any q t wx (isTree_below hb h4)
  generalize C1 t.runes = x1 at *
  generalize C2 t.runes = x2 at *
  generalize C3 t.runes = x3 at *
  generalize C4 t.runes = x4 at *
  have n0 : ¬ line < 0 := by omega
  have n1 : x4 < line := by omega
  have hC : cntV [] = .agg #[.int .i64 0, .int .i64 0, .int .i64 0, .int .i64 0] := rfl
  rw [hC]
  clear hC
  clear h4 ho hT
  go_enter Tryz.func18, Tryz.ntmps18
  go_wp2_with (first
    | (go_at_call 35; refine (cT _ hb2).mono ?_; rintro e w1 ⟨rfl, hw1⟩; obtain rfl := hw1.symm)
    | fail)
  obtain ⟨W2, hW2⟩ : ∃ W2, ((w.alloc (.cells #[.int .i64 line] 3)).alloc (.cells #[.int .i64 0, .int .i64 0, .int .i64 0, .int .i64 0] 29)) = W2 := ⟨_, rfl⟩
  rw [hW2] at hb2 hl hr ⊢
  clear hW2
  refine wp_region_rel 9 9 (by kernel_rfl) rfl ?_
  intro w3 hb3
  have hb23 := hb2.trans (hb3.mono hb2.size)
  obtain ⟨G, hG⟩ := exists_growth w3
  have gl := hG.cell (cell_on hb3 hl)
  have cG := fun x => cC (G x) (hb23.trans ((hG.below x).mono hb23.size))
  (refine anyG_step hG (i := 0) rfl (by kernel_rfl) (by kernel_rfl) (by kernel_rfl) (fun K hK => ?_); go_simp; refine hK _ ?_; clear hK K)
  (refine anyG_step hG (i := 1) rfl (by kernel_rfl) (by kernel_rfl) (by kernel_rfl) (fun K hK => ?_); go_simp; refine hK _ ?_; clear hK K)
  (refine anyG_step hG (i := 2) rfl (by kernel_rfl) (by kernel_rfl) (by kernel_rfl) (fun K hK => ?_); go_simp; refine hK _ ?_; clear hK K)
  (refine anyG_step hG (i := 3) rfl (by kernel_rfl) (by kernel_rfl) (by kernel_rfl) (fun K hK => ?_); go_simp; refine hK _ ?_; clear hK K)
  (refine anyG_step hG (i := 4) rfl (by kernel_rfl) (by kernel_rfl) (by kernel_rfl) (fun K hK => ?_); go_simp; refine hK _ ?_; clear hK K)
  (refine anyG_step hG (i := 5) rfl (by kernel_rfl) (by kernel_rfl) (by kernel_rfl) (fun K hK => ?_); go_simp; apply Exists.intro; refine ⟨fun _ => ?_, hK _ ?_⟩; exact cG _; clear hK K)
  (refine anyG_step hG (i := 6) rfl (by kernel_rfl) (by kernel_rfl) (by kernel_rfl) (fun K hK => ?_); go_simp; refine hK _ ?_; clear hK K)
  (refine anyG_step hG (i := 7) rfl (by kernel_rfl) (by kernel_rfl) (by kernel_rfl) (fun K hK => ?_); go_simp; refine hK _ ?_; clear hK K)
  (refine anyG_step hG (i := 8) rfl (by kernel_rfl) (by kernel_rfl) (by kernel_rfl) (fun K hK => ?_); go_simp; refine hK _ ?_; clear hK K)
  clear gl cG hG
  refine anyG_end (by kernel_rfl) ?_
  intro w4 hb4
  have hb34 := hb3.trans (hb4.mono hb3.size)
  have hb24 := hb2.trans (hb34.mono hb2.size)
  have hr4 := counted_below hr hb34
  have HR4 : Hid _ := hr4
  have HB24 : Hid _ := hb24
  obtain ⟨⟨z0, z1, z2, z3⟩, y0, y1, y2, y3⟩ := hr4
  clear hb3 hb4 hb34 hb23 hb24 cC cT hl hr
  go_wp2
  have hset := counted_set (m1 := 0) (m2 := 0) (m3 := 0) (m4 := 0) HR4.out
  obtain ⟨⟨s0, s1, s2, s3⟩, _⟩ := hset
  refine bodyPost_ret (v := .tuple #[.agg #[.int .i64 0, .int .i64 0, .int .i64 0, .int .i64 0], .iface 30 (.int .i64 2)]) (by simp [results, Tryz.results18, go_sem, s0, s1, s2, s3]) rfl ⟨rfl, below_set4 HB24.out (by omega) _ _ _ _⟩

set_option maxRecDepth 100000 in
set_option maxHeartbeats 2000000 in
theorem line_neg (b : Nat) (rs : List Nat) (line : Int) (hl0 : line < 0) (w : World) (h : isRope w b rs) :
    Calls Tryz.prog 18 #[.pointer (some ⟨b, 0, none⟩), .int .i64 line] w fun e w' => e = .returned (.tuple #[cntV [], .iface 30 (.int .i64 2)]) ∧ Below w.heap.size w w' := by
  obtain ⟨q, t, h1, _, _, h4, ho, rfl⟩ := h
  have hb2 : Below w.heap.size w ((w.alloc (.cells #[.int .i64 line] 3)).alloc (.cells #[.int .i64 0, .int .i64 0, .int .i64 0, .int .i64 0] 29)) := ((Below.refl _ w).alloc (Nat.le_refl _) _).alloc (by simp) _
  have hl : ((w.alloc (.cells #[.int .i64 line] 3)).alloc (.cells #[.int .i64 0, .int .i64 0, .int .i64 0, .int .i64 0] 29)).cell? ⟨w.heap.size, 0, none⟩ = some (.int .i64 line) := by simp [go_sem]
  have hr := counted_new (w.alloc (.cells #[.int .i64 line] 3)) 0 0 0 0 29
  rw [World.size_alloc] at hr
  have cT := fun wx (hb : Below w.heap.size w wx) => ropetree_any b q wx (cell_on hb h1)
  have hC : cntV [] = .agg #[.int .i64 0, .int .i64 0, .int .i64 0, .int .i64 0] := rfl
  rw [hC]
  clear h4 ho hC
  go_enter Tryz.func18, Tryz.ntmps18
  go_wp2_with (first
    | (go_at_call 35; refine (cT _ hb2).mono ?_; rintro e w1 ⟨rfl, hw1⟩; obtain rfl := hw1.symm)
    | fail)
  obtain ⟨W2, hW2⟩ : ∃ W2, ((w.alloc (.cells #[.int .i64 line] 3)).alloc (.cells #[.int .i64 0, .int .i64 0, .int .i64 0, .int .i64 0] 29)) = W2 := ⟨_, rfl⟩
  rw [hW2] at hb2 hl hr ⊢
  clear hW2
  have HR4 : Hid _ := hr
  have HB24 : Hid _ := hb2
  obtain ⟨⟨z0, z1, z2, z3⟩, y0, y1, y2, y3⟩ := hr
  clear hb2 cT
  go_region
  go_wp2
  have hset := counted_set (m1 := 0) (m2 := 0) (m3 := 0) (m4 := 0) HR4.out
  obtain ⟨⟨s0, s1, s2, s3⟩, _⟩ := hset
  refine bodyPost_ret (v := .tuple #[.agg #[.int .i64 0, .int .i64 0, .int .i64 0, .int .i64 0], .iface 30 (.int .i64 2)]) (by simp [results, Tryz.results18, go_sem, s0, s1, s2, s3]) rfl ⟨rfl, (below_set4 HB24.out (by omega) _ _ _ _).drew⟩

/-- Line: what it tells. -/
def lineE (line : Int) (rs : List Nat) : Value :=
  if line < 0 ∨ C4 rs < line then .tuple #[cntV [], .iface 30 (.int .i64 2)]
  else .tuple #[cntV (find (reachesLine line) [] rs), .nilIface]
theorem line_all (b : Nat) (rs : List Nat) (line : Int) (w : World) (hT : Lib.Utf8Tabs 2 3 w) (h : isRope w b rs) (hz : C1 rs ≤ 100000000) :
    Calls Tryz.prog 18 #[.pointer (some ⟨b, 0, none⟩), .int .i64 line] w fun e w' => e = .returned (lineE line rs) ∧ Below w.heap.size w w' := by
  unfold lineE
  by_cases h0 : line < 0
  · rw [if_pos (Or.inl h0)]
    exact line_neg b rs line h0 w h
  · by_cases h1 : C4 rs < line
    · rw [if_pos (Or.inr h1)]
      exact line_far b rs line (by omega) h1 w hT h hz
    · rw [if_neg (by omega)]
      exact line_any b rs line (by omega) (by omega) w hT h hz
end Go.Proofs.YtldhbjmillfjgaaGreatDoor

namespace Go.Proofs.YtldhbjmillfjgaaGreatDoor
set_option linter.unusedVariables false

def noLF (Z : List Nat) : Prop := ∀ r ∈ Z, r ≠ 10
def endsLF (Y : List Nat) : Prop := Y = [] ∨ ∃ Y', Y = Y' ++ [10]
theorem C4_cons (r : Nat) (X : List Nat) : C4 (r :: X) = cL r + C4 X := by
  show C4 ([r] ++ X) = _
  rw [C4_append]
  congr 1
  unfold C4 sum4 wide
  simp
theorem C4_none : ∀ {Z : List Nat}, noLF Z → C4 Z = 0
  | [], _ => rfl
  | r :: Z, h => by
    rw [C4_cons, C4_none fun x hx => h x (List.mem_cons_of_mem _ hx)]
    unfold cL
    rw [if_neg (h r (List.mem_cons_self ..))]; rfl
theorem line_split : ∀ X : List Nat, ∃ Y Z, X = Y ++ Z ∧ noLF Z ∧ endsLF Y
  | [] => ⟨[], [], rfl, fun _ h => (by cases h), .inl rfl⟩
  | r :: X => by
    obtain ⟨Y, Z, e, hz, hy⟩ := line_split X
    subst e
    rcases hy with rfl | ⟨Y', rfl⟩
    · by_cases h : r = 10
      · exact ⟨[r], Z, rfl, hz, .inr ⟨[], by rw [h]; rfl⟩⟩
      · exact ⟨[], r :: Z, rfl, fun x hx => by
          rcases List.mem_cons.1 hx with rfl | hx
          · exact h
          · exact hz x hx, .inl rfl⟩
    · exact ⟨r :: (Y' ++ [10]), Z, rfl, hz, .inr ⟨r :: Y', rfl⟩⟩
/-- What is ahead of the last line is found by its number. -/
theorem find_line {Y : List Nat} (h : endsLF Y) (m : List Nat) : find (reachesLine (C4 Y)) [] (Y ++ m) = Y := by
  rcases h with rfl | ⟨Y', rfl⟩
  · have e : reachesLine (C4 []) [] = true := decide_eq_true (Int.le_refl _)
    unfold find
    rw [e, if_pos rfl]
  · have e1 : C4 [10] = 1 := rfl
    have f0 : reachesLine (C4 (Y' ++ [10])) ([] ++ Y') = false := decide_eq_false (by rw [C4_append, e1, List.nil_append]; omega)
    have f1 : reachesLine (C4 (Y' ++ [10])) ([] ++ Y' ++ [10]) = true := decide_eq_true (by rw [List.nil_append]; exact Int.le_refl _)
    rw [find_left (l := Y' ++ [10]) (by simpa using f1), find_right (reachesLine_rising _) f0]
    unfold find
    rw [f0, if_neg (by decide)]
    show (if reachesLine _ ([] ++ Y' ++ [10]) then some ([] ++ Y' ++ [10]) else none).getD _ = _
    rw [f1]
    simp
theorem find_line_of {X : List Nat} (m : List Nat) : ∃ Y Z, X = Y ++ Z ∧ noLF Z ∧ endsLF Y ∧ C4 X = C4 Y ∧ find (reachesLine (C4 X)) [] (X ++ m) = Y := by
  obtain ⟨Y, Z, rfl, hz, hy⟩ := line_split X
  have e : C4 (Y ++ Z) = C4 Y := by rw [C4_append, C4_none hz]; omega
  refine ⟨Y, Z, rfl, hz, hy, e, ?_⟩
  rw [e, List.append_assoc]
  exact find_line hy _
end Go.Proofs.YtldhbjmillfjgaaGreatDoor

namespace Go.Proofs.YtldhbjmillfjgaaGreatDoor
open Go.RowKit
set_option linter.unusedVariables false

/-- What Spot tells. -/
def spotE (u at_ : Int) (rs : List Nat) : Value :=
  if ¬ (u = 1 ∨ u = 2 ∨ u = 3) then .tuple #[.agg #[.int .i64 0, .int .i64 0], errV 1]
  else if at_ < 0 ∨ by_ u rs < at_ then .tuple #[.agg #[.int .i64 0, .int .i64 0], errV 2]
  else if by_ u (upTo rs u at_) = at_ then .tuple #[.agg #[.int .i64 (C4 (upTo rs u at_)), .int .i64 (by_ u (upTo rs u at_) - by_ u (find (reachesLine (C4 (upTo rs u at_))) [] rs))], .nilIface]
  else .tuple #[.agg #[.int .i64 0, .int .i64 0], errV 10]
theorem C1_take (rs : List Nat) (k : Nat) : C1 (rs.take k) ≤ C1 rs := by
  have e : rs.take k ++ rs.drop k = rs := List.take_append_drop k rs
  have h1 := C1_append (rs.take k) (rs.drop k)
  have h2 := C1_pos (rs.drop k)
  rw [e] at h1; omega
theorem C4_take (rs : List Nat) (k : Nat) : C4 (rs.take k) ≤ C4 rs := by
  have e : rs.take k ++ rs.drop k = rs := List.take_append_drop k rs
  have h1 := C4_append (rs.take k) (rs.drop k)
  have h2 := (C4_le (rs.drop k)).1
  rw [e] at h1; omega
theorem spot_all (b : Nat) (rs : List Nat) (u at_ : Int) (w : World) (hT : Lib.Utf8Tabs 2 3 w) (h : isRope w b rs) (hz : C1 rs ≤ 100000000) :
    Calls Tryz.prog 23 #[.pointer (some ⟨b, 0, none⟩), .int .i64 u, .int .i64 at_] w fun e w' => e = .returned (spotE u at_ rs) ∧ Below w.heap.size w w' := by
  unfold spotE
  by_cases hu : (u = 1 ∨ u = 2 ∨ u = 3)
  · rw [if_neg (not_not_intro hu)]
    have cA := fun (wx : World) (hb : Below w.heap.size w wx) => ahead_all b rs u at_ hu wx (Go.Proofs.Utf8Tabs_below hT hb) (isRope_below h hb) hz
    unfold aheadE at cA
    by_cases hl : at_ < 0 ∨ by_ u rs < at_
    · rw [if_pos hl]
      exact spot_told b u at_ 2 w fun wx hb => by have := cA wx hb; rw [if_pos hl] at this; exact this
    · rw [if_neg hl]
      by_cases hf : by_ u (upTo rs u at_) = at_
      · rw [if_pos hf]
        obtain ⟨k, hk, ek, _, _⟩ := find_least u at_ rs [] (by simpa using (by omega : at_ ≤ by_ u rs))
        rw [List.nil_append] at ek
        have ek2 : upTo rs u at_ = rs.take k := ek
        obtain ⟨Y, Z, e1, _, _, e2, e3⟩ := find_line_of (X := rs.take k) (rs.drop k)
        rw [List.take_append_drop] at e3
        have hy : C1 Y ≤ 100000000 := by
          have h1 := C1_append Y Z
          have h2 := C1_pos Z
          have h3 := C1_take rs k
          rw [← e1] at h1; omega
        have hx := C1_take rs k
        have h4 := C4_take rs k
        have h5 := (C4_le (rs.take k)).1
        rw [hf]
        rw [ek2] at hf ⊢
        rw [e3]
        have key := spot_good b rs (rs.take k) Y u at_ w (by omega) hy
          (fun wx hb => by
            have := cA wx hb
            rw [if_neg hl, if_pos (by rw [ek]; exact hf), ek] at this
            exact this)
          (fun wx hb => by
            have := line_all b rs (C4 (rs.take k)) wx (Go.Proofs.Utf8Tabs_below hT hb) (isRope_below h hb) hz
            unfold lineE at this
            rw [if_neg (by omega), e3] at this
            exact this)
        rw [hf] at key
        exact key
      · rw [if_neg hf]
        exact spot_told b u at_ 10 w fun wx hb => by have := cA wx hb; have hf2 : ¬ by_ u (find (reachesBy u at_) [] rs) = at_ := hf; rw [if_neg hl, if_neg hf2] at this; exact this
  · rw [if_pos hu]
    exact spot_told b u at_ 1 w fun wx hb => ahead_bad b u at_ hu wx
end Go.Proofs.YtldhbjmillfjgaaGreatDoor

namespace Go.Proofs.YtldhbjmillfjgaaGreatDoor
open Go.RowKit
set_option linter.unusedVariables false
attribute [local go_sem] Oper.semAt_some

set_option maxRecDepth 100000 in
set_option maxHeartbeats 4000000 in
theorem lineEnd_last (b : Nat) (rs : List Nat) (u line : Int) (h0 : 0 ≤ line) (h1 : line ≤ C4 rs) (h2 : C4 rs < line + 1) (w : World) (hT : Lib.Utf8Tabs 2 3 w) (h : isRope w b rs) (hz : C1 rs ≤ 100000000) :
    Calls Tryz.prog 53 #[.pointer (some ⟨b, 0, none⟩), .int .i64 u, .int .i64 line] w fun e w' => e = .returned (.int .i64 (by_ u rs)) ∧ Below w.heap.size w w' := by
  have cL : Hid (Calls Tryz.prog 18 #[.pointer (some ⟨b, 0, none⟩), .int .i64 (line + 1)] w fun e w' => e = .returned (.tuple #[.agg #[.int .i64 0, .int .i64 0, .int .i64 0, .int .i64 0], .iface 30 (.int .i64 2)]) ∧ Below w.heap.size w w') := by
    have := line_all b rs (line + 1) w hT h hz
    unfold lineE at this
    rw [if_pos (Or.inr h2)] at this
    exact this
  have cC : Hid (∀ wx, Below w.heap.size w wx → Calls Tryz.prog 11 #[.pointer (some ⟨b, 0, none⟩)] wx fun e w' => e = .returned (cntV rs) ∧ Below wx.heap.size wx w') := fun wx hb => ropecounts_any b rs wx (isRope_below h hb)
  have cI : Hid (∀ wx, Calls Tryz.prog 46 #[cntV rs, .int .i64 u] wx fun e w' => e = .returned (.int .i64 (by_ u rs)) ∧ Below wx.heap.size wx w') := fun wx => In_any u rs wx
  have bz := (C4_le rs).2
  have hl0 : 0 ≤ line := h0
  have hl1 : line ≤ 100000000 := by omega
  unfold cntV at cC cI
  clear hT h hz h0 h1 h2 bz
  generalize by_ u rs = n at *
  go_enter Tryz.func53, Tryz.ntmps53
  go_wp2_with (first
    | (go_at_call 18; refine Calls.mono cL.out ?_; rintro e w1 ⟨rfl, hb1⟩; have HB1 : Hid (Below w.heap.size w w1) := hb1; clear hb1; have HB2 : Hid (Below w.heap.size w (w1.alloc (.cells #[.int .i64 0, .int .i64 0, .int .i64 0, .int .i64 0] 29))) := HB1.out.alloc HB1.out.size _)
    | (go_at_call 11; refine (cC.out _ HB2.out).mono ?_; rintro e w3 ⟨rfl, hb3⟩; have HB3 : Hid (Below w.heap.size w w3) := HB2.out.trans (hb3.mono HB2.out.size); clear hb3)
    | (go_at_call 46; refine (cI.out _).mono ?_; rintro e w4 ⟨rfl, hb4⟩)
    | fail)
  go_ret
  exact ⟨rfl, HB3.out.trans (hb4.mono HB3.out.size)⟩

set_option maxRecDepth 100000 in
set_option maxHeartbeats 4000000 in
theorem lineEnd_more (b : Nat) (rs X : List Nat) (u line : Int) (h0 : 0 ≤ line) (h2 : line + 1 ≤ C4 rs) (w : World) (hT : Lib.Utf8Tabs 2 3 w) (h : isRope w b rs) (hz : C1 rs ≤ 100000000) (hX : find (reachesLine (line + 1)) [] rs = X) (hx : by_ u X ≤ 200000000) :
    Calls Tryz.prog 53 #[.pointer (some ⟨b, 0, none⟩), .int .i64 u, .int .i64 line] w fun e w' => e = .returned (.int .i64 (by_ u X - 1)) ∧ Below w.heap.size w w' := by
  have cL : Hid (Calls Tryz.prog 18 #[.pointer (some ⟨b, 0, none⟩), .int .i64 (line + 1)] w fun e w' => e = .returned (.tuple #[cntV X, .nilIface]) ∧ Below w.heap.size w w') := by
    have := line_all b rs (line + 1) w hT h hz
    unfold lineE at this
    rw [if_neg (by omega), hX] at this
    exact this
  have cI : Hid (∀ wx, Calls Tryz.prog 46 #[cntV X, .int .i64 u] wx fun e w' => e = .returned (.int .i64 (by_ u X)) ∧ Below wx.heap.size wx w') := fun wx => In_any u X wx
  have bz := (C4_le rs).2
  have px := by_pos u X
  have hl0 : 0 ≤ line := h0
  have hl1 : line ≤ 100000000 := by omega
  unfold cntV at cL cI
  clear hT h hz h0 h2 bz hX
  generalize by_ u X = n at *
  go_enter Tryz.func53, Tryz.ntmps53
  go_wp2_with (first
    | (go_at_call 18; refine Calls.mono cL.out ?_; rintro e w1 ⟨rfl, hb1⟩; have HB1 : Hid (Below w.heap.size w w1) := hb1; clear hb1; have HB2 : Hid (Below w.heap.size w (w1.alloc (.cells #[.int .i64 (C1 X), .int .i64 (C2 X), .int .i64 (C3 X), .int .i64 (C4 X)] 29))) := HB1.out.alloc HB1.out.size _)
    | (go_at_call 46; refine (cI.out _).mono ?_; rintro e w4 ⟨rfl, hb4⟩)
    | fail)
  go_ret
  exact ⟨rfl, HB2.out.trans (hb4.mono HB2.out.size)⟩
end Go.Proofs.YtldhbjmillfjgaaGreatDoor

namespace Go.Proofs.YtldhbjmillfjgaaGreatDoor
open Go.RowKit
set_option linter.unusedVariables false
attribute [local go_sem] Oper.semAt_some yieldsUpon okUpon field0 field3

set_option maxRecDepth 100000 in
set_option maxHeartbeats 4000000 in
theorem place_unit (b : Nat) (u line col E : Int) (w : World)
    (cU : Hid (∀ wx, Below w.heap.size w wx → Calls Tryz.prog 51 #[.pointer (some ⟨b, 0, none⟩), .int .i64 u] wx fun e w' => e = .returned (.iface 30 (.int .i64 E)) ∧ Below wx.heap.size wx w')) :
    Calls Tryz.prog 25 #[.pointer (some ⟨b, 0, none⟩), .int .i64 u, .agg #[.int .i64 line, .int .i64 col]] w fun e w' => e = .returned (.tuple #[.int .i64 0, .iface 30 (.int .i64 E)]) ∧ Below w.heap.size w w' := by
  have HB0 : Hid (Below w.heap.size w (w.alloc (.cells #[.int .i64 line, .int .i64 col] 54))) := (Below.refl _ w).alloc (Nat.le_refl _) _
  have HS0 : Hid (spotW (w.alloc (.cells #[.int .i64 line, .int .i64 col] 54)) w.heap.size line col) := spotW_new w _ _ _
  go_enter Tryz.func25, Tryz.ntmps25
  go_wp2_with (first
    | (go_at_call 51; refine (cU.out _ HB0.out).mono ?_; rintro e w1 ⟨rfl, hb1⟩; have HB1 : Hid (Below w.heap.size w w1) := HB0.out.trans (hb1.mono HB0.out.size); have HS1 : Hid (spotW w1 w.heap.size line col) := spotW_below HS0.out hb1; clear hb1; have ⟨⟨p0, p1⟩, p2, p3⟩ := HS1.out)
    | fail)
  go_ret2
  exact ⟨rfl, HB1.out⟩

set_option maxRecDepth 100000 in
set_option maxHeartbeats 4000000 in
theorem place_line (b : Nat) (u line col E : Int) (w : World)
    (cU : Hid (∀ wx, Below w.heap.size w wx → Calls Tryz.prog 51 #[.pointer (some ⟨b, 0, none⟩), .int .i64 u] wx fun e w' => e = .returned .nilIface ∧ Below wx.heap.size wx w'))
    (cL : Hid (∀ wx, Below w.heap.size w wx → Calls Tryz.prog 18 #[.pointer (some ⟨b, 0, none⟩), .int .i64 line] wx fun e w' => e = .returned (.tuple #[cntV [], .iface 30 (.int .i64 E)]) ∧ Below wx.heap.size wx w')) :
    Calls Tryz.prog 25 #[.pointer (some ⟨b, 0, none⟩), .int .i64 u, .agg #[.int .i64 line, .int .i64 col]] w fun e w' => e = .returned (.tuple #[.int .i64 0, .iface 30 (.int .i64 E)]) ∧ Below w.heap.size w w' := by
  have hC : cntV [] = .agg #[.int .i64 0, .int .i64 0, .int .i64 0, .int .i64 0] := rfl
  rw [hC] at cL
  clear hC
  have HB0 : Hid (Below w.heap.size w (w.alloc (.cells #[.int .i64 line, .int .i64 col] 54))) := (Below.refl _ w).alloc (Nat.le_refl _) _
  have HS0 : Hid (spotW (w.alloc (.cells #[.int .i64 line, .int .i64 col] 54)) w.heap.size line col) := spotW_new w _ _ _
  go_enter Tryz.func25, Tryz.ntmps25
  go_wp2_with (first
    | (go_at_call 51; refine (cU.out _ HB0.out).mono ?_; rintro e w1 ⟨rfl, hb1⟩; have HB1 : Hid (Below w.heap.size w w1) := HB0.out.trans (hb1.mono HB0.out.size); have HS1 : Hid (spotW w1 w.heap.size line col) := spotW_below HS0.out hb1; clear hb1; have ⟨⟨p0, p1⟩, p2, p3⟩ := HS1.out)
    | (go_at_call 18; refine (cL.out _ HB1.out).mono ?_; rintro e w2 ⟨rfl, hb2⟩; have HB2 : Hid (Below w.heap.size w w2) := HB1.out.trans (hb2.mono HB1.out.size); clear hb2)
    | fail)
  go_ret2
  exact ⟨rfl, HB2.out.alloc HB2.out.size _⟩

set_option maxRecDepth 100000 in
set_option maxHeartbeats 4000000 in
theorem place_neg (b : Nat) (B : List Nat) (u line col nB : Int) (hc : col < 0) (w : World)
    (cU : Hid (∀ wx, Below w.heap.size w wx → Calls Tryz.prog 51 #[.pointer (some ⟨b, 0, none⟩), .int .i64 u] wx fun e w' => e = .returned .nilIface ∧ Below wx.heap.size wx w'))
    (cL : Hid (∀ wx, Below w.heap.size w wx → Calls Tryz.prog 18 #[.pointer (some ⟨b, 0, none⟩), .int .i64 line] wx fun e w' => e = .returned (.tuple #[cntV B, .nilIface]) ∧ Below wx.heap.size wx w'))
    (cI : Hid (∀ wx, Calls Tryz.prog 46 #[cntV B, .int .i64 u] wx fun e w' => e = .returned (.int .i64 nB) ∧ Below wx.heap.size wx w')) :
    Calls Tryz.prog 25 #[.pointer (some ⟨b, 0, none⟩), .int .i64 u, .agg #[.int .i64 line, .int .i64 col]] w fun e w' => e = .returned (.tuple #[.int .i64 0, .iface 30 (.int .i64 2)]) ∧ Below w.heap.size w w' := by
  unfold cntV at cL cI
  have HB0 : Hid (Below w.heap.size w (w.alloc (.cells #[.int .i64 line, .int .i64 col] 54))) := (Below.refl _ w).alloc (Nat.le_refl _) _
  have HS0 : Hid (spotW (w.alloc (.cells #[.int .i64 line, .int .i64 col] 54)) w.heap.size line col) := spotW_new w _ _ _
  go_enter Tryz.func25, Tryz.ntmps25
  go_wp2_with (first
    | (go_at_call 51; refine (cU.out _ HB0.out).mono ?_; rintro e w1 ⟨rfl, hb1⟩; have HB1 : Hid (Below w.heap.size w w1) := HB0.out.trans (hb1.mono HB0.out.size); have HS1 : Hid (spotW w1 w.heap.size line col) := spotW_below HS0.out hb1; clear hb1; have ⟨⟨p0, p1⟩, p2, p3⟩ := HS1.out)
    | (go_at_call 18; refine (cL.out _ HB1.out).mono ?_; rintro e w2 ⟨rfl, hb2⟩; have HB2 : Hid (Below w.heap.size w w2) := HB1.out.trans (hb2.mono HB1.out.size); have HS2 : Hid (spotW w2 w.heap.size line col) := spotW_below HS1.out hb2; have HB3 : Hid (Below w.heap.size w (w2.alloc (.cells #[.int .i64 (C1 B), .int .i64 (C2 B), .int .i64 (C3 B), .int .i64 (C4 B)] 29))) := HB2.out.alloc HB2.out.size _; have HS3 : Hid (spotW (w2.alloc (.cells #[.int .i64 (C1 B), .int .i64 (C2 B), .int .i64 (C3 B), .int .i64 (C4 B)] 29)) w.heap.size line col) := spotW_below HS2.out ((Below.refl _ _).alloc (Nat.le_refl _) _); clear hb2)
    | (go_at_call 46; refine (cI.out _).mono ?_; rintro e w4 ⟨rfl, hb4⟩; have HB4 : Hid (Below w.heap.size w w4) := HB3.out.trans (hb4.mono HB3.out.size); have HS4 : Hid (spotW w4 w.heap.size line col) := spotW_below HS3.out hb4; clear hb4)
    | fail)
  obtain ⟨⟨k0, k1⟩, k2, k3⟩ := HS4.out
  go_region
  go_wp2
  go_ret2
  exact ⟨rfl, HB4.out.drew⟩

set_option maxRecDepth 100000 in
set_option maxHeartbeats 4000000 in
theorem place_far (b : Nat) (B : List Nat) (u line col nB nE : Int) (hc : 0 ≤ col) (hw : IntKind.i64.wrap (nE - nB) = nE - nB) (hf : nE - nB < col) (w : World)
    (cU : Hid (∀ wx, Below w.heap.size w wx → Calls Tryz.prog 51 #[.pointer (some ⟨b, 0, none⟩), .int .i64 u] wx fun e w' => e = .returned .nilIface ∧ Below wx.heap.size wx w'))
    (cL : Hid (∀ wx, Below w.heap.size w wx → Calls Tryz.prog 18 #[.pointer (some ⟨b, 0, none⟩), .int .i64 line] wx fun e w' => e = .returned (.tuple #[cntV B, .nilIface]) ∧ Below wx.heap.size wx w'))
    (cI : Hid (∀ wx, Calls Tryz.prog 46 #[cntV B, .int .i64 u] wx fun e w' => e = .returned (.int .i64 nB) ∧ Below wx.heap.size wx w'))
    (cE : Hid (∀ wx, Below w.heap.size w wx → Calls Tryz.prog 53 #[.pointer (some ⟨b, 0, none⟩), .int .i64 u, .int .i64 line] wx fun e w' => e = .returned (.int .i64 nE) ∧ Below wx.heap.size wx w')) :
    Calls Tryz.prog 25 #[.pointer (some ⟨b, 0, none⟩), .int .i64 u, .agg #[.int .i64 line, .int .i64 col]] w fun e w' => e = .returned (.tuple #[.int .i64 0, .iface 30 (.int .i64 2)]) ∧ Below w.heap.size w w' := by
  have n0 : ¬ col < 0 := by omega
  unfold cntV at cL cI
  clear hc
  have HB0 : Hid (Below w.heap.size w (w.alloc (.cells #[.int .i64 line, .int .i64 col] 54))) := (Below.refl _ w).alloc (Nat.le_refl _) _
  have HS0 : Hid (spotW (w.alloc (.cells #[.int .i64 line, .int .i64 col] 54)) w.heap.size line col) := spotW_new w _ _ _
  go_enter Tryz.func25, Tryz.ntmps25
  go_wp2_with (first
    | (go_at_call 51; refine (cU.out _ HB0.out).mono ?_; rintro e w1 ⟨rfl, hb1⟩; have HB1 : Hid (Below w.heap.size w w1) := HB0.out.trans (hb1.mono HB0.out.size); have HS1 : Hid (spotW w1 w.heap.size line col) := spotW_below HS0.out hb1; clear hb1; have ⟨⟨p0, p1⟩, p2, p3⟩ := HS1.out)
    | (go_at_call 18; refine (cL.out _ HB1.out).mono ?_; rintro e w2 ⟨rfl, hb2⟩; have HB2 : Hid (Below w.heap.size w w2) := HB1.out.trans (hb2.mono HB1.out.size); have HS2 : Hid (spotW w2 w.heap.size line col) := spotW_below HS1.out hb2; have HB3 : Hid (Below w.heap.size w (w2.alloc (.cells #[.int .i64 (C1 B), .int .i64 (C2 B), .int .i64 (C3 B), .int .i64 (C4 B)] 29))) := HB2.out.alloc HB2.out.size _; have HS3 : Hid (spotW (w2.alloc (.cells #[.int .i64 (C1 B), .int .i64 (C2 B), .int .i64 (C3 B), .int .i64 (C4 B)] 29)) w.heap.size line col) := spotW_below HS2.out ((Below.refl _ _).alloc (Nat.le_refl _) _); clear hb2)
    | (go_at_call 46; refine (cI.out _).mono ?_; rintro e w4 ⟨rfl, hb4⟩; have HB4 : Hid (Below w.heap.size w w4) := HB3.out.trans (hb4.mono HB3.out.size); have HS4 : Hid (spotW w4 w.heap.size line col) := spotW_below HS3.out hb4; clear hb4)
    | fail)
  have hb4 := HB4.out
  have hs4 := HS4.out
  generalize w2.heap.size = BB at *
  clear HB0 HS0 HB1 HS1 HB2 HS2 HB3 HS3 HB4 HS4 cU cL p0 p1 p2 p3
  refine wp_region_rel 15 15 (by kernel_rfl) rfl ?_
  intro w6 hb6
  obtain ⟨G, hG⟩ := exists_growth w6
  have hb46 := hb4.trans (hb6.mono hb4.size)
  have hs6 := spotW_below hs4 hb6
  obtain ⟨⟨x0, x1⟩, _⟩ := hs6
  have gx0 := hG.cell x0
  have gx1 := hG.cell x1
  have cG := fun x => cE.out (G x) (hb46.trans ((hG.below x).mono hb46.size))
  clear x0 x1
  (refine anyG_step hG (i := 0) rfl (by kernel_rfl) (by kernel_rfl) (by kernel_rfl) (fun K hK => ?_); go_simp; refine hK _ ?_; clear hK K)
  (refine anyG_step hG (i := 1) rfl (by kernel_rfl) (by kernel_rfl) (by kernel_rfl) (fun K hK => ?_); go_simp; refine hK _ ?_; clear hK K)
  (refine anyG_step hG (i := 2) rfl (by kernel_rfl) (by kernel_rfl) (by kernel_rfl) (fun K hK => ?_); go_simp; refine hK _ ?_; clear hK K)
  (refine anyG_step hG (i := 3) rfl (by kernel_rfl) (by kernel_rfl) (by kernel_rfl) (fun K hK => ?_); go_simp; refine hK _ ?_; clear hK K)
  (refine anyG_step hG (i := 4) rfl (by kernel_rfl) (by kernel_rfl) (by kernel_rfl) (fun K hK => ?_); go_simp; refine hK _ ?_; clear hK K)
  (refine anyG_step hG (i := 5) rfl (by kernel_rfl) (by kernel_rfl) (by kernel_rfl) (fun K hK => ?_); go_simp; refine hK _ ?_; clear hK K)
  (refine anyG_step hG (i := 6) rfl (by kernel_rfl) (by kernel_rfl) (by kernel_rfl) (fun K hK => ?_); go_simp; refine hK _ ?_; clear hK K)
  (refine anyG_step hG (i := 7) rfl (by kernel_rfl) (by kernel_rfl) (by kernel_rfl) (fun K hK => ?_); go_simp; refine hK _ ?_; clear hK K)
  (refine anyG_step hG (i := 8) rfl (by kernel_rfl) (by kernel_rfl) (by kernel_rfl) (fun K hK => ?_); go_simp; refine hK _ ?_; clear hK K)
  (refine anyG_step hG (i := 9) rfl (by kernel_rfl) (by kernel_rfl) (by kernel_rfl) (fun K hK => ?_); go_simp; refine hK _ ?_; clear hK K)
  (refine anyG_step hG (i := 10) rfl (by kernel_rfl) (by kernel_rfl) (by kernel_rfl) (fun K hK => ?_); go_simp; apply Exists.intro; refine ⟨fun _ => ?_, hK _ ?_⟩; exact cG _; clear hK K)
  (refine anyG_step hG (i := 11) rfl (by kernel_rfl) (by kernel_rfl) (by kernel_rfl) (fun K hK => ?_); go_simp; refine hK _ ?_; clear hK K)
  (refine anyG_step hG (i := 12) rfl (by kernel_rfl) (by kernel_rfl) (by kernel_rfl) (fun K hK => ?_); go_simp; refine hK _ ?_; clear hK K)
  (refine anyG_step hG (i := 13) rfl (by kernel_rfl) (by kernel_rfl) (by kernel_rfl) (fun K hK => ?_); go_simp; refine hK _ ?_; clear hK K)
  (refine anyG_step hG (i := 14) rfl (by kernel_rfl) (by kernel_rfl) (by kernel_rfl) (fun K hK => ?_); go_simp; refine hK _ ?_; clear hK K)
  clear gx0 gx1 cG hG
  refine anyG_end (by kernel_rfl) ?_
  intro w7 hb7
  have hb67 := hb6.trans (hb7.mono hb6.size)
  have HB7 : Hid (Below w.heap.size w w7) := hb4.trans (hb67.mono hb4.size)
  have HS7 : Hid (spotW w7 w.heap.size line col) := spotW_below hs4 hb67
  clear hb6 hb7 hb67 hb46 hb4 hs4
  go_wp2
  go_ret2
  exact ⟨rfl, HB7.out⟩

set_option maxRecDepth 100000 in
set_option maxHeartbeats 4000000 in
theorem place_rest (b : Nat) (B X : List Nat) (u line col nB nE nX : Int) (ev : Value) (hc : 0 ≤ col) (hw : IntKind.i64.wrap (nE - nB) = nE - nB) (hf : col ≤ nE - nB) (hw2 : IntKind.i64.wrap (nB + col) = nB + col) (w : World)
    (cU : Hid (∀ wx, Below w.heap.size w wx → Calls Tryz.prog 51 #[.pointer (some ⟨b, 0, none⟩), .int .i64 u] wx fun e w' => e = .returned .nilIface ∧ Below wx.heap.size wx w'))
    (cL : Hid (∀ wx, Below w.heap.size w wx → Calls Tryz.prog 18 #[.pointer (some ⟨b, 0, none⟩), .int .i64 line] wx fun e w' => e = .returned (.tuple #[cntV B, .nilIface]) ∧ Below wx.heap.size wx w'))
    (cI : Hid (∀ wx, Calls Tryz.prog 46 #[cntV B, .int .i64 u] wx fun e w' => e = .returned (.int .i64 nB) ∧ Below wx.heap.size wx w'))
    (cE : Hid (∀ wx, Below w.heap.size w wx → Calls Tryz.prog 53 #[.pointer (some ⟨b, 0, none⟩), .int .i64 u, .int .i64 line] wx fun e w' => e = .returned (.int .i64 nE) ∧ Below wx.heap.size wx w'))
    (cA : Hid (∀ wx, Below w.heap.size w wx → Calls Tryz.prog 16 #[.pointer (some ⟨b, 0, none⟩), .int .i64 u, .int .i64 (nB + col)] wx fun e w' => e = .returned (.tuple #[cntV X, ev]) ∧ Below wx.heap.size wx w'))
    (cX : Hid (∀ wx, Calls Tryz.prog 46 #[cntV X, .int .i64 u] wx fun e w' => e = .returned (.int .i64 nX) ∧ Below wx.heap.size wx w')) :
    Calls Tryz.prog 25 #[.pointer (some ⟨b, 0, none⟩), .int .i64 u, .agg #[.int .i64 line, .int .i64 col]] w fun e w' => e = .returned (.tuple #[.int .i64 nX, ev]) ∧ Below w.heap.size w w' := by
  have n0 : ¬ col < 0 := by omega
  have n1 : ¬ nE - nB < col := by omega
  unfold cntV at cL cI cA cX
  clear hc hf
  have HB0 : Hid (Below w.heap.size w (w.alloc (.cells #[.int .i64 line, .int .i64 col] 54))) := (Below.refl _ w).alloc (Nat.le_refl _) _
  have HS0 : Hid (spotW (w.alloc (.cells #[.int .i64 line, .int .i64 col] 54)) w.heap.size line col) := spotW_new w _ _ _
  go_enter Tryz.func25, Tryz.ntmps25
  go_wp2_with (first
    | (go_at_call 51; refine (cU.out _ HB0.out).mono ?_; rintro e w1 ⟨rfl, hb1⟩; have HB1 : Hid (Below w.heap.size w w1) := HB0.out.trans (hb1.mono HB0.out.size); have HS1 : Hid (spotW w1 w.heap.size line col) := spotW_below HS0.out hb1; clear hb1; have ⟨⟨p0, p1⟩, p2, p3⟩ := HS1.out)
    | (go_at_call 18; refine (cL.out _ HB1.out).mono ?_; rintro e w2 ⟨rfl, hb2⟩; have HB2 : Hid (Below w.heap.size w w2) := HB1.out.trans (hb2.mono HB1.out.size); have HS2 : Hid (spotW w2 w.heap.size line col) := spotW_below HS1.out hb2; have HB3 : Hid (Below w.heap.size w (w2.alloc (.cells #[.int .i64 (C1 B), .int .i64 (C2 B), .int .i64 (C3 B), .int .i64 (C4 B)] 29))) := HB2.out.alloc HB2.out.size _; have HS3 : Hid (spotW (w2.alloc (.cells #[.int .i64 (C1 B), .int .i64 (C2 B), .int .i64 (C3 B), .int .i64 (C4 B)] 29)) w.heap.size line col) := spotW_below HS2.out ((Below.refl _ _).alloc (Nat.le_refl _) _); clear hb2)
    | (go_at_call 46; refine (cI.out _).mono ?_; rintro e w4 ⟨rfl, hb4⟩; have HB4 : Hid (Below w.heap.size w w4) := HB3.out.trans (hb4.mono HB3.out.size); have HS4 : Hid (spotW w4 w.heap.size line col) := spotW_below HS3.out hb4; clear hb4)
    | fail)
  have hb4 := HB4.out
  have hs4 := HS4.out
  generalize w2.heap.size = BB at *
  clear HB0 HS0 HB1 HS1 HB2 HS2 HB3 HS3 HB4 HS4 cU cL p0 p1 p2 p3
  refine wp_region_rel 15 15 (by kernel_rfl) rfl ?_
  intro w6 hb6
  obtain ⟨G, hG⟩ := exists_growth w6
  have hb46 := hb4.trans (hb6.mono hb4.size)
  have hs6 := spotW_below hs4 hb6
  obtain ⟨⟨x0, x1⟩, _⟩ := hs6
  have gx0 := hG.cell x0
  have gx1 := hG.cell x1
  have cG := fun x => cE.out (G x) (hb46.trans ((hG.below x).mono hb46.size))
  clear x0 x1
  (refine anyG_step hG (i := 0) rfl (by kernel_rfl) (by kernel_rfl) (by kernel_rfl) (fun K hK => ?_); go_simp; refine hK _ ?_; clear hK K)
  (refine anyG_step hG (i := 1) rfl (by kernel_rfl) (by kernel_rfl) (by kernel_rfl) (fun K hK => ?_); go_simp; refine hK _ ?_; clear hK K)
  (refine anyG_step hG (i := 2) rfl (by kernel_rfl) (by kernel_rfl) (by kernel_rfl) (fun K hK => ?_); go_simp; refine hK _ ?_; clear hK K)
  (refine anyG_step hG (i := 3) rfl (by kernel_rfl) (by kernel_rfl) (by kernel_rfl) (fun K hK => ?_); go_simp; refine hK _ ?_; clear hK K)
  (refine anyG_step hG (i := 4) rfl (by kernel_rfl) (by kernel_rfl) (by kernel_rfl) (fun K hK => ?_); go_simp; refine hK _ ?_; clear hK K)
  (refine anyG_step hG (i := 5) rfl (by kernel_rfl) (by kernel_rfl) (by kernel_rfl) (fun K hK => ?_); go_simp; refine hK _ ?_; clear hK K)
  (refine anyG_step hG (i := 6) rfl (by kernel_rfl) (by kernel_rfl) (by kernel_rfl) (fun K hK => ?_); go_simp; refine hK _ ?_; clear hK K)
  (refine anyG_step hG (i := 7) rfl (by kernel_rfl) (by kernel_rfl) (by kernel_rfl) (fun K hK => ?_); go_simp; refine hK _ ?_; clear hK K)
  (refine anyG_step hG (i := 8) rfl (by kernel_rfl) (by kernel_rfl) (by kernel_rfl) (fun K hK => ?_); go_simp; refine hK _ ?_; clear hK K)
  (refine anyG_step hG (i := 9) rfl (by kernel_rfl) (by kernel_rfl) (by kernel_rfl) (fun K hK => ?_); go_simp; refine hK _ ?_; clear hK K)
  (refine anyG_step hG (i := 10) rfl (by kernel_rfl) (by kernel_rfl) (by kernel_rfl) (fun K hK => ?_); go_simp; apply Exists.intro; refine ⟨fun _ => ?_, hK _ ?_⟩; exact cG _; clear hK K)
  (refine anyG_step hG (i := 11) rfl (by kernel_rfl) (by kernel_rfl) (by kernel_rfl) (fun K hK => ?_); go_simp; refine hK _ ?_; clear hK K)
  (refine anyG_step hG (i := 12) rfl (by kernel_rfl) (by kernel_rfl) (by kernel_rfl) (fun K hK => ?_); go_simp; refine hK _ ?_; clear hK K)
  (refine anyG_step hG (i := 13) rfl (by kernel_rfl) (by kernel_rfl) (by kernel_rfl) (fun K hK => ?_); go_simp; refine hK _ ?_; clear hK K)
  (refine anyG_step hG (i := 14) rfl (by kernel_rfl) (by kernel_rfl) (by kernel_rfl) (fun K hK => ?_); go_simp; refine hK _ ?_; clear hK K)
  clear gx0 gx1 cG hG
  refine anyG_end (by kernel_rfl) ?_
  intro w7 hb7
  have hb67 := hb6.trans (hb7.mono hb6.size)
  have HB7 : Hid (Below w.heap.size w w7) := hb4.trans (hb67.mono hb4.size)
  have HS7 : Hid (spotW w7 w.heap.size line col) := spotW_below hs4 hb67
  clear hb6 hb7 hb67 hb46 hb4 hs4
  obtain ⟨⟨k0, k1⟩, k2, k3⟩ := HS7.out
  go_wp2_with (first
    | (go_at_call 16; refine (cA.out _ HB7.out).mono ?_; rintro e w8 ⟨rfl, hb8⟩; have HB8 : Hid (Below w.heap.size w w8) := HB7.out.trans (hb8.mono HB7.out.size); have HB9 : Hid (Below w.heap.size w (w8.alloc (.cells #[.int .i64 (C1 X), .int .i64 (C2 X), .int .i64 (C3 X), .int .i64 (C4 X)] 29))) := HB8.out.alloc HB8.out.size _; clear hb8)
    | (go_at_call 46; refine (cX.out _).mono ?_; rintro e w9 ⟨rfl, hb9⟩; have HB10 : Hid (Below w.heap.size w w9) := HB9.out.trans (hb9.mono HB9.out.size); clear hb9)
    | fail)
  go_ret2
  exact ⟨rfl, HB10.out⟩
end Go.Proofs.YtldhbjmillfjgaaGreatDoor

namespace Go.Proofs.YtldhbjmillfjgaaGreatDoor
open Go.RowKit
set_option linter.unusedVariables false

theorem find_take (f : List Nat → Bool) : ∀ (rs pre : List Nat), ∃ k, find f pre rs = pre ++ rs.take k
  | [], pre => ⟨0, by unfold find; split <;> simp [seek]⟩
  | r :: rs, pre => by
    by_cases h : f pre = true
    · exact ⟨0, by unfold find; rw [if_pos h]; simp⟩
    · obtain ⟨k, hk⟩ := find_take f rs (pre ++ [r])
      refine ⟨k + 1, ?_⟩
      have e : find f pre (r :: rs) = find f (pre ++ [r]) rs := by
        unfold find
        rw [if_neg h, seek]
        split
        · rfl
        · simp
      rw [e, hk]; simp
theorem find_small (f : List Nat → Bool) (rs : List Nat) (hz : C1 rs ≤ 100000000) : C1 (find f [] rs) ≤ 100000000 := by
  obtain ⟨k, hk⟩ := find_take f rs []
  rw [hk, List.nil_append]
  have := C1_take rs k
  omega
/-- Where a line begins, and where it ends, in a unit. -/
def beginL (u line : Int) (rs : List Nat) : Int := by_ u (find (reachesLine line) [] rs)
def endL (u line : Int) (rs : List Nat) : Int := if C4 rs < line + 1 then by_ u rs else by_ u (find (reachesLine (line + 1)) [] rs) - 1
/-- What Place tells. -/
def placeE (u line col : Int) (rs : List Nat) : Value :=
  if ¬ (u = 1 ∨ u = 2 ∨ u = 3) then .tuple #[.int .i64 0, errV 1]
  else if line < 0 ∨ C4 rs < line then .tuple #[.int .i64 0, errV 2]
  else if col < 0 ∨ endL u line rs - beginL u line rs < col then .tuple #[.int .i64 0, errV 2]
  else if beginL u line rs + col < 0 ∨ by_ u rs < beginL u line rs + col then .tuple #[.int .i64 0, errV 2]
  else if by_ u (upTo rs u (beginL u line rs + col)) = beginL u line rs + col then .tuple #[.int .i64 (by_ u (upTo rs u (beginL u line rs + col))), .nilIface]
  else .tuple #[.int .i64 0, errV 10]
theorem wrap_in {a : Int} (h0 : -1000000000 ≤ a) (h1 : a ≤ 1000000000) : IntKind.i64.wrap a = a := by
  unfold IntKind.wrap; simp [IntKind.bits, IntKind.signed]; omega
theorem place_all (b : Nat) (rs : List Nat) (u line col : Int) (w : World) (hT : Lib.Utf8Tabs 2 3 w) (h : isRope w b rs) (hz : C1 rs ≤ 100000000) :
    Calls Tryz.prog 25 #[.pointer (some ⟨b, 0, none⟩), .int .i64 u, .agg #[.int .i64 line, .int .i64 col]] w fun e w' => e = .returned (placeE u line col rs) ∧ Below w.heap.size w w' := by
  unfold placeE
  have tT := fun (wx : World) (hb : Below w.heap.size w wx) => Go.Proofs.Utf8Tabs_below hT hb
  have tR := fun (wx : World) (hb : Below w.heap.size w wx) => isRope_below h hb
  by_cases hu : (u = 1 ∨ u = 2 ∨ u = 3)
  · rw [if_neg (not_not_intro hu)]
    have cU : Hid _ := fun (wx : World) (hb : Below w.heap.size w wx) => unitError_good b rs u hu wx (tT wx hb) (tR wx hb) hz
    have cL := fun (wx : World) (hb : Below w.heap.size w wx) => line_all b rs line wx (tT wx hb) (tR wx hb) hz
    unfold lineE at cL
    by_cases hl : line < 0 ∨ C4 rs < line
    · rw [if_pos hl]
      exact place_line b u line col 2 w cU fun wx hb => by have := cL wx hb; rw [if_pos hl] at this; exact this
    · rw [if_neg hl]
      have cL2 : Hid _ := fun (wx : World) (hb : Below w.heap.size w wx) => by have := cL wx hb; rw [if_neg hl] at this; exact this
      have cI : Hid _ := fun (wx : World) => In_any u (find (reachesLine line) [] rs) wx
      have s0 := find_small (reachesLine line) rs hz
      have s1 := by_le u (find (reachesLine line) [] rs)
      have s2 := by_pos u (find (reachesLine line) [] rs)
      have s3 := find_small (reachesLine (line + 1)) rs hz
      have s4 := by_le u (find (reachesLine (line + 1)) [] rs)
      have s5 := by_pos u (find (reachesLine (line + 1)) [] rs)
      have s6 := by_le u rs
      have s7 := by_pos u rs
      have cE : Hid (∀ wx, Below w.heap.size w wx → Calls Tryz.prog 53 #[.pointer (some ⟨b, 0, none⟩), .int .i64 u, .int .i64 line] wx fun e w' => e = .returned (.int .i64 (endL u line rs)) ∧ Below wx.heap.size wx w') := fun wx hb => by
        unfold endL
        by_cases he : C4 rs < line + 1
        · rw [if_pos he]
          exact lineEnd_last b rs u line (by omega) (by omega) he wx (tT wx hb) (tR wx hb) hz
        · rw [if_neg he]
          exact lineEnd_more b rs _ u line (by omega) (by omega) wx (tT wx hb) (tR wx hb) hz rfl (by omega)
      have eb : -1 ≤ endL u line rs ∧ endL u line rs ≤ 200000000 := by
        unfold endL
        split <;> omega
      have bb : 0 ≤ beginL u line rs ∧ beginL u line rs ≤ 200000000 := by
        unfold beginL; omega
      have hw := wrap_in (a := endL u line rs - beginL u line rs) (by omega) (by omega)
      by_cases hc : col < 0
      · rw [if_pos (Or.inl hc)]
        exact place_neg b _ u line col _ hc w cU cL2 cI
      · by_cases hf : endL u line rs - beginL u line rs < col
        · rw [if_pos (Or.inr hf)]
          exact place_far b _ u line col (beginL u line rs) _ (by omega) hw hf w cU cL2 cI cE
        · rw [if_neg (by omega)]
          have hw2 := wrap_in (a := beginL u line rs + col) (by omega) (by omega)
          have cA := fun (wx : World) (hb : Below w.heap.size w wx) => ahead_all b rs u (beginL u line rs + col) hu wx (tT wx hb) (tR wx hb) hz
          unfold aheadE at cA
          by_cases hr : beginL u line rs + col < 0 ∨ by_ u rs < beginL u line rs + col
          · rw [if_pos hr]
            exact place_rest b _ [] u line col (beginL u line rs) _ 0 (errV 2) (by omega) hw (by omega) hw2 w cU cL2 cI cE
              (fun wx hb => by have := cA wx hb; rw [if_pos hr] at this; exact this) (fun wx => by have := In_any u [] wx; rw [by_nil] at this; exact this)
          · rw [if_neg hr]
            by_cases hf2 : by_ u (find (reachesBy u (beginL u line rs + col)) [] rs) = beginL u line rs + col
            · have hf3 : by_ u (upTo rs u (beginL u line rs + col)) = beginL u line rs + col := hf2
              rw [if_pos hf3]
              exact place_rest b _ _ u line col (beginL u line rs) _ _ .nilIface (by omega) hw (by omega) hw2 w cU cL2 cI cE
                (fun wx hb => by have := cA wx hb; rw [if_neg hr, if_pos hf2] at this; exact this) (fun wx => In_any u _ wx)
            · have hf3 : ¬ by_ u (upTo rs u (beginL u line rs + col)) = beginL u line rs + col := hf2
              rw [if_neg hf3]
              exact place_rest b _ [] u line col (beginL u line rs) _ 0 (errV 10) (by omega) hw (by omega) hw2 w cU cL2 cI cE
                (fun wx hb => by have := cA wx hb; rw [if_neg hr, if_neg hf2] at this; exact this) (fun wx => by have := In_any u [] wx; rw [by_nil] at this; exact this)
  · rw [if_pos hu]
    exact place_unit b u line col 1 w fun wx hb => unitError_bad b u hu wx
end Go.Proofs.YtldhbjmillfjgaaGreatDoor

namespace Go.Proofs.YtldhbjmillfjgaaGreatDoor
open Go.RowKit
set_option linter.unusedVariables false
attribute [local go_sem] Oper.semAt_some

/-- What the document's Ahead tells. -/
def axN (u at_ : Int) (rs : List Nat) : List Nat :=
  if ¬ (u = 1 ∨ u = 2 ∨ u = 3) then [] else if at_ < 0 ∨ by_ u rs < at_ then [] else if by_ u (upTo rs u at_) = at_ then upTo rs u at_ else []
def axE (u at_ : Int) (rs : List Nat) : Int :=
  if ¬ (u = 1 ∨ u = 2 ∨ u = 3) then 1 else if at_ < 0 ∨ by_ u rs < at_ then 2 else if by_ u (upTo rs u at_) = at_ then 0 else 10
theorem refAhead_all (s : ByteArray) (rs : List Nat) (u at_ : Int) (hr : ∀ r ∈ rs, isRune r) (he : encs rs = s.data.toList) (hs : s.size < 1000000) (w : World) :
    Calls Tryz.prog 15 #[.string s, .int .i64 u, .int .i64 at_] w fun e w' => e = .returned (.tuple #[cntV (axN u at_ rs), .int .i64 (axE u at_ rs)]) ∧ Below w.heap.size w w' := by
  unfold axN axE
  by_cases hu : (u = 1 ∨ u = 2 ∨ u = 3)
  · rw [if_neg (not_not_intro hu), if_neg (not_not_intro hu)]
    by_cases hl : at_ < 0 ∨ by_ u rs < at_
    · rw [if_pos hl, if_pos hl]
      exact refAhead_rng s rs u at_ hr he hs hu hl w
    · rw [if_neg hl, if_neg hl]
      have cA := refAhead_any s rs u at_ hr he hs hu (by omega) (by omega) w
      by_cases hf : by_ u (upTo rs u at_) = at_
      · rw [if_pos hf, if_pos hf]
        have ho : onEdge rs u at_ = true := decide_eq_true hf
        rw [ho] at cA
        exact cA
      · rw [if_neg hf, if_neg hf]
        have ho : onEdge rs u at_ = false := decide_eq_false hf
        rw [ho] at cA
        exact cA
  · rw [if_pos hu, if_pos hu]
    exact refAhead_bad s u at_ hu w
theorem axN_small (u at_ : Int) (rs : List Nat) (hz : C1 rs ≤ 100000000) : C1 (axN u at_ rs) ≤ 100000000 := by
  have h0 : C1 [] ≤ 100000000 := by decide
  unfold axN
  split
  · exact h0
  · split
    · exact h0
    · split
      · exact find_small _ rs hz
      · exact h0
theorem aheadAx_all (b : Nat) (rs : List Nat) (u at_ : Int) (w : World) (hT : Lib.Utf8Tabs 2 3 w) (h : isRope w b rs) (hz : C1 rs ≤ 100000000) :
    Calls Tryz.prog 16 #[.pointer (some ⟨b, 0, none⟩), .int .i64 u, .int .i64 at_] w fun e w' => e = .returned (.tuple #[cntV (axN u at_ rs), errV (axE u at_ rs)]) ∧ Below w.heap.size w w' := by
  unfold axN axE
  by_cases hu : (u = 1 ∨ u = 2 ∨ u = 3)
  · rw [if_neg (not_not_intro hu), if_neg (not_not_intro hu)]
    have c := ahead_all b rs u at_ hu w hT h hz
    unfold aheadE at c
    by_cases hl : at_ < 0 ∨ by_ u rs < at_
    · rw [if_pos hl] at c ⊢
      rw [if_pos hl]
      exact c
    · rw [if_neg hl] at c ⊢
      rw [if_neg hl]
      by_cases hf : by_ u (find (reachesBy u at_) [] rs) = at_
      · have hf2 : by_ u (upTo rs u at_) = at_ := hf
        rw [if_pos hf] at c
        rw [if_pos hf2, if_pos hf2]
        exact c
      · have hf2 : ¬ by_ u (upTo rs u at_) = at_ := hf
        rw [if_neg hf] at c
        rw [if_neg hf2, if_neg hf2]
        exact c
  · rw [if_pos hu, if_pos hu]
    exact ahead_bad b u at_ hu w
end Go.Proofs.YtldhbjmillfjgaaGreatDoor

namespace Go.Proofs.YtldhbjmillfjgaaGreatDoor
open Go.RowKit
set_option linter.unusedVariables false
attribute [local go_sem] Oper.semAt_some

theorem le_of_sq {a b : Nat} (h : b * b ≤ a * a) : b ≤ a := by
  by_cases hab : b ≤ a
  · exact hab
  · have h1 : a + 1 ≤ b := by omega
    have h2 : (a + 1) * (a + 1) ≤ b * b := Nat.mul_le_mul h1 h1
    have h3 : (a + 1) * (a + 1) = a * a + 2 * a + 1 := by rw [Nat.add_mul, Nat.mul_add]; omega
    omega
theorem pow_step (x y h : Nat) (hx : 2 ^ (h + 1) ≤ x * x) (hy : 2 ^ h ≤ y * y) : 2 ^ (h + 2) ≤ (x + y) * (x + y) := by
  have e1 : 2 ^ (h + 1) = 2 * 2 ^ h := by rw [Nat.pow_succ]; omega
  have e2 : 2 ^ (h + 2) = 4 * 2 ^ h := by rw [Nat.pow_succ, Nat.pow_succ]; omega
  have e3 : (x + y) * (x + y) = x * x + 2 * (x * y) + y * y := by
    rw [Nat.add_mul, Nat.mul_add, Nat.mul_add, Nat.mul_comm y x]; omega
  have hxy : 2 ^ h ≤ x * y := by
    apply le_of_sq
    have : 2 ^ h * 2 ^ h ≤ (x * x) * (y * y) := Nat.mul_le_mul (by omega) hy
    have e4 : (x * x) * (y * y) = (x * y) * (x * y) := by
      rw [Nat.mul_mul_mul_comm]
    omega
  omega
theorem high_sq : ∀ (t : T), t.bal → 2 ^ t.height ≤ (t.size + 1) * (t.size + 1)
  | .nil, _ => by simp [T.height, T.size]
  | .node l c r, h => by
    obtain ⟨hl, hr, h1, h2⟩ := h
    have il := high_sq l hl
    have ir := high_sq r hr
    simp only [T.height, T.size]
    have es : 1 + l.size + r.size + 1 = (l.size + 1) + (r.size + 1) := by omega
    rw [es]
    generalize l.size + 1 = x at *
    generalize r.size + 1 = y at *
    have mono : ∀ {a b : Nat}, a ≤ b → 2 ^ a ≤ 2 ^ b := fun h => Nat.pow_le_pow_right (by decide) h
    rcases Nat.lt_trichotomy l.height r.height with g | g | g
    · have e : 1 + max l.height r.height = l.height + 2 := by omega
      have e2 : r.height = l.height + 1 := by omega
      rw [e, Nat.add_comm x y]
      rw [e2] at ir
      exact pow_step y x _ ir il
    · have e : 1 + max l.height r.height = r.height + 1 := by omega
      rw [e]
      rw [g] at il
      have e1 : 2 ^ (r.height + 1) = 2 ^ r.height + 2 ^ r.height := by rw [Nat.pow_succ]; omega
      have e3 : (x + y) * (x + y) = x * x + 2 * (x * y) + y * y := by
        rw [Nat.add_mul, Nat.mul_add, Nat.mul_add, Nat.mul_comm y x]; omega
      omega
    · have e : 1 + max l.height r.height = r.height + 2 := by omega
      have e2 : l.height = r.height + 1 := by omega
      rw [e]
      rw [e2] at il
      exact pow_step x y _ il ir
theorem high_le : ∀ (t : T), t.height ≤ t.size ∧ (t.size = 0 → t.height = 0) ∧ (1 ≤ t.size → 1 ≤ t.height)
  | .nil => by simp [T.height, T.size]
  | .node l c r => by
    have il := (high_le l).1
    have ir := (high_le r).1
    simp only [T.height, T.size]
    omega

set_option maxRecDepth 100000 in
set_option maxHeartbeats 2000000 in
theorem low_any (h m : Nat) (hm : m < 100000000) (h0 : m = 0 → h = 0) (h1 : 1 ≤ m → 1 ≤ h ∧ h ≤ m) (h2 : 2 ^ h ≤ (m + 1) * (m + 1)) (w : World) :
    Calls Tryz.prog 12 #[.int .i64 (h : Int), .int .i64 (m : Int)] w fun e w' => e = .returned (.bool true) ∧ Below w.heap.size w w' := by
  have H0 : Hid (m = 0 → h = 0) := h0
  have H1 : Hid (1 ≤ m → 1 ≤ h ∧ h ≤ m) := h1
  have H2 : Hid (2 ^ h ≤ (m + 1) * (m + 1)) := h2
  have hhm : h ≤ m := by by_cases g : m = 0 <;> omega
  clear h0 h1 h2
  have HB0 : Hid (Below w.heap.size w w) := Below.refl _ w
  go_enter Tryz.func12, Tryz.ntmps12
  go_wp2
  go_loopw [5, 6] (fun bv kv wr => ∃ j k : Nat, bv = .int .i64 (j : Int) ∧ kv = .int .i64 (k : Int) ∧ (m + 1) / 2 ^ j = k ∧ j ≤ 40 ∧ j + k ≤ m + 1 ∧ Below w.heap.size w wr) (fun _ kv _ => (intOf kv).toNat)
  case atStart => exact ⟨0, m + 1, rfl, by first | rfl | simp, by simp, by omega, by omega, HB0.out⟩
  case round =>
    obtain ⟨j, k, rfl, rfl, hk, hj, hjk, hb⟩ := hrel
    have HB : Hid (Below w.heap.size w wr) := hb
    have HK : Hid ((m + 1) / 2 ^ j = k) := hk
    by_cases hk0 : 0 < k
    · have hj2 : j < 40 := by
        by_cases g : j < 40
        · exact g
        · have : j = 40 := by omega
          subst this
          have : (m + 1) / 2 ^ 40 = 0 := Nat.div_eq_of_lt (by omega)
          omega
      have hki : (0 : Int) < (k : Int) := by omega
      have hq : (k : Int).tdiv 2 = ((k / 2 : Nat) : Int) := by rw [Int.tdiv_eq_ediv_of_nonneg (by omega)]; omega
      have HN : Hid ((m + 1) / 2 ^ (j + 1) = k / 2) := by
        show _ = _
        rw [Nat.pow_succ, ← Nat.div_div_eq_div_mul, hk]
      clear hk hb
      go_wp2
      go_roundw
      case rel => exact ⟨j + 1, k / 2, by go_num, rfl, HN.out, by omega, by omega, HB.out⟩
      case measure => simp [intOf]; omega
    · have hki : ¬ (0 : Int) < (k : Int) := by omega
      have hlt : m + 1 < 2 ^ j := by
        have : k = 0 := by omega
        rw [this] at hk
        rcases Nat.lt_or_ge (m + 1) (2 ^ j) with g | g
        · exact g
        · have := Nat.div_pos g (Nat.pow_pos (by decide : 0 < 2))
          omega
      have hhj : h ≤ 2 * j := by
        have e : 2 ^ (2 * j) = 2 ^ j * 2 ^ j := by rw [Nat.two_mul, Nat.pow_add]
        have h3 : (m + 1) * (m + 1) ≤ 2 ^ j * 2 ^ j := Nat.mul_le_mul (by omega) (by omega)
        have h4 : 2 ^ h ≤ 2 ^ (2 * j) := by rw [e]; exact Nat.le_trans H2.out h3
        exact (Nat.pow_le_pow_iff_right (by decide)).1 h4
      by_cases hm0 : m = 0
      · have hh0 := H0.out hm0
        subst hm0 hh0
        clear hk hlt hhj
        go_wp2
        go_ret
        exact ⟨rfl, HB.out⟩
      · obtain ⟨g1, g2⟩ := H1.out (by omega)
        have q0 : ((m : Int) == 0) = false := beq_eq_false_iff_ne.2 (by omega)
        have q1 : (1 : Int) ≤ (h : Int) := by omega
        have q2 : (h : Int) ≤ 2 * (j : Int) := by omega
        have q3 : (h : Int) ≤ (m : Int) := by omega
        clear hk hlt
        go_wp2
        go_ret
        exact ⟨rfl, HB.out⟩
end Go.Proofs.YtldhbjmillfjgaaGreatDoor

namespace Go.Proofs.YtldhbjmillfjgaaGreatDoor
open Go.RowKit
set_option linter.unusedVariables false
attribute [local go_sem] Oper.semAt_some

set_option maxRecDepth 100000 in
set_option maxHeartbeats 4000000 in
theorem refLine_rng (s : ByteArray) (rs : List Nat) (line : Int) (hr : ∀ r ∈ rs, isRune r) (he : encs rs = s.data.toList) (hs : s.size < 1000000) (hl : line < 0 ∨ C4 rs < line) (w : World) :
    Calls Tryz.prog 17 #[.string s, .int .i64 line] w fun e w' => e = .returned (.tuple #[cntV [], .int .i64 2]) ∧ Below w.heap.size w w' := by
  have hra : inB line 0 (C4 rs) = false := decide_eq_false (by omega)
  have cI : Hid (∀ wx, Calls Tryz.prog 32 #[.int .i64 line, .int .i64 0, .int .i64 (C4 rs)] wx fun e w' => e = .returned (.bool false) ∧ w' = wx) := fun wx => by
    have := in_any line 0 (C4 rs) wx
    rw [hra] at this
    exact this
  have cC : Hid (∀ wx, Calls Tryz.prog 6 #[.string s] wx fun e w' => e = .returned (.tuple #[cntV rs, .agg #[.int .i64 0, .int .i64 (-1)]]) ∧ Below wx.heap.size wx w') := fun wx => refCount_of s rs hr he (by omega) wx
  have hb0 : Below w.heap.size w (w.alloc (.cells #[.int .i64 0, .int .i64 0, .int .i64 0, .int .i64 0] 29)) := (Below.refl _ w).alloc (Nat.le_refl _) _
  have HB0 : Hid _ := hb0
  have HK0 : Hid (counted (w.alloc (.cells #[.int .i64 0, .int .i64 0, .int .i64 0, .int .i64 0] 29)) w.heap.size 0 0 0 0) := counted_new w 0 0 0 0 29
  have hC : cntV [] = .agg #[.int .i64 0, .int .i64 0, .int .i64 0, .int .i64 0] := rfl
  rw [hC]
  unfold cntV at cC
  clear hC hr he hs hl hra hb0
  go_enter Tryz.func17, Tryz.ntmps17
  go_wp2_with (first
    | (go_at_call 6; refine (cC.out _).mono ?_; rintro e w1 ⟨rfl, hb1⟩; have HB1 : Hid (Below w.heap.size w w1) := HB0.out.trans (hb1.mono HB0.out.size); have HK1 : Hid (counted w1 w.heap.size 0 0 0 0) := counted_below HK0.out hb1; have hbx := (Below.refl w1.heap.size w1).alloc (Nat.le_refl _) (.cells #[.int .i64 (C1 rs), .int .i64 (C2 rs), .int .i64 (C3 rs), .int .i64 (C4 rs)] 29); have hby := hbx.alloc hbx.size (.cells #[.int .i64 0, .int .i64 (-1)] 32); have HBY : Hid (Below w.heap.size w ((w1.alloc (.cells #[.int .i64 (C1 rs), .int .i64 (C2 rs), .int .i64 (C3 rs), .int .i64 (C4 rs)] 29)).alloc (.cells #[.int .i64 0, .int .i64 (-1)] 32))) := HB1.out.trans (hby.mono HB1.out.size); have HKY : Hid (counted ((w1.alloc (.cells #[.int .i64 (C1 rs), .int .i64 (C2 rs), .int .i64 (C3 rs), .int .i64 (C4 rs)] 29)).alloc (.cells #[.int .i64 0, .int .i64 (-1)] 32)) w.heap.size 0 0 0 0) := counted_below HK1.out hby; clear hb1 hbx hby; obtain ⟨W2, hW2⟩ : ∃ W2, ((w1.alloc (.cells #[.int .i64 (C1 rs), .int .i64 (C2 rs), .int .i64 (C3 rs), .int .i64 (C4 rs)] 29)).alloc (.cells #[.int .i64 0, .int .i64 (-1)] 32)) = W2 := ⟨_, rfl⟩; have HW2 : Hid _ := hW2; clear hW2)
    | (go_at_call 32; rw [HW2.out] at HBY HKY; (try rw [HW2.out]); refine (cI.out _).mono ?_; rintro e w3 ⟨rfl, hw3⟩; obtain rfl := hw3.symm; obtain ⟨⟨z0, z1, z2, z3⟩, y0, y1, y2, y3⟩ := HKY.out)
    | fail)
  have hset := counted_set (m1 := 0) (m2 := 0) (m3 := 0) (m4 := 0) HKY.out
  obtain ⟨⟨s0, s1, s2, s3⟩, _⟩ := hset
  refine bodyPost_ret (v := .tuple #[.agg #[.int .i64 0, .int .i64 0, .int .i64 0, .int .i64 0], .int .i64 2]) (by simp [results, Tryz.results17, go_sem, s0, s1, s2, s3]) rfl ⟨rfl, below_set4 HBY.out (Nat.le_refl _) _ _ _ _⟩
end Go.Proofs.YtldhbjmillfjgaaGreatDoor

namespace Go.Proofs.YtldhbjmillfjgaaGreatDoor
open Go.RowKit
set_option linter.unusedVariables false
attribute [local go_sem] Oper.semAt_some yieldsUpon okUpon field0 field3

set_option maxRecDepth 100000 in
set_option maxHeartbeats 4000000 in
theorem refSpot_told (s : ByteArray) (u at_ E : Int) (hE : E ≠ 0) (w : World)
    (cA : Hid (∀ wx, Below w.heap.size w wx → Calls Tryz.prog 15 #[.string s, .int .i64 u, .int .i64 at_] wx fun e w' => e = .returned (.tuple #[cntV [], .int .i64 E]) ∧ Below wx.heap.size wx w')) :
    Calls Tryz.prog 22 #[.string s, .int .i64 u, .int .i64 at_] w fun e w' => e = .returned (.tuple #[.agg #[.int .i64 0, .int .i64 0], .int .i64 E]) ∧ Below w.heap.size w w' := by
  have hC : cntV [] = .agg #[.int .i64 0, .int .i64 0, .int .i64 0, .int .i64 0] := rfl
  rw [hC] at cA
  have hE2 : (E == 0) = false := beq_eq_false_iff_ne.2 hE
  clear hC
  have HB0 : Hid (Below w.heap.size w (w.alloc (.cells #[.int .i64 0, .int .i64 0] 54))) := (Below.refl _ w).alloc (Nat.le_refl _) _
  have HS0 : Hid (spotW (w.alloc (.cells #[.int .i64 0, .int .i64 0] 54)) w.heap.size 0 0) := spotW_new w 0 0 _
  go_enter Tryz.func22, Tryz.ntmps22
  go_wp2_with (first
    | (go_at_call 15; refine (cA.out _ HB0.out).mono ?_; rintro e w2 ⟨rfl, hb2⟩; have HB2 : Hid (Below w.heap.size w w2) := HB0.out.trans (hb2.mono HB0.out.size); have HS2 : Hid (spotW w2 w.heap.size 0 0) := spotW_below HS0.out hb2; have hlt : w.heap.size < w2.heap.size := World.block_lt_of_cell? w2 _ HS2.out.1.1; have hne : w.heap.size ≠ w2.heap.size := Nat.ne_of_lt hlt; clear hb2; obtain ⟨⟨k0, k1⟩, k2, k3⟩ := HS2.out)
    | fail)
  have hset := spotW_below (spotW_set (m := 0) (n := 0) HS2.out) ((Below.refl _ _).alloc (Nat.le_refl _) (.cells #[.int .i64 0, .int .i64 0, .int .i64 0, .int .i64 0] 29))
  have hB := below_set2 HB2.out (Nat.le_refl _) (.int .i64 0) (.int .i64 0)
  obtain ⟨⟨s0, s1⟩, _⟩ := hset
  refine bodyPost_ret (v := .tuple #[.agg #[.int .i64 0, .int .i64 0], .int .i64 E]) (by simp [results, Tryz.results22, go_sem, s0, s1]) rfl ⟨rfl, hB.alloc hB.size _⟩

set_option maxRecDepth 100000 in
set_option maxHeartbeats 4000000 in
theorem refSpot_good (s : ByteArray) (X Z : List Nat) (nX nY : Nat) (u at_ : Int) (hX : C1 X = nX) (hs : s.size < 1000000) (hx : nX ≤ s.size) (hy : nY ≤ nX) (w : World)
    (cA : Hid (∀ wx, Below w.heap.size w wx → Calls Tryz.prog 15 #[.string s, .int .i64 u, .int .i64 at_] wx fun e w' => e = .returned (.tuple #[cntV X, .int .i64 0]) ∧ Below wx.heap.size wx w'))
    (cL : Hid (∀ wx, Calls Tryz.prog 52 #[.string (s.extract 0 nX), .int .u8 10] wx fun e w' => e = .returned (.int .i64 ((nY : Int) - 1)) ∧ w' = wx))
    (cC : Hid (∀ wx, Calls Tryz.prog 6 #[.string (s.extract nY nX)] wx fun e w' => e = .returned (.tuple #[cntV Z, .agg #[.int .i64 0, .int .i64 (-1)]]) ∧ Below wx.heap.size wx w'))
    (cN : Hid (∀ wx, Calls Tryz.prog 20 #[cntV Z, .int .i64 u] wx fun e w' => e = .returned (.int .i64 (by_ u Z)) ∧ Below wx.heap.size wx w')) :
    Calls Tryz.prog 22 #[.string s, .int .i64 u, .int .i64 at_] w fun e w' => e = .returned (.tuple #[.agg #[.int .i64 (C4 X), .int .i64 (by_ u Z)], .int .i64 0]) ∧ Below w.heap.size w w' := by
  have HB0 : Hid (Below w.heap.size w (w.alloc (.cells #[.int .i64 0, .int .i64 0] 54))) := (Below.refl _ w).alloc (Nat.le_refl _) _
  have HS0 : Hid (spotW (w.alloc (.cells #[.int .i64 0, .int .i64 0] 54)) w.heap.size 0 0) := spotW_new w 0 0 _
  unfold cntV at cA cC cN
  rw [hX] at cA
  clear hX
  generalize by_ u Z = nz at *
  have y0 : (nY : Int) - 1 + 1 = nY := by omega
  go_enter Tryz.func22, Tryz.ntmps22
  go_wp2_with (first
    | (go_at_call 15; refine (cA.out _ HB0.out).mono ?_; rintro e w2 ⟨rfl, hb2⟩; have HB2 : Hid (Below w.heap.size w w2) := HB0.out.trans (hb2.mono HB0.out.size); have HS2 : Hid (spotW w2 w.heap.size 0 0) := spotW_below HS0.out hb2; have hlt : w.heap.size < w2.heap.size := World.block_lt_of_cell? w2 _ HS2.out.1.1; have hne : w.heap.size ≠ w2.heap.size := Nat.ne_of_lt hlt; clear hb2; have HB3 : Hid (Below w.heap.size w (w2.alloc (.cells #[.int .i64 nX, .int .i64 (C2 X), .int .i64 (C3 X), .int .i64 (C4 X)] 29))) := HB2.out.alloc HB2.out.size _; have HS3 : Hid (spotW (w2.alloc (.cells #[.int .i64 nX, .int .i64 (C2 X), .int .i64 (C3 X), .int .i64 (C4 X)] 29)) w.heap.size 0 0) := spotW_below HS2.out ((Below.refl _ _).alloc (Nat.le_refl _) _))
    | (go_at_call 52; refine (cL.out _).mono ?_; rintro e w3 ⟨rfl, hw3⟩; obtain rfl := hw3.symm)
    | (go_at_call 6; refine (cC.out _).mono ?_; rintro e w4 ⟨rfl, hb4⟩; have HB4 : Hid (Below w.heap.size w w4) := HB3.out.trans (hb4.mono HB3.out.size); have HS4 : Hid (spotW w4 w.heap.size 0 0) := spotW_below HS3.out hb4; have HX4 : Hid (counted w4 w2.heap.size nX (C2 X) (C3 X) (C4 X)) := counted_below (counted_new w2 _ _ _ _ _) hb4; clear hb4)
    | fail)
  have hg5 : Below w4.heap.size w4 ((w4.alloc (.cells #[.int .i64 (C1 Z), .int .i64 (C2 Z), .int .i64 (C3 Z), .int .i64 (C4 Z)] 29)).alloc (.cells #[.int .i64 0, .int .i64 (-1)] 32)) := ((Below.refl w4.heap.size w4).alloc (Nat.le_refl _) _).alloc (by simp) _
  have hb5 := HB4.out.trans (hg5.mono HB4.out.size)
  have hs5 := spotW_below HS4.out hg5
  have hx5 := counted_below HX4.out hg5
  have hz5 := counted_below (counted_new w4 (C1 Z) (C2 Z) (C3 Z) (C4 Z) 29) ((Below.refl _ _).alloc (Nat.le_refl _) (.cells #[.int .i64 0, .int .i64 (-1)] 32))
  generalize ((w4.alloc (.cells #[.int .i64 (C1 Z), .int .i64 (C2 Z), .int .i64 (C3 Z), .int .i64 (C4 Z)] 29)).alloc (.cells #[.int .i64 0, .int .i64 (-1)] 32)) = WW at *
  generalize w4.heap.size = BZ at *
  generalize w2.heap.size = BX at *
  clear hg5 HB4 HS4 HX4 HB3 HS3 HB2 HS2 HB0 HS0 hlt hne cA cL cC
  refine wp_region_rel 6 8 (by kernel_rfl) rfl ?_
  intro w6 hb6
  obtain ⟨G, hG⟩ := exists_growth w6
  have hx6 := counted_below hx5 hb6
  have hz6 := counted_below hz5 hb6
  obtain ⟨⟨x0, x1, x2, x3⟩, _⟩ := hx6
  obtain ⟨⟨z0, z1, z2, z3⟩, _⟩ := hz6
  have gx3 := hG.cell x3
  have gz0 := hG.cell z0
  have gz1 := hG.cell z1
  have gz2 := hG.cell z2
  have gz3 := hG.cell z3
  have cZ := fun x => cN.out (G x)
  clear x0 x1 x2 x3 z0 z1 z2 z3 cN
  (refine anyG_step hG (i := 0) rfl (by kernel_rfl) (by kernel_rfl) (by kernel_rfl) (fun K hK => ?_); go_simp; refine hK _ ?_; clear hK K)
  (refine anyG_step hG (i := 1) rfl (by kernel_rfl) (by kernel_rfl) (by kernel_rfl) (fun K hK => ?_); go_simp; refine hK _ ?_; clear hK K)
  (refine anyG_step hG (i := 2) rfl (by kernel_rfl) (by kernel_rfl) (by kernel_rfl) (fun K hK => ?_); go_simp; refine hK _ ?_; clear hK K)
  (refine anyG_step hG (i := 3) rfl (by kernel_rfl) (by kernel_rfl) (by kernel_rfl) (fun K hK => ?_); go_simp; refine hK _ ?_; clear hK K)
  (refine anyG_step hG (i := 4) rfl (by kernel_rfl) (by kernel_rfl) (by kernel_rfl) (fun K hK => ?_); go_simp; apply Exists.intro; refine ⟨fun _ => ?_, hK _ ?_⟩; exact cZ _; clear hK K)
  (refine anyG_step hG (i := 5) rfl (by kernel_rfl) (by kernel_rfl) (by kernel_rfl) (fun K hK => ?_); go_simp; refine hK _ ?_; clear hK K)
  clear gx3 gz0 gz1 gz2 gz3 cZ hG
  refine anyG_late (i := 6) rfl (by kernel_rfl) (by kernel_rfl) ?_
  intro w7 hb7 K hK
  have hb67 := hb6.trans (hb7.mono hb6.size)
  have hs7 := spotW_below hs5 hb67
  have HS7 : Hid _ := hs7
  have HB7 : Hid (Below w.heap.size w w7) := hb5.trans (hb67.mono hb5.size)
  obtain ⟨⟨k0, k1⟩, k2, k3⟩ := hs7
  clear hb6 hb7 hb67 hs5 hx5 hz5 hb5
  go_simp
  refine hK _ _ ?_
  clear hK K
  refine anyG_late (i := 7) rfl (by kernel_rfl) (by kernel_rfl) ?_
  intro w8 hb8 K hK
  go_simp
  refine hK _ _ ?_
  clear hK K
  refine anyG_end (by kernel_rfl) ?_
  intro w9 hb9
  have hb79 := hb8.trans (hb9.mono hb8.size)
  have hset := spotW_below (spotW_set (m := C4 X) (n := nz) HS7.out) hb79
  have hB7 := below_set2 HB7.out (Nat.le_refl _) (.int .i64 (C4 X)) (.int .i64 nz)
  have hB9 := hB7.trans (hb79.mono hB7.size)
  clear hb8 hb9 hb79 hB7 k0 k1 k2 k3
  go_wp2
  obtain ⟨⟨s0, s1⟩, _⟩ := hset
  refine bodyPost_ret (v := .tuple #[.agg #[.int .i64 (C4 X), .int .i64 nz], .int .i64 0]) (by simp [results, Tryz.results22, go_sem, s0, s1]) rfl ⟨rfl, hB9⟩
end Go.Proofs.YtldhbjmillfjgaaGreatDoor

namespace Go.Proofs.YtldhbjmillfjgaaGreatDoor
set_option linter.unusedVariables false

theorem noLF_enc {r : Nat} (hr : isRune r) (h : r ≠ 10) : (10 : UInt8) ∉ enc r := by
  have := enc_count hr
  unfold cL at this
  rw [if_neg h] at this
  exact List.count_eq_zero.1 (by omega)
theorem noLF_bytes : ∀ {Z : List Nat}, (∀ r ∈ Z, isRune r) → noLF Z → (10 : UInt8) ∉ encs Z
  | [], _, _ => by simp [encs]
  | r :: Z, hr, h => by
    rw [encs_cons, List.mem_append, not_or]
    exact ⟨noLF_enc (hr r (List.mem_cons_self ..)) (h r (List.mem_cons_self ..)), noLF_bytes (fun x hx => hr x (List.mem_cons_of_mem _ hx)) fun x hx => h x (List.mem_cons_of_mem _ hx)⟩
theorem index_none : ∀ {l : List UInt8}, (10 : UInt8) ∉ l → Lib.indexByte l 10 = -1
  | [], _ => rfl
  | b :: l, h => by
    have hb : (b == (10 : UInt8)) = false := beq_eq_false_iff_ne.2 fun e => h (e ▸ List.mem_cons_self ..)
    unfold Lib.indexByte
    rw [hb, index_none fun hx => h (List.mem_cons_of_mem _ hx)]
    rfl
theorem index_at : ∀ {a : List UInt8} (rest : List UInt8), (10 : UInt8) ∉ a → Lib.indexByte (a ++ 10 :: rest) 10 = a.length
  | [], rest, _ => by simp [Lib.indexByte]
  | b :: a, rest, h => by
    have hb : (b == (10 : UInt8)) = false := beq_eq_false_iff_ne.2 fun e => h (e ▸ List.mem_cons_self ..)
    rw [List.cons_append]
    unfold Lib.indexByte
    rw [hb, index_at rest fun hx => h (List.mem_cons_of_mem _ hx)]
    have hn : (((a.length : Nat) : Int) == -1) = false := beq_eq_false_iff_ne.2 (by omega)
    rw [hn]
    simp
theorem enc_lf : enc 10 = [10] := by rw [enc1 (by decide)]; rfl
theorem byte_atL (s : ByteArray) (j : Nat) (h : j < s.data.toList.length) : s.data[j]! = s.data.toList[j] := by
  rw [getElem!_pos s.data j (by simpa using h)]
  simp
theorem last_lf (s : ByteArray) (Y Z : List Nat) (hr : ∀ r ∈ Z, isRune r) (he : s.data.toList = encs Y ++ encs Z) (hz : noLF Z) (hy : endsLF Y) : Lib.lastIndexByte s 10 = ((encs Y).length : Int) - 1 := by
  have hzb := noLF_bytes hr hz
  have hsz : s.size = s.data.toList.length := by simp
  have hlen : s.data.toList.length = (encs Y).length + (encs Z).length := by rw [he, List.length_append]
  have hZ : ∀ j, (encs Y).length ≤ j → j < s.size → ((s.data[j]!).toNat : Int) ≠ 10 := fun j h1 h2 e => by
    rw [byte_atL s j (by omega)] at e
    have e2 : s.data.toList[j]'(by omega) = (10 : UInt8) := UInt8.toNat_inj.1 (by have e4 := Int.ofNat.inj e; exact e4)
    apply hzb
    have e3 : s.data.toList[j]'(by omega) = (encs Z)[j - (encs Y).length]'(by omega) := by
      simp only [he]
      rw [List.getElem_append_right h1]
    rw [e3] at e2
    exact e2 ▸ List.getElem_mem _
  rcases hy with rfl | ⟨Y', rfl⟩
  · rcases Lib.lastIndexByte_spec s 10 with ⟨e, _⟩ | ⟨i, hi, _, hc, _⟩
    · rw [e]; rfl
    · exact absurd hc (hZ i (Nat.zero_le _) hi)
  · have e0 : encs (Y' ++ [10]) = encs Y' ++ [10] := by rw [encs_append]; congr 1
    have el : (encs (Y' ++ [10])).length = (encs Y').length + 1 := by rw [e0]; simp
    have hp : ((s.data[(encs Y').length]!).toNat : Int) = 10 := by
      rw [byte_atL s _ (by omega)]
      have : s.data.toList[(encs Y').length]'(by omega) = (10 : UInt8) := by
        simp only [he, e0]
        rw [List.getElem_append_left (by simp), List.getElem_append_right (Nat.le_refl _)]
        simp
      rw [this]; rfl
    rcases Lib.lastIndexByte_spec s 10 with ⟨_, hn⟩ | ⟨i, hi, e, hc, hn⟩
    · exact absurd hp (hn _ (by omega))
    · have h1 : ¬ (encs (Y' ++ [10])).length ≤ i := fun h => hZ i h hi hc
      have h2 : ¬ i < (encs Y').length := fun h => hn _ h (by omega) hp
      rw [e]; omega
end Go.Proofs.YtldhbjmillfjgaaGreatDoor
