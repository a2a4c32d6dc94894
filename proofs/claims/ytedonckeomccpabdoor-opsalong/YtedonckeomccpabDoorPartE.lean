/-
  ops.isOne, and what ops.Check says of any operation.
  Two operations side by side: the model of what Compose and Transform go through (pure).
  Gaps, from the left on (pure); the document's Transform over them.
  Side by side is gap by gap (pure), where puts stand alone in both.
  Transform: the program's pairs add up to the document's parts (pure).
  What a least form is made of (pure).
  rosettakeep's pick and fit: what comes is few parts that are not great.
  The library's contracts that these texts use, laid at this program by the shelf's own command, its plain mode.
  bridge.To by runes: what Check tells; else each part in bytes.
  The document's own Check: what it says of any operation.
  The document's Gather: its closure.
  The document's Gather: gaps in least form.
  rosettalaw.OpsCheck: the law's own walk.
  ops.checkBoth, isPut, length.
-/
import Derived.Test.YtedonckeomccpabDoorPartD
import Derived.Test.YtedonckeomccpabDoorPartA
import Derived.Shelf.Strings.Builder1
import Derived.Shelf.Small.Utf8
import Derived.Shelf.Strings.BuilderF
import Derived.Shelf.Strings.BuilderK
import Derived.Shelf.LaysM
import Derived.Shelf.Strconv.Clone
import Derived.Shelf.Unicode.Decode
import Derived.Shelf.Unicode.DecodeSlow
import Derived.Shelf.Unicode.DecodeAny
import Derived.Shelf.Strings.BuilderCap
import Derived.Test.YtedonckeomccpabDoorProg
import Derived.Laws.EntriesVeiled
namespace Go.Proofs.YtedonckeomccpabDoor
open Go.RowKit
set_option linter.unusedVariables false

def oneB (p : Pt) : Bool := if p.drop = 0 ∧ p.put = [] then decide (0 < p.keep) else if p.keep = 0 ∧ p.put = [] then decide (0 < p.drop) else decide (p.keep = 0 ∧ p.drop = 0)
def chk1 : List Pt → Int
  | [] => 0
  | p :: ps => if oneB p then (if (scan p.put).2 then chk1 ps else 3) else 1
def chk2 : List Pt → Int → Int
  | [], n => if n = 0 then 0 else 2
  | p :: ps, n => if n < p.keep + p.drop then 2 else chk2 ps (n - (p.keep + p.drop))
def chkE (ps : List Pt) (n : Int) : Int := if chk1 ps = 0 then chk2 ps n else chk1 ps

set_option maxHeartbeats 1000000 in
theorem isOne_any (p : Pt) (w : World) : Calls Tryd.prog 56 #[partV p] w fun e w' => e = .returned (.bool (oneB p)) ∧ Below w.heap.size w w' := by
  obtain ⟨k, d, q⟩ := p
  have cK := isKeep_any ⟨k, d, q⟩
  have cD := isDrop_any ⟨k, d, q⟩
  unfold oneB
  unfold partV at *
  simp only at cK cD ⊢
  by_cases hq : q = []
  · subst hq
    by_cases hd : d = 0
    · subst hd
      go_enter Tryd.func56, Tryd.ntmps56
      go_wp2_with (first | (go_at_call 22; refine (cK _).mono ?_; rintro e w1 ⟨rfl, hb1⟩) | fail)
      go_ret
      exact ⟨by simp, ((Below.refl _ _).alloc (Nat.le_refl _) _).trans (hb1.mono (by simp))⟩
    · have hdb : (d == 0) = false := beq_eq_false_iff_ne.2 hd
      by_cases hk : k = 0
      · subst hk
        go_enter Tryd.func56, Tryd.ntmps56
        go_wp2_with (first | (go_at_call 30; refine (cD _).mono ?_; rintro e w1 ⟨rfl, hb1⟩) | fail)
        go_ret
        exact ⟨by simp, ((Below.refl _ _).alloc (Nat.le_refl _) _).trans (hb1.mono (by simp))⟩
      · have hkb : (k == 0) = false := beq_eq_false_iff_ne.2 hk
        go_enter Tryd.func56, Tryd.ntmps56
        go_wp2
        go_ret
        exact ⟨by simp, (Below.refl _ _).alloc (Nat.le_refl _) _⟩
  · have ho : (if d = 0 ∧ q = [] then decide (0 < k) else if k = 0 ∧ q = [] then decide (0 < d) else decide (k = 0 ∧ d = 0)) = decide (k = 0 ∧ d = 0) := by simp [hq]
    rw [ho]
    clear ho
    have HD : Hid (decide (k = 0 ∧ d = 0) = (k == 0 && d == 0)) := by show _ = _; by_cases h1 : k = 0 <;> by_cases h2 : d = 0 <;> simp [h1, h2]
    rw [HD.out]
    by_cases hd : d = 0
    · subst hd
      by_cases hk : k = 0
      · subst hk
        go_enter Tryd.func56, Tryd.ntmps56
        go_wp2
        go_ret
        exact ⟨rfl, (Below.refl _ _).alloc (Nat.le_refl _) _⟩
      · have hkb : (k == 0) = false := beq_eq_false_iff_ne.2 hk
        go_enter Tryd.func56, Tryd.ntmps56
        go_wp2
        go_ret
        exact ⟨rfl, (Below.refl _ _).alloc (Nat.le_refl _) _⟩
    · have hdb : (d == 0) = false := beq_eq_false_iff_ne.2 hd
      by_cases hk : k = 0
      · subst hk
        go_enter Tryd.func56, Tryd.ntmps56
        go_wp2
        go_ret
        exact ⟨rfl, (Below.refl _ _).alloc (Nat.le_refl _) _⟩
      · have hkb : (k == 0) = false := beq_eq_false_iff_ne.2 hk
        go_enter Tryd.func56, Tryd.ntmps56
        go_wp2
        go_ret
        exact ⟨by rw [hkb]; rfl, (Below.refl _ _).alloc (Nat.le_refl _) _⟩

def wfP (p : Pt) : Prop := -9223372036854775808 ≤ p.keep ∧ p.keep < 9223372036854775808 ∧ -9223372036854775808 ≤ p.drop ∧ p.drop < 9223372036854775808 ∧ p.put.length < 1000000000000

theorem one_sound {p : Pt} (h : oneB p = true) : soundP p ∧ (p.keep = 0 ∨ p.drop = 0) := by
  unfold oneB at h
  unfold soundP
  split at h
  · rename_i h1
    have := of_decide_eq_true h
    exact ⟨⟨by omega, by omega⟩, .inr h1.1⟩
  · split at h
    · rename_i h1
      have := of_decide_eq_true h
      exact ⟨⟨by omega, by omega⟩, .inl h1.1⟩
    · have := of_decide_eq_true h
      exact ⟨⟨by omega, by omega⟩, .inl this.1⟩

theorem chk1_ones {ps : List Pt} (h : chk1 ps = 0) : ∀ p ∈ ps, oneB p = true ∧ (scan p.put).2 = true := by
  induction ps with
  | nil => simp
  | cons p ps ih =>
    unfold chk1 at h
    split at h
    · rename_i h1
      split at h
      · rename_i h2
        intro q hq
        rcases List.mem_cons.1 hq with rfl | hq
        · exact ⟨h1, h2⟩
        · exact ih h q hq
      · cases h
    · cases h

set_option maxRecDepth 100000 in
set_option maxHeartbeats 4000000 in
theorem Check_any (v : Value) (ps : List Pt) (N : Int) (w : World) (hT : Lib.Utf8Tabs 0 1 w) (hr : opAt w v ps) (hwf : ∀ p ∈ ps, wfP p) (hN : -9223372036854775808 ≤ N ∧ N < 9223372036854775808) (hl : ps.length < 10000000) :
    Calls Tryd.prog 38 #[v, .int .i64 N] w fun e w' => e = .returned (errV (chkE ps N)) ∧ Below w.heap.size w w' := by
  obtain ⟨p, c, rfl, r1, r2, r3⟩ := hr
  obtain ⟨n, hn⟩ : ∃ n, n = ps.length := ⟨_, rfl⟩
  rw [← hn] at r1 hl ⊢
  have HN : Hid (n = ps.length) := hn
  clear hn
  have R3 : Hid (ps ≠ [] → ∃ b o, p = some ⟨b, o, none⟩ ∧ b < w.heap.size ∧ ∀ i q, ps[i]? = some q →
    w.cell? ⟨b, o + i * 3, none⟩ = some (.int .i64 q.keep) ∧ w.cell? ⟨b, o + i * 3 + 1, none⟩ = some (.int .i64 q.drop) ∧ w.cell? ⟨b, o + i * 3 + 2, none⟩ = some (.string ⟨q.put.toArray⟩)) := r3
  have HWF : Hid (∀ p ∈ ps, wfP p) := hwf
  have HT : Hid (Lib.Utf8Tabs 0 1 w) := hT
  obtain ⟨hN0, hN1⟩ := hN
  clear r3 hwf hT
  go_enter Tryd.func38, Tryd.ntmps38
  go_wp2
  go_loopw [11] (fun i wr => ∃ (k : Nat), k ≤ n ∧ i = .int .i64 k ∧ chk1 ps = chk1 (ps.drop k) ∧ Below w.heap.size w wr) (fun i _ => n - (intOf i).toNat)
  case atStart => exact ⟨0, Nat.zero_le _, rfl, rfl, Below.refl _ _⟩
  case round =>
    obtain ⟨k, hk, rfl, hch, hwr⟩ := hrel
    by_cases hlt : k < n
    · have hkr : k < ps.length := by rw [← HN.out]; exact hlt
      have hne : ps ≠ [] := by intro e; rw [e] at hkr; exact absurd hkr (Nat.not_lt_zero _)
      obtain ⟨b, o, rfl, hbw, hcell⟩ := R3.out hne
      obtain ⟨c0, c1, c2⟩ := hcell k ps[k] (List.getElem?_eq_getElem hkr)
      have g0 := (hwr.cell (p := ⟨b, o + k * 3, none⟩) hbw).trans c0
      have g1 := (hwr.cell (p := ⟨b, o + k * 3 + 1, none⟩) hbw).trans c1
      have g2 := (hwr.cell (p := ⟨b, o + k * 3 + 2, none⟩) hbw).trans c2
      rw [List.drop_eq_getElem_cons hkr, chk1] at hch
      have hwq := HWF.out ps[k] (List.getElem_mem _)
      generalize ps[k] = q at *
      have hsize := hwr.size
      have HWR : Hid (Below w.heap.size w wr) := hwr
      have hb0 : Below wr.heap.size wr (wr.alloc (.cells #[.int .i64 q.keep, .int .i64 q.drop, .string ⟨q.put.toArray⟩] 40)) := (Below.refl _ _).alloc (Nat.le_refl _) _
      have HB0 : Hid (Below w.heap.size w (wr.alloc (.cells #[.int .i64 q.keep, .int .i64 q.drop, .string ⟨q.put.toArray⟩] 40))) := hwr.trans (hb0.mono hsize)
      have x2 : (wr.alloc (.cells #[.int .i64 q.keep, .int .i64 q.drop, .string ⟨q.put.toArray⟩] 40)).cell? ⟨wr.heap.size, 2, none⟩ = some (.string ⟨q.put.toArray⟩) := by simp [go_sem]
      have X2 : Hid _ := x2
      have cO := isOne_any q
      unfold partV at cO
      have cV : Hid (∀ wx, Below w.heap.size w wx → Calls Tryd.prog 57 #[.string ⟨q.put.toArray⟩] wx fun e w' => e = .returned (.bool (scan q.put).2) ∧ Below wx.heap.size wx w') := fun wx hb =>
        ValidString_any ⟨q.put.toArray⟩ wx (by have := hwq.2.2.2.2; simp [ByteArray.size]; omega) (Go.Proofs.Utf8Tabs_below HT.out hb)
      by_cases h1 : oneB q = true
      · rw [if_pos h1] at hch
        rw [h1] at cO
        by_cases h2 : (scan q.put).2 = true
        · rw [if_pos h2] at hch
          rw [h2] at cV
          have HCH : Hid (chk1 ps = chk1 (ps.drop (k + 1))) := hch
          clear hcell c0 c1 c2 hch hwq hwr hb0 x2 HWF h1 h2
          go_wp2_with (first | (go_at_call 56; refine (cO _).mono ?_; rintro e w1 ⟨rfl, hb1⟩; have HB1 : Hid (Below w.heap.size w w1) := HB0.out.trans (hb1.mono HB0.out.size); have hc2 := (hb1.cell (p := ⟨wr.heap.size, 2, none⟩) (by simp)).trans X2.out; clear hb1) | (go_at_call 57; refine (cV.out _ HB1.out).mono ?_; rintro e w2 ⟨rfl, hb2⟩; have HB2 : Hid (Below w.heap.size w w2) := HB1.out.trans (hb2.mono HB1.out.size); clear hb2) | fail)
          go_roundw
          case rel => exact ⟨k + 1, by omega, by go_num, HCH.out, HB2.out⟩
          case measure => simp [intOf]; omega
        · have h2 : (scan q.put).2 = false := Bool.eq_false_iff.2 h2
          rw [h2] at hch cV
          have HCH : Hid (chk1 ps = 3) := by show chk1 ps = 3; simpa using hch
          clear hcell c0 c1 c2 hch hwq hwr hb0 x2 HWF h1 h2
          go_wp2_with (first | (go_at_call 56; refine (cO _).mono ?_; rintro e w1 ⟨rfl, hb1⟩; have HB1 : Hid (Below w.heap.size w w1) := HB0.out.trans (hb1.mono HB0.out.size); have hc2 := (hb1.cell (p := ⟨wr.heap.size, 2, none⟩) (by simp)).trans X2.out; clear hb1) | (go_at_call 57; refine (cV.out _ HB1.out).mono ?_; rintro e w2 ⟨rfl, hb2⟩; have HB2 : Hid (Below w.heap.size w w2) := HB1.out.trans (hb2.mono HB1.out.size); clear hb2) | fail)
          go_ret
          refine ⟨?_, HB2.out⟩
          unfold chkE
          rw [HCH.out]
          rfl
      · have h1 : oneB q = false := Bool.eq_false_iff.2 h1
        rw [h1] at hch cO
        have HCH : Hid (chk1 ps = 1) := by show chk1 ps = 1; simpa using hch
        clear hcell c0 c1 c2 hch hwq hwr hb0 x2 HWF h1
        go_wp2_with (first | (go_at_call 56; refine (cO _).mono ?_; rintro e w1 ⟨rfl, hb1⟩; have HB1 : Hid (Below w.heap.size w w1) := HB0.out.trans (hb1.mono HB0.out.size); clear hb1) | fail)
        go_ret
        refine ⟨?_, HB1.out⟩
        unfold chkE
        rw [HCH.out]
        rfl
    · have e : ps.drop k = [] := List.drop_of_length_le (by rw [← HN.out]; omega)
      rw [e] at hch
      have H0 : Hid (chk1 ps = 0) := hch
      have HWR : Hid (Below w.heap.size w wr) := hwr
      have HON : Hid (∀ p ∈ ps, soundP p ∧ (p.keep = 0 ∨ p.drop = 0)) := fun p hp => one_sound (chk1_ones hch p hp).1
      clear e hch hwr
      go_wp2
      go_loopw [1, 27] (fun m i wr => ∃ (k : Nat) (M : Int), k ≤ n ∧ i = .int .i64 k ∧ m = .int .i64 M ∧ -9223372036854775808 ≤ M ∧ M < 9223372036854775808 ∧ chk2 ps N = chk2 (ps.drop k) M ∧ Below w.heap.size w wr) (fun _ i _ => n - (intOf i).toNat)
      case atStart => exact ⟨0, N, Nat.zero_le _, rfl, rfl, hN0, hN1, rfl, HWR.out⟩
      case round =>
        obtain ⟨k, M, hk, rfl, rfl, hM0, hM1, hch, hwr⟩ := hrel
        by_cases hlt : k < n
        · have hkr : k < ps.length := by rw [← HN.out]; exact hlt
          have hne : ps ≠ [] := by intro e; rw [e] at hkr; exact absurd hkr (Nat.not_lt_zero _)
          obtain ⟨b, o, rfl, hbw, hcell⟩ := R3.out hne
          obtain ⟨c0, c1, c2⟩ := hcell k ps[k] (List.getElem?_eq_getElem hkr)
          have g0 := (hwr.cell (p := ⟨b, o + k * 3, none⟩) hbw).trans c0
          have g1 := (hwr.cell (p := ⟨b, o + k * 3 + 1, none⟩) hbw).trans c1
          have g2 := (hwr.cell (p := ⟨b, o + k * 3 + 2, none⟩) hbw).trans c2
          rw [List.drop_eq_getElem_cons hkr, chk2] at hch
          have hwq := HWF.out ps[k] (List.getElem_mem _)
          have hon := HON.out ps[k] (List.getElem_mem _)
          generalize ps[k] = q at *
          obtain ⟨⟨s0, s1⟩, s2⟩ := hon
          have hsum0 : 0 ≤ q.keep + q.drop := by omega
          have hsum1 : q.keep + q.drop < 9223372036854775808 := by have := hwq.2.1; have := hwq.2.2.2.1; omega
          have hw1 : IntKind.i64.wrap (q.keep + q.drop) = q.keep + q.drop := by rw [IntKind.wrap_i64]; omega
          have HB0 : Hid (Below w.heap.size w (wr.alloc (.cells #[.int .i64 q.keep, .int .i64 q.drop, .string ⟨q.put.toArray⟩] 40))) := hwr.alloc hwr.size _
          by_cases h1 : M < q.keep + q.drop
          · rw [if_pos h1] at hch
            have HCH : Hid (chk2 ps N = 2) := hch
            clear hcell c0 c1 c2 hch hwq hwr HWF s2
            go_wp2
            go_ret
            refine ⟨?_, HB0.out⟩
            unfold chkE
            rw [if_pos H0.out, HCH.out]
            rfl
          · rw [if_neg h1] at hch
            have HCH : Hid (chk2 ps N = chk2 (ps.drop (k + 1)) (M - (q.keep + q.drop))) := hch
            have hw2 : IntKind.i64.wrap (M - (q.keep + q.drop)) = M - (q.keep + q.drop) := by rw [IntKind.wrap_i64]; omega
            clear hcell c0 c1 c2 hch hwq hwr HWF s2
            go_wp2
            go_roundw
            case rel => exact ⟨k + 1, M - (q.keep + q.drop), by omega, by go_num, by first | rfl | go_num, by omega, by omega, HCH.out, HB0.out⟩
            case measure => simp [intOf]; omega
        · have e : ps.drop k = [] := List.drop_of_length_le (by rw [← HN.out]; omega)
          rw [e, chk2] at hch
          have HX : Hid (Below w.heap.size w wr) := hwr
          by_cases h0 : M = 0
          · rw [if_pos h0] at hch
            subst h0
            have HCH : Hid (chk2 ps N = 0) := hch
            clear e hch hwr
            go_wp2
            go_ret
            refine ⟨?_, HX.out⟩
            unfold chkE
            rw [if_pos H0.out, HCH.out]
            rfl
          · rw [if_neg h0] at hch
            have hmb : (M == 0) = false := beq_eq_false_iff_ne.2 h0
            have HCH : Hid (chk2 ps N = 2) := hch
            clear e hch hwr
            go_wp2
            go_ret
            refine ⟨?_, HX.out⟩
            unfold chkE
            rw [if_pos H0.out, HCH.out]
            rfl
end Go.Proofs.YtedonckeomccpabDoor

namespace Go.Proofs.YtedonckeomccpabDoor
set_option linter.unusedVariables false

/-- Whatever the gaps: gathered, they are what their parts add up to. -/
theorem gather_runG (G : GSt) : gatherP G = tellP (runG G) := by
  unfold gatherP
  obtain ⟨h1, h2⟩ := steps_any G.1 kst0 inv0
  obtain ⟨f1, f2, f3, f4⟩ := step_flush _ h2 G.2 false
  rw [endK_nf, f1, h1]
  · rfl
  · intro hk
    by_cases hq : G.2 ≠ [] ∨ false = true
    · rw [f2 hq] at hk; omega
    · rw [f3 hq] at hk ⊢
      exact ⟨(h2.quiet hk).1, (h2.quiet hk).2.1⟩

def lengthP (p : Pt) : Int := p.keep + p.drop + p.put.length
def noP : Pt := ⟨0, 0, []⟩
/-- So much off a first part; what is left of it. -/
def cutP (p : Pt) (n : Int) : Pt × List Pt :=
  if lengthP p = n then (p, [])
  else if 0 < p.keep then (⟨n, 0, []⟩, [⟨p.keep - n, p.drop, p.put⟩])
  else if 0 < p.drop then (⟨0, n, []⟩, [⟨p.keep, p.drop - n, p.put⟩])
  else (⟨0, 0, p.put.take n.toNat⟩, [⟨p.keep, p.drop, p.put.drop n.toNat⟩])
/-- The pairs that are taken, from the left on. -/
def sideP (la lb : Pt → Bool) : Nat → List Pt → List Pt → List (Pt × Pt)
  | 0, _, _ => []
  | f + 1, p :: a, b => if la p then (p, noP) :: sideP la lb f a b else match b with
    | q :: b => if lb q then (noP, q) :: sideP la lb f (p :: a) b else
      ((cutP p (min (lengthP p) (lengthP q))).1, (cutP q (min (lengthP p) (lengthP q))).1) :: sideP la lb f ((cutP p (min (lengthP p) (lengthP q))).2 ++ a) ((cutP q (min (lengthP p) (lengthP q))).2 ++ b)
    | [] => []
  | f + 1, [], q :: b => if lb q then (noP, q) :: sideP la lb f [] b else []
  | f + 1, [], [] => []

def isDropP (p : Pt) : Bool := decide (0 < p.drop)
def isKeepP (p : Pt) : Bool := decide (0 < p.keep)
def isPutP (p : Pt) : Bool := decide (p.put ≠ [])
/-- What Compose adds of a pair. -/
def compP (x : Pt × Pt) : List Pt := if isDropP x.1 || isKeepP x.2 then [x.1] else if isPutP x.2 || isKeepP x.1 then [x.2] else []
/-- What Transform adds of a pair. -/
def turnP (x : Pt × Pt) : List Pt := if isPutP x.2 then [⟨x.2.put.length, 0, []⟩] else if isPutP x.1 || isKeepP x.2 then [x.1] else []

/-- A part that is one thing, and not nothing. -/
def oneP (p : Pt) : Prop := (0 < p.keep ∧ p.drop = 0 ∧ p.put = []) ∨ (p.keep = 0 ∧ 0 < p.drop ∧ p.put = []) ∨ (p.keep = 0 ∧ p.drop = 0 ∧ p.put ≠ [])
theorem length_pos {p : Pt} (h : oneP p) : 0 < lengthP p := by
  unfold lengthP
  rcases h with ⟨h1, h2, h3⟩ | ⟨h1, h2, h3⟩ | ⟨h1, h2, h3⟩
  · rw [h2, h3]; simp; omega
  · rw [h1, h3]; simp; omega
  · have := List.length_pos_iff.2 h3; omega
theorem cut_one {p : Pt} (h : oneP p) {n : Int} (h0 : 0 < n) (hn : n ≤ lengthP p) : oneP (cutP p n).1 ∧ lengthP (cutP p n).1 = n ∧ (∀ q ∈ (cutP p n).2, oneP q ∧ lengthP q = lengthP p - n) ∧ ((cutP p n).2 = [] ↔ lengthP p = n) := by
  unfold cutP
  by_cases e : lengthP p = n
  · rw [if_pos e]; exact ⟨h, e, by simp, by simp [e]⟩
  · rw [if_neg e]
    obtain ⟨K, D, U⟩ := p
    have e' : ¬ K + D + (U.length : Int) = n := e
    have hn' : n ≤ K + D + (U.length : Int) := hn
    clear e hn
    rcases h with ⟨h1, h2, h3⟩ | ⟨h1, h2, h3⟩ | ⟨h1, h2, h3⟩
    · replace h1 : 0 < K := h1
      obtain rfl : D = 0 := h2
      obtain rfl : U = [] := h3
      have hl : (([] : List UInt8).length : Int) = 0 := rfl
      rw [hl] at e' hn'
      rw [if_pos (show 0 < (⟨K, 0, []⟩ : Pt).keep from h1)]
      refine ⟨.inl ⟨h0, rfl, rfl⟩, by simp [lengthP], ?_, ⟨fun h => (by cases h), fun h => absurd h (by simp only [lengthP, List.length_nil]; omega)⟩⟩
      intro q hq
      obtain rfl := List.mem_singleton.1 hq
      exact ⟨.inl ⟨by show 0 < K - n; omega, rfl, rfl⟩, by simp only [lengthP, List.length_nil]; omega⟩
    · obtain rfl : K = 0 := h1
      replace h2 : 0 < D := h2
      obtain rfl : U = [] := h3
      have hl : (([] : List UInt8).length : Int) = 0 := rfl
      rw [hl] at e' hn'
      rw [if_neg (show ¬ 0 < (⟨0, D, []⟩ : Pt).keep from Int.lt_irrefl 0), if_pos (show 0 < (⟨0, D, []⟩ : Pt).drop from h2)]
      refine ⟨.inr (.inl ⟨rfl, h0, rfl⟩), by simp [lengthP], ?_, ⟨fun h => (by cases h), fun h => absurd h (by simp only [lengthP, List.length_nil]; omega)⟩⟩
      intro q hq
      obtain rfl := List.mem_singleton.1 hq
      exact ⟨.inr (.inl ⟨rfl, by show 0 < D - n; omega, rfl⟩), by simp only [lengthP, List.length_nil]; omega⟩
    · obtain rfl : K = 0 := h1
      obtain rfl : D = 0 := h2
      replace h3 : U ≠ [] := h3
      rw [if_neg (show ¬ 0 < (⟨0, 0, U⟩ : Pt).keep from Int.lt_irrefl 0), if_neg (show ¬ 0 < (⟨0, 0, U⟩ : Pt).drop from Int.lt_irrefl 0)]
      have hl : (U.take n.toNat).length = n.toNat := by rw [List.length_take]; omega
      have hd : (U.drop n.toNat).length = U.length - n.toNat := List.length_drop
      refine ⟨.inr (.inr ⟨rfl, rfl, ?_⟩), by simp only [lengthP, hl]; omega, ?_, ⟨fun h => (by cases h), fun h => absurd h (by simp only [lengthP]; omega)⟩⟩
      · intro e'
        have := congrArg List.length e'
        rw [hl, List.length_nil] at this
        omega
      · intro q hq
        obtain rfl := List.mem_singleton.1 hq
        refine ⟨.inr (.inr ⟨rfl, rfl, ?_⟩), by simp only [lengthP, hd]; omega⟩
        intro e'
        have := congrArg List.length e'
        rw [hd, List.length_nil] at this
        omega
end Go.Proofs.YtedonckeomccpabDoor

namespace Go.Proofs.YtedonckeomccpabDoor
set_option linter.unusedVariables false

theorem ticks_shift (d : Bool) : ∀ (n : Nat) (l : List (List UInt8 × Bool)) (g : GSt), ticks d n (l ++ g.1, g.2) = (l ++ (ticks d n g).1, (ticks d n g).2)
  | 0, l, g => rfl
  | n + 1, l, g => by
    rw [ticks, ticks]
    have e : tick d (l ++ g.1, g.2) = (l ++ (tick d g).1, (tick d g).2) := by simp [tick]
    rw [e]
    exact ticks_shift d n l (tick d g)
theorem spreadP_shift (l : List (List UInt8 × Bool)) (g : GSt) (p : Pt) : spreadP (l ++ g.1, g.2) p = (l ++ (spreadP g p).1, (spreadP g p).2) := by
  unfold spreadP
  rw [ticks_shift true p.drop.toNat l (g.1, g.2 ++ p.put), ticks_shift]
/-- The gaps of what is yet to come, with what was put ahead of it. -/
def gapsR : List UInt8 → List Pt → GSt
  | acc, [] => ([], acc)
  | acc, p :: ps => ((spreadP ([], acc) p).1 ++ (gapsR (spreadP ([], acc) p).2 ps).1, (gapsR (spreadP ([], acc) p).2 ps).2)
theorem spreads_gaps (ps : List Pt) : ∀ (l : List (List UInt8 × Bool)) (acc : List UInt8), ps.foldl spreadP (l, acc) = (l ++ (gapsR acc ps).1, (gapsR acc ps).2) := by
  induction ps with
  | nil => intro l acc; simp [gapsR]
  | cons p ps ih =>
    intro l acc
    have e := spreadP_shift l ([], acc) p
    rw [List.append_nil] at e
    rw [List.foldl_cons, e, ih]
    simp [gapsR]
theorem spreads_eq (ps : List Pt) : spreads ps = gapsR [] ps := by
  have := spreads_gaps ps [] []
  simpa [spreads] using this
theorem gaps_put (acc u : List UInt8) (ps : List Pt) : gapsR acc (⟨0, 0, u⟩ :: ps) = gapsR (acc ++ u) ps := by
  simp [gapsR, spreadP, ticks]
theorem ticks_one (d : Bool) : ∀ (n : Nat) (acc : List UInt8), ticks d (n + 1) ([], acc) = ((acc, d) :: List.replicate n ([], d), [])
  | 0, acc => by simp [ticks, tick]
  | n + 1, acc => by
    rw [ticks_more, ticks_one d n acc]
    simp [tick, List.replicate_succ']
theorem gaps_keep (acc : List UInt8) (n : Nat) (ps : List Pt) : gapsR acc (⟨(n : Int) + 1, 0, []⟩ :: ps) = ((acc, false) :: List.replicate n ([], false) ++ (gapsR [] ps).1, (gapsR [] ps).2) := by
  have h1 : ((n : Int) + 1).toNat = n + 1 := by omega
  have h2 := ticks_one false n acc
  rw [ticks] at h2
  simp only [gapsR, spreadP, h1, Int.toNat_zero, ticks, List.append_nil, h2]
theorem gaps_drop (acc : List UInt8) (n : Nat) (ps : List Pt) : gapsR acc (⟨0, (n : Int) + 1, []⟩ :: ps) = ((acc, true) :: List.replicate n ([], true) ++ (gapsR [] ps).1, (gapsR [] ps).2) := by
  have h1 : ((n : Int) + 1).toNat = n + 1 := by omega
  have h2 := ticks_one true n acc
  rw [ticks] at h2
  simp only [gapsR, spreadP, h1, Int.toNat_zero, ticks, List.append_nil, h2]

/-- What the document's Transform adds, gap by gap: b says that the other's put is counted first. -/
def docT (first : Bool) : List (List UInt8 × Bool) → List UInt8 → List (List UInt8 × Bool) → List UInt8 → List Pt
  | (u, d) :: x, xl, (v, e) :: y, yl => (if first then [⟨0, 0, u⟩, ⟨v.length, 0, []⟩] else [⟨v.length, 0, []⟩, ⟨0, 0, u⟩]) ++ (if e then [] else [unitP d]) ++ docT first x xl y yl
  | _, xl, _, yl => if first then [⟨0, 0, xl⟩, ⟨yl.length, 0, []⟩] else [⟨yl.length, 0, []⟩, ⟨0, 0, xl⟩]
end Go.Proofs.YtedonckeomccpabDoor

namespace Go.Proofs.YtedonckeomccpabDoor
set_option linter.unusedVariables false

def unitK (d : Bool) (k : Nat) : Pt := if d then ⟨0, k, []⟩ else ⟨k, 0, []⟩
theorem one_cases {p : Pt} (h : oneP p) : (∃ u, u ≠ [] ∧ p = ⟨0, 0, u⟩) ∨ ∃ d n, p = unitK d (n + 1) := by
  obtain ⟨K, D, U⟩ := p
  rcases h with ⟨h1, h2, h3⟩ | ⟨h1, h2, h3⟩ | ⟨h1, h2, h3⟩
  · obtain rfl : D = 0 := h2
    obtain rfl : U = [] := h3
    replace h1 : 0 < K := h1
    refine .inr ⟨false, K.toNat - 1, ?_⟩
    have : K = ((K.toNat - 1 + 1 : Nat) : Int) := by omega
    show (⟨K, 0, []⟩ : Pt) = ⟨((K.toNat - 1 + 1 : Nat) : Int), 0, []⟩
    rw [← this]
  · obtain rfl : K = 0 := h1
    obtain rfl : U = [] := h3
    replace h2 : 0 < D := h2
    refine .inr ⟨true, D.toNat - 1, ?_⟩
    have : D = ((D.toNat - 1 + 1 : Nat) : Int) := by omega
    show (⟨0, D, []⟩ : Pt) = ⟨0, ((D.toNat - 1 + 1 : Nat) : Int), []⟩
    rw [← this]
  · obtain rfl : K = 0 := h1
    obtain rfl : D = 0 := h2
    exact .inl ⟨U, h3, rfl⟩
theorem gaps_unit (acc : List UInt8) (d : Bool) (n : Nat) (ps : List Pt) : gapsR acc (unitK d (n + 1) :: ps) = ((acc, d) :: List.replicate n ([], d) ++ (gapsR [] ps).1, (gapsR [] ps).2) := by
  cases d with
  | true => exact gaps_drop acc n ps
  | false => exact gaps_keep acc n ps
def accG (acc : List UInt8) : GSt → GSt
  | ([], l) => ([], acc ++ l)
  | ((u, d) :: x, l) => ((acc ++ u, d) :: x, l)
theorem accG_nil (g : GSt) : accG [] g = g := by
  obtain ⟨x, l⟩ := g
  cases x <;> rfl
theorem accG_more (a b : List UInt8) (g : GSt) : accG a (accG b g) = accG (a ++ b) g := by
  obtain ⟨x, l⟩ := g
  cases x <;> simp [accG]
theorem gaps_acc (ps : List Pt) (h : ∀ p ∈ ps, oneP p) : ∀ acc, gapsR acc ps = accG acc (gapsR [] ps) := by
  induction ps with
  | nil => intro acc; simp [gapsR, accG]
  | cons p ps ih =>
    intro acc
    have ih := ih fun q hq => h q (by simp [hq])
    rcases one_cases (h p (by simp)) with ⟨u, hu, rfl⟩ | ⟨d, n, rfl⟩
    · rw [gaps_put, gaps_put, ih, ih ([] ++ u), accG_more, List.nil_append]
    · rw [gaps_unit, gaps_unit]; simp [accG]

/-- Gap by gap. -/
def docG (eA eB : List UInt8 → NSt → NSt) (eU : Bool → Bool → NSt → NSt) : List (List UInt8 × Bool) → List UInt8 → List (List UInt8 × Bool) → List UInt8 → NSt → NSt
  | (u, d) :: x, xl, (v, e) :: y, yl, s => docG eA eB eU x xl y yl (eU d e (eB v (eA u s)))
  | [], xl, _, yl, s => eB yl (eA xl s)
  | _, xl, [], yl, s => eB yl (eA xl s)
def docS (eA eB : List UInt8 → NSt → NSt) (eU : Bool → Bool → NSt → NSt) (a b : GSt) (s : NSt) : NSt := docG eA eB eU a.1 a.2 b.1 b.2 s
def stepsU (eU : NSt → NSt) : Nat → NSt → NSt
  | 0, s => s
  | n + 1, s => stepsU eU n (eU s)

theorem docS_accA (eA eB : List UInt8 → NSt → NSt) (eU : Bool → Bool → NSt → NSt) (hA : ∀ u v s, eA (u ++ v) s = eA v (eA u s)) (acc : List UInt8) (a b : GSt) (s : NSt) (hl : a.1.length = b.1.length) : docS eA eB eU (accG acc a) b s = docS eA eB eU a b (eA acc s) := by
  obtain ⟨x, xl⟩ := a
  obtain ⟨y, yl⟩ := b
  cases x with
  | nil => cases y <;> simp [docS, accG, docG, hA]
  | cons c x =>
    cases y with
    | nil => simp at hl
    | cons e y => simp [docS, accG, docG, hA]
/-- Where nothing is put ahead in a. -/
def quietG (a : GSt) : Prop := match a with
  | ([], l) => l = []
  | ((u, _) :: _, _) => u = []
theorem docS_accB (eA eB : List UInt8 → NSt → NSt) (eU : Bool → Bool → NSt → NSt) (hA0 : ∀ s, eA [] s = s) (hB : ∀ u v s, eB (u ++ v) s = eB v (eB u s)) (acc : List UInt8) (a b : GSt) (s : NSt) (hl : a.1.length = b.1.length) (hq : quietG a) : docS eA eB eU a (accG acc b) s = docS eA eB eU a b (eB acc s) := by
  obtain ⟨x, xl⟩ := a
  obtain ⟨y, yl⟩ := b
  cases x with
  | nil =>
    obtain rfl : xl = [] := hq
    cases y with
    | nil => simp [docS, accG, docG, hA0, hB]
    | cons e y => simp at hl
  | cons c x =>
    cases y with
    | nil => simp at hl
    | cons e y =>
      obtain ⟨u, d⟩ := c
      obtain rfl : u = [] := hq
      simp [docS, accG, docG, hA0, hB]
theorem docS_units (eA eB : List UInt8 → NSt → NSt) (eU : Bool → Bool → NSt → NSt) (hA0 : ∀ s, eA [] s = s) (hB0 : ∀ s, eB [] s = s) (d e : Bool) : ∀ (k : Nat) (a b : GSt) (s : NSt), docS eA eB eU (List.replicate k ([], d) ++ a.1, a.2) (List.replicate k ([], e) ++ b.1, b.2) s = docS eA eB eU a b (stepsU (eU d e) k s)
  | 0, a, b, s => rfl
  | k + 1, a, b, s => by
    have := docS_units eA eB eU hA0 hB0 d e k a b (eU d e s)
    simpa [docS, docG, List.replicate_succ, hA0, hB0, stepsU] using this
/-- So many units off a first part. -/
theorem cut_unit (d : Bool) (n k : Nat) (hk : k ≤ n) : (cutP (unitK d (n + 1)) ((k : Int) + 1)).1 = unitK d (k + 1) ∧ ∀ ps, gapsR [] (unitK d (n + 1) :: ps) = (List.replicate (k + 1) ([], d) ++ (gapsR [] ((cutP (unitK d (n + 1)) ((k : Int) + 1)).2 ++ ps)).1, (gapsR [] ((cutP (unitK d (n + 1)) ((k : Int) + 1)).2 ++ ps)).2) := by
  have hl : lengthP (unitK d (n + 1)) = (n : Int) + 1 := by cases d <;> simp [lengthP, unitK]
  by_cases e : n = k
  · subst e
    have hc : cutP (unitK d (n + 1)) ((n : Int) + 1) = (unitK d (n + 1), []) := by unfold cutP; rw [if_pos hl]
    rw [hc]
    refine ⟨rfl, fun ps => ?_⟩
    rw [gaps_unit]
    simp [List.replicate_succ]
  · obtain ⟨m, rfl⟩ : ∃ m, n = k + (m + 1) := ⟨n - k - 1, by omega⟩
    have hc : cutP (unitK d (k + (m + 1) + 1)) ((k : Int) + 1) = (unitK d (k + 1), [unitK d (m + 1)]) := by
      unfold cutP
      rw [if_neg (by rw [hl]; omega)]
      cases d with
      | true =>
        have h1 : ¬ 0 < (unitK true (k + (m + 1) + 1)).keep := by simp [unitK]
        have h2 : 0 < (unitK true (k + (m + 1) + 1)).drop := by simp [unitK]; omega
        rw [if_neg h1, if_pos h2]
        simp [unitK]; omega
      | false =>
        have h1 : 0 < (unitK false (k + (m + 1) + 1)).keep := by simp [unitK]; omega
        rw [if_pos h1]
        simp [unitK]; omega
    rw [hc]
    refine ⟨rfl, fun ps => ?_⟩
    rw [List.singleton_append, gaps_unit, gaps_unit]
    have e2 : List.replicate (k + (m + 1)) (([] : List UInt8), d) = List.replicate k ([], d) ++ ([], d) :: List.replicate m ([], d) := by
      rw [← List.replicate_succ, List.replicate_append_replicate]
    rw [e2]
    simp [List.replicate_succ]

def runS (t : Pt × Pt → List Pt) (l : List (Pt × Pt)) (s : NSt) : NSt := l.foldl (fun s x => (t x).foldl addP s) s
def lensU (ps : List Pt) : Nat := (gapsR [] ps).1.length
theorem quiet_unit (d : Bool) (n : Nat) (ps : List Pt) : quietG (gapsR [] (unitK d (n + 1) :: ps)) := by
  rw [gaps_unit]; rfl
theorem put_isPut {u : List UInt8} (h : u ≠ []) : isPutP ⟨0, 0, u⟩ = true := by simp [isPutP, h]
theorem unit_isPut (d : Bool) (n : Nat) : isPutP (unitK d n) = false := by cases d <;> simp [isPutP, unitK]
def weight (ps : List Pt) : Nat := (ps.map fun p => (lengthP p).toNat).sum
theorem weight_cons (p : Pt) (ps : List Pt) : weight (p :: ps) = (lengthP p).toNat + weight ps := by simp [weight]
theorem weight_append (a b : List Pt) : weight (a ++ b) = weight a + weight b := by simp [weight]
theorem len_unit (d : Bool) (n : Nat) : lengthP (unitK d n) = (n : Int) := by cases d <;> simp [lengthP, unitK]
theorem cut_weight (d : Bool) (n k : Nat) (hk : k ≤ n) : weight (cutP (unitK d (n + 1)) ((k : Int) + 1)).2 = n - k := by
  have hl : lengthP (unitK d (n + 1)) = (n : Int) + 1 := by rw [len_unit]; simp
  unfold cutP
  by_cases e : n = k
  · subst e
    rw [if_pos hl]; simp [weight]
  · rw [if_neg (by rw [hl]; omega)]
    cases d with
    | true =>
      have h1 : ¬ 0 < (unitK true (n + 1)).keep := by simp [unitK]
      have h2 : 0 < (unitK true (n + 1)).drop := by simp [unitK]
      rw [if_neg h1, if_pos h2]
      simp [weight, lengthP, unitK]; omega
    | false =>
      have h1 : 0 < (unitK false (n + 1)).keep := by simp [unitK]
      rw [if_pos h1]
      simp [weight, lengthP, unitK]; omega

/-- Pair by pair, or gap by gap. -/
theorem side_gaps (t : Pt × Pt → List Pt) (eA eB : List UInt8 → NSt → NSt) (eU : Bool → Bool → NSt → NSt) (hA0 : ∀ s, eA [] s = s) (hB0 : ∀ s, eB [] s = s)
    (hA : ∀ u v s, eA (u ++ v) s = eA v (eA u s)) (hB : ∀ u v s, eB (u ++ v) s = eB v (eB u s))
    (tA : ∀ u s, u ≠ [] → (t (⟨0, 0, u⟩, noP)).foldl addP s = eA u s) (tB : ∀ u s, u ≠ [] → (t (noP, ⟨0, 0, u⟩)).foldl addP s = eB u s)
    (tU : ∀ d e k s, (t (unitK d (k + 1), unitK e (k + 1))).foldl addP s = stepsU (eU d e) (k + 1) s) :
    ∀ (f : Nat) (a b : List Pt) (s : NSt), (∀ p ∈ a, oneP p) → (∀ p ∈ b, oneP p) → lensU a = lensU b → weight a + weight b ≤ f →
      runS t (sideP isPutP isPutP f a b) s = docS eA eB eU (gapsR [] a) (gapsR [] b) s := by
  intro f
  induction f with
  | zero =>
    intro a b s ha hb hl hw
    have h0 : ∀ (l : List Pt), (∀ p ∈ l, oneP p) → weight l = 0 → l = [] := by
      intro l hl hw
      cases l with
      | nil => rfl
      | cons p l =>
        have := length_pos (hl p (by simp))
        rw [weight_cons] at hw
        omega
    obtain rfl := h0 a ha (by omega)
    obtain rfl := h0 b hb (by omega)
    simp [sideP, runS, docS, docG, gapsR, hA0, hB0]
  | succ f ih =>
    intro a b s ha hb hl hw
    cases a with
    | nil =>
      cases b with
      | nil => simp [sideP, runS, docS, docG, gapsR, hA0, hB0]
      | cons q b =>
        rcases one_cases (hb q (by simp)) with ⟨v, hv, rfl⟩ | ⟨e, m, rfl⟩
        · have hlq := length_pos (hb _ (List.mem_cons_self ..))
          rw [weight_cons] at hw
          have hb' : ∀ p ∈ b, oneP p := fun p hp => hb p (by simp [hp])
          unfold lensU at hl
          rw [gaps_put, gaps_acc b hb'] at hl ⊢
          have hl' : (gapsR [] ([] : List Pt)).1.length = (gapsR [] b).1.length := by
            rw [hl]; cases h : gapsR [] b with | mk x l => cases x <;> simp [accG]
          rw [docS_accB eA eB eU hA0 hB _ _ _ _ hl' rfl]
          rw [← ih [] b (eB ([] ++ v) s) (by simp) hb' hl' (by omega)]
          simp only [sideP, put_isPut hv, if_true, runS, List.foldl_cons, tB v s hv, List.nil_append]
        · unfold lensU at hl
          rw [gaps_unit] at hl
          simp [gapsR] at hl
    | cons p a =>
      have hlp := length_pos (ha p (by simp))
      have ha' : ∀ p ∈ a, oneP p := fun p hp => ha p (by simp [hp])
      rcases one_cases (ha p (by simp)) with ⟨u, hu, rfl⟩ | ⟨d, n, rfl⟩
      · rw [weight_cons] at hw
        unfold lensU at hl
        rw [gaps_put, gaps_acc a ha'] at hl ⊢
        have hl' : (gapsR [] a).1.length = (gapsR [] b).1.length := by
          rw [← hl]; cases h : gapsR [] a with | mk x l => cases x <;> simp [accG]
        rw [docS_accA eA eB eU hA _ _ _ _ hl']
        rw [← ih a b (eA ([] ++ u) s) ha' hb hl' (by omega)]
        simp only [sideP, put_isPut hu, if_true, runS, List.foldl_cons, tA u s hu, List.nil_append]
      · cases b with
        | nil =>
          unfold lensU at hl
          rw [gaps_unit] at hl
          simp [gapsR] at hl
        | cons q b =>
          have hb' : ∀ p ∈ b, oneP p := fun p hp => hb p (by simp [hp])
          have hlq := length_pos (hb q (by simp))
          rcases one_cases (hb q (by simp)) with ⟨v, hv, rfl⟩ | ⟨e, m, rfl⟩
          · rw [weight_cons _ b] at hw
            unfold lensU at hl
            rw [gaps_put, gaps_acc b hb'] at hl ⊢
            have hl' : (gapsR [] (unitK d (n + 1) :: a)).1.length = (gapsR [] b).1.length := by
              rw [hl]; cases h : gapsR [] b with | mk x l => cases x <;> simp [accG]
            rw [docS_accB eA eB eU hA0 hB _ _ _ _ hl' (quiet_unit d n a)]
            rw [← ih (unitK d (n + 1) :: a) b (eB ([] ++ v) s) ha hb' hl' (by omega)]
            simp only [sideP, unit_isPut, put_isPut hv, if_true, Bool.false_eq_true, if_false, runS, List.foldl_cons, tB v s hv, List.nil_append]
          · obtain ⟨k, hk⟩ : ∃ k, k = min n m := ⟨_, rfl⟩
            have l1 : lengthP (unitK d (n + 1)) = (n : Int) + 1 := by cases d <;> simp [lengthP, unitK]
            have l2 : lengthP (unitK e (m + 1)) = (m : Int) + 1 := by cases e <;> simp [lengthP, unitK]
            have hmin : min (lengthP (unitK d (n + 1))) (lengthP (unitK e (m + 1))) = (k : Int) + 1 := by rw [l1, l2]; omega
            obtain ⟨c1, c2⟩ := cut_unit d n k (by omega)
            obtain ⟨c3, c4⟩ := cut_unit e m k (by omega)
            obtain ⟨_, _, o1, _⟩ := cut_one (ha _ (List.mem_cons_self ..)) (n := (k : Int) + 1) (by omega) (by rw [l1]; omega)
            obtain ⟨_, _, o2, _⟩ := cut_one (hb _ (List.mem_cons_self ..)) (n := (k : Int) + 1) (by omega) (by rw [l2]; omega)
            have wA := cut_weight d n k (by omega)
            have wB := cut_weight e m k (by omega)
            rw [weight_cons, weight_cons, len_unit, len_unit] at hw
            have gA := c2 a
            have gB := c4 b
            have ho1 : ∀ p ∈ (cutP (unitK d (n + 1)) ((k : Int) + 1)).2 ++ a, oneP p := fun p hp => by
              rcases List.mem_append.1 hp with h | h
              · exact (o1 p h).1
              · exact ha' p h
            have ho2 : ∀ p ∈ (cutP (unitK e (m + 1)) ((k : Int) + 1)).2 ++ b, oneP p := fun p hp => by
              rcases List.mem_append.1 hp with h | h
              · exact (o2 p h).1
              · exact hb' p h
            have hl' : lensU ((cutP (unitK d (n + 1)) ((k : Int) + 1)).2 ++ a) = lensU ((cutP (unitK e (m + 1)) ((k : Int) + 1)).2 ++ b) := by
              unfold lensU at hl ⊢
              rw [gA, gB] at hl
              simp only [List.length_append, List.length_replicate] at hl
              omega
            rw [gA, gB, docS_units eA eB eU hA0 hB0 d e (k + 1), ← ih _ _ _ ho1 ho2 hl' (by rw [weight_append, weight_append, wA, wB]; omega)]
            simp only [sideP, unit_isPut, Bool.false_eq_true, if_false, runS, List.foldl_cons, hmin, c1, c3, tU]
end Go.Proofs.YtedonckeomccpabDoor

namespace Go.Proofs.YtedonckeomccpabDoor
set_option linter.unusedVariables false

def tPut (u : List UInt8) (s : NSt) : NSt := addP s ⟨0, 0, u⟩
def tKeep (v : List UInt8) (s : NSt) : NSt := addP s ⟨v.length, 0, []⟩
def tUnit (d e : Bool) (s : NSt) : NSt := if e then s else addP s (unitP d)
theorem tPut_nil (s : NSt) : tPut [] s = s := addP_none s
theorem tKeep_nil (s : NSt) : tKeep [] s = s := addP_none s
theorem tPut_more (u v : List UInt8) (s : NSt) : tPut (u ++ v) s = tPut v (tPut u s) := (addP_puts s u v).symm
theorem tKeep_more (u v : List UInt8) (s : NSt) : tKeep (u ++ v) s = tKeep v (tKeep u s) := by
  unfold tKeep
  cases u with
  | nil => simp [addP_none]
  | cons c u =>
    rw [addP_keeps s ((c :: u).length : Int) (v.length : Int) (by simp) (by omega), List.length_append]
    simp
theorem units_add (d : Bool) : ∀ (k : Nat) (s : NSt), stepsU (tUnit d false) (k + 1) s = addP s (unitK d (k + 1))
  | 0, s => by cases d <;> rfl
  | k + 1, s => by
    have e1 : stepsU (tUnit d false) (k + 1 + 1) s = stepsU (tUnit d false) (k + 1) (tUnit d false s) := rfl
    rw [e1, units_add d k]
    cases d with
    | true =>
      show addP (addP s ⟨0, 1, []⟩) ⟨0, ((k + 1 : Nat) : Int), []⟩ = addP s ⟨0, ((k + 1 + 1 : Nat) : Int), []⟩
      rw [addP_drops]
      congr 2
      omega
    | false =>
      show addP (addP s ⟨1, 0, []⟩) ⟨((k + 1 : Nat) : Int), 0, []⟩ = addP s ⟨((k + 1 + 1 : Nat) : Int), 0, []⟩
      rw [addP_keeps s 1 _ (by omega) (by omega)]
      congr 2
      omega
theorem units_none (d : Bool) : ∀ (k : Nat) (s : NSt), stepsU (tUnit d true) k s = s
  | 0, _ => rfl
  | k + 1, s => units_none d k s
theorem turnQ_put (u : List UInt8) (s : NSt) (h : u ≠ []) : (turnP (⟨0, 0, u⟩, noP)).foldl addP s = tPut u s := by simp [turnP, isPutP, noP, h, tPut]
theorem turnQ_keep (v : List UInt8) (s : NSt) (h : v ≠ []) : (turnP (noP, ⟨0, 0, v⟩)).foldl addP s = tKeep v s := by simp [turnP, isPutP, h, tKeep]
theorem turnQ_unit (d e : Bool) (k : Nat) (s : NSt) : (turnP (unitK d (k + 1), unitK e (k + 1))).foldl addP s = stepsU (tUnit d e) (k + 1) s := by
  cases e with
  | true =>
    rw [units_none]
    have h1 : isPutP (unitK true (k + 1)) = false := unit_isPut true (k + 1)
    have h2 : isPutP (unitK d (k + 1)) = false := unit_isPut d (k + 1)
    have h3 : isKeepP (unitK true (k + 1)) = false := by simp [isKeepP, unitK]
    simp [turnP, h1, h2, h3]
  | false =>
    rw [units_add]
    have h1 : isPutP (unitK false (k + 1)) = false := unit_isPut false (k + 1)
    have h3 : isKeepP (unitK false (k + 1)) = true := by simp [isKeepP, unitK]
    simp [turnP, h1, h3]

/-- The document's parts, added up. -/
theorem docT_true : ∀ (x : List (List UInt8 × Bool)) (xl : List UInt8) (y : List (List UInt8 × Bool)) (yl : List UInt8) (s : NSt), (docT true x xl y yl).foldl addP s = docG tPut tKeep tUnit x xl y yl s
  | [], xl, [], yl, s => rfl
  | [], xl, _ :: _, yl, s => rfl
  | _ :: _, xl, [], yl, s => rfl
  | (u, d) :: x, xl, (v, e) :: y, yl, s => by
    rw [docT, docG, List.foldl_append, docT_true x xl y yl]
    cases e <;> rfl
theorem docT_false : ∀ (x : List (List UInt8 × Bool)) (xl : List UInt8) (y : List (List UInt8 × Bool)) (yl : List UInt8) (s : NSt), (docT false x xl y yl).foldl addP s = docG tKeep tPut (fun e d => tUnit d e) y yl x xl s
  | [], xl, [], yl, s => rfl
  | [], xl, _ :: _, yl, s => rfl
  | _ :: _, xl, [], yl, s => rfl
  | (u, d) :: x, xl, (v, e) :: y, yl, s => by
    rw [docT, docG, List.foldl_append, docT_false x xl y yl]
    cases e <;> rfl

/-- Transform, a's first. -/
theorem turn_first (f : Nat) (a b : List Pt) (s : NSt) (ha : ∀ p ∈ a, oneP p) (hb : ∀ p ∈ b, oneP p) (hl : lensU a = lensU b) (hw : weight a + weight b ≤ f) :
    runS turnP (sideP isPutP isPutP f a b) s = (docT true (gapsR [] a).1 (gapsR [] a).2 (gapsR [] b).1 (gapsR [] b).2).foldl addP s := by
  rw [docT_true]
  exact side_gaps turnP tPut tKeep tUnit tPut_nil tKeep_nil tPut_more tKeep_more turnQ_put turnQ_keep turnQ_unit f a b s ha hb hl hw
/-- Transform, the other's first. -/
theorem turn_second (f : Nat) (a b : List Pt) (s : NSt) (ha : ∀ p ∈ a, oneP p) (hb : ∀ p ∈ b, oneP p) (hl : lensU a = lensU b) (hw : weight a + weight b ≤ f) :
    runS (fun x => turnP (x.2, x.1)) (sideP isPutP isPutP f b a) s = (docT false (gapsR [] a).1 (gapsR [] a).2 (gapsR [] b).1 (gapsR [] b).2).foldl addP s := by
  rw [docT_false]
  exact side_gaps (fun x => turnP (x.2, x.1)) tKeep tPut (fun e d => tUnit d e) tKeep_nil tPut_nil tKeep_more tPut_more (fun v s h => turnQ_keep v s h) (fun u s h => turnQ_put u s h) (fun e d k s => turnQ_unit d e k s) f b a s hb ha hl.symm (by omega)
end Go.Proofs.YtedonckeomccpabDoor

namespace Go.Proofs.YtedonckeomccpabDoor
set_option linter.unusedVariables false

structure OneS (s : NSt) : Prop where
  out : ∀ p ∈ s.out, oneP p
  drop : 0 ≤ s.drop
theorem tell_one {s : NSt} (h : OneS s) : ∀ p ∈ tellP s, oneP p := by
  intro p hp
  unfold tellP at hp
  rcases List.mem_append.1 hp with hp | hp
  · exact h.out p hp
  · rcases List.mem_append.1 hp with hp | hp
    · split at hp
      · simp at hp
      · rename_i hne
        rw [List.mem_singleton.1 hp]
        exact .inr (.inr ⟨rfl, rfl, hne⟩)
    · split at hp
      · simp at hp
      · rename_i hne
        rw [List.mem_singleton.1 hp]
        have := h.drop
        exact .inr (.inl ⟨rfl, by show 0 < s.drop; omega, rfl⟩)
theorem push_one {l : List Pt} (h : ∀ p ∈ l, oneP p) {k : Int} (hk : 0 < k) : ∀ p ∈ pushKeep l k, oneP p := by
  intro p hp
  unfold pushKeep at hp
  have hnew : oneP (⟨k, 0, []⟩ : Pt) := .inl ⟨hk, rfl, rfl⟩
  cases hq : l.getLast? with
  | none =>
    rw [hq] at hp
    simp only [List.mem_append, List.mem_singleton] at hp
    rcases hp with hp | rfl
    · exact h p hp
    · exact hnew
  | some q =>
    rw [hq] at hp
    have hql : q ∈ l := List.mem_of_getLast? hq
    simp only at hp
    split at hp
    · rename_i h0
      simp only [List.mem_append, List.mem_singleton] at hp
      rcases hp with hp | rfl
      · exact h p (List.dropLast_subset l hp)
      · rcases h q hql with ⟨h1, h2, h3⟩ | ⟨h1, _, _⟩ | ⟨h1, _, _⟩
        · exact .inl ⟨by show 0 < q.keep + k; omega, h2, h3⟩
        · omega
        · omega
    · simp only [List.mem_append, List.mem_singleton] at hp
      rcases hp with hp | rfl
      · exact h p hp
      · exact hnew
theorem add_one {s : NSt} (h : OneS s) (p : Pt) (hk : 0 ≤ p.keep) (hd : 0 ≤ p.drop) : OneS (addP s p) := by
  unfold addP
  have h' : OneS ⟨s.out, s.put ++ p.put, s.drop + p.drop⟩ := ⟨h.out, by have := h.drop; show 0 ≤ s.drop + p.drop; omega⟩
  split
  · exact h'
  · rename_i hk0
    exact ⟨push_one (tell_one h') (by omega), by show (0 : Int) ≤ 0; omega⟩
theorem fold_one (ps : List Pt) (h : ∀ p ∈ ps, 0 ≤ p.keep ∧ 0 ≤ p.drop) : ∀ s, OneS s → OneS (ps.foldl addP s) := by
  induction ps with
  | nil => exact fun s hs => hs
  | cons p ps ih => exact fun s hs => ih (fun q hq => h q (by simp [hq])) _ (add_one hs p (h p (by simp)).1 (h p (by simp)).2)
theorem norm_one (ps : List Pt) (h : ∀ p ∈ ps, 0 ≤ p.keep ∧ 0 ≤ p.drop) : ∀ p ∈ normP ps, oneP p :=
  tell_one (fold_one ps h nst0 ⟨by simp [nst0], by simp [nst0]⟩)

/-- How long it is, is kept. -/
def longP (ps : List Pt) : Int := (ps.map lenP).sum
def longS (s : NSt) : Int := longP s.out + s.drop
theorem long_append (a b : List Pt) : longP (a ++ b) = longP a + longP b := by simp [longP]
theorem tell_long (s : NSt) : longP (tellP s) = longS s := by
  unfold tellP longS
  rw [long_append, long_append]
  by_cases hp : s.put = [] <;> by_cases hd : s.drop = 0 <;> simp [longP, lenP, hp, hd]
theorem push_long (l : List Pt) (k : Int) : longP (pushKeep l k) = longP l + k := by
  unfold pushKeep
  cases hq : l.getLast? with
  | none => simp [longP, lenP]
  | some q =>
    simp only
    split
    · have e : l = l.dropLast ++ [q] := by
        have hne : l ≠ [] := by rintro rfl; simp at hq
        have := List.dropLast_concat_getLast hne
        rw [List.getLast?_eq_some_getLast hne] at hq
        rw [Option.some.inj hq] at this
        exact this.symm
      conv => rhs; rw [e]
      rw [long_append, long_append]
      simp [longP, lenP]
      omega
    · rw [long_append]; simp [longP, lenP]
theorem add_long (s : NSt) (p : Pt) : longS (addP s p) = longS s + lenP p := by
  unfold addP
  split
  · rename_i h
    simp [longS, lenP, h]
    omega
  · show longP (pushKeep _ _) + 0 = _
    rw [push_long, tell_long]
    simp [longS, lenP]
    omega
theorem fold_long (ps : List Pt) : ∀ s, longS (ps.foldl addP s) = longS s + longP ps := by
  induction ps with
  | nil => intro s; simp [longP]
  | cons p ps ih =>
    intro s
    rw [List.foldl_cons, ih, add_long]
    simp [longP]
    omega
theorem norm_long (ps : List Pt) : longP (normP ps) = longP ps := by
  unfold normP
  rw [tell_long, fold_long]
  simp [longS, nst0, longP]
theorem lensU_long (ps : List Pt) (h : ∀ p ∈ ps, 0 ≤ p.keep ∧ 0 ≤ p.drop) : (lensU ps : Int) = longP ps := by
  unfold lensU
  have key : ∀ (ps : List Pt), (∀ p ∈ ps, 0 ≤ p.keep ∧ 0 ≤ p.drop) → ∀ acc, ((gapsR acc ps).1.length : Int) = longP ps := by
    intro ps
    induction ps with
    | nil => intro _ acc; simp [gapsR, longP]
    | cons p ps ih =>
      intro h acc
      have h1 := spreadP_len ([], acc) p (h p (by simp)).1 (h p (by simp)).2
      have h2 := ih (fun q hq => h q (by simp [hq])) (spreadP ([], acc) p).2
      simp only [gapsR, List.length_append, longP, List.map_cons, List.sum_cons] at h2 ⊢
      push_cast
      simp only [List.length_nil] at h1
      omega
  exact key ps h []
end Go.Proofs.YtedonckeomccpabDoor

namespace Go.Proofs.YtedonckeomccpabDoor
open Go.RowKit
set_option linter.unusedVariables false
attribute [local go_sem] Oper.semAt_some

/-- What pick picks. -/
def pk (a m : Int) : Int := IntKind.u64.wrap a % m
theorem pk_bd (a m : Int) (h : 0 < m) : 0 ≤ pk a m ∧ pk a m < m := ⟨Int.emod_nonneg _ (by omega), Int.emod_lt_of_pos _ h⟩
set_option maxHeartbeats 1000000 in
theorem pick_any (a m : Int) (ha : -9223372036854775808 ≤ a ∧ a < 9223372036854775808) (h0 : 0 < m) (hm : m < 100) (w : World) :
    Calls Tryd.prog 35 #[.int .i64 a, .int .i64 m] w fun e w' => e = .returned (.int .i64 (pk a m)) ∧ Below w.heap.size w w' := by
  obtain ⟨a1, a2⟩ := ha
  have hne : m ≠ 0 := by omega
  have e1 : IntKind.u64.wrap m = m := by rw [IntKind.wrap_u64]; omega
  go_enter Tryd.func35, Tryd.ntmps35
  go_wp2
  go_ret
  have h1 : 0 ≤ IntKind.u64.wrap a := by rw [IntKind.wrap_u64]; omega
  have h2 : (IntKind.u64.wrap a).tmod m = IntKind.u64.wrap a % m := Int.tmod_eq_emod_of_nonneg h1
  have h3 := Int.emod_nonneg (IntKind.u64.wrap a) hne
  have h4 := Int.emod_lt_of_pos (IntKind.u64.wrap a) h0
  have h5 : wrap64 ((IntKind.u64.wrap a).tmod m) = pk a m := by rw [h2]; unfold wrap64 pk; omega
  exact ⟨by rw [← h5]; rfl, Below.refl _ _⟩
theorem cells_newN (w : World) (n : Nat) (hn : w.heap.size = n) (l : List Value) (t : TypeId) : ∀ j u, l[j]? = some u → (w.alloc (.cells l.toArray t)).cell? ((⟨n, 0, none⟩ : Addr).add j) = some u := by
  subst hn
  exact cells_new w l t
theorem cellOnF {A B : World} {b : Nat} (h : B.heap[b]? = A.heap[b]?) (o : Nat) : B.cell? ⟨b, o, none⟩ = A.cell? ⟨b, o, none⟩ := by
  simp [World.cell?, h]
theorem alloc_size {w w2 : World} {o : Obj} (h : Below (w.alloc o).heap.size (w.alloc o) w2) : w.heap.size + 1 ≤ w2.heap.size := by
  have := h.size
  rw [World.size_alloc] at this
  exact this

theorem grown_cell {w w' : World} {β o : Nat} {v x : Value} (hg : w.grownBy w' v.ownBlock) (hlt : β < w.heap.size) (hne : ∀ k, v.ownBlock = some k → k < β) (h : w.cell? ⟨β, o, none⟩ = some x) : w'.cell? ⟨β, o, none⟩ = some x :=
  (cellOnF (hg.block β hlt fun e => absurd (hne _ e.symm) (Nat.lt_irrefl _)) o).trans h

/-- A part that is not great. -/
def smallQ (N : Int) (q : Pt) : Prop := 0 ≤ q.keep ∧ q.keep ≤ N ∧ 0 ≤ q.drop ∧ q.drop ≤ N ∧ q.put.length ≤ 150
theorem small_snoc {N : Int} {qs : List Pt} {q : Pt} (h : ∀ p ∈ qs, smallQ N p) (hq : smallQ N q) : ∀ p ∈ qs ++ [q], smallQ N p := by
  intro p hp
  rcases List.mem_append.1 hp with hp | hp
  · exact h p hp
  · rw [List.mem_singleton.1 hp]; exact hq
theorem cells_snoc (qs : List Pt) (q : Pt) : cellsP qs ++ partCells q = cellsP (qs ++ [q]) := (cellsP_snoc qs q).symm
def fitI (w : World) (N : Int) (n k : Nat) (v : Value) (M : Int) (wr : World) : Prop :=
  ∃ qs : List Pt, wr.ownsRow w.heap.size 40 3 v qs.length (cellsP qs) ∧ qs.length ≤ 2 * k ∧ (∀ q ∈ qs, smallQ N q) ∧ 0 ≤ M ∧ M ≤ N ∧ k ≤ n ∧ k ≤ 30 ∧ Below w.heap.size w wr

set_option maxRecDepth 100000 in
set_option maxHeartbeats 8000000 in
theorem fit_any (v : Value) (ps : List Pt) (N : Int) (w : World) (hT : Lib.Utf8Tabs 0 1 w) (hr : opAt w v ps) (hwf : ∀ p ∈ ps, p.put.length ≤ 150 → wfP p) (hN0 : 0 ≤ N) (hN1 : N ≤ 100000) :
    Calls Tryd.prog 15 #[v, .int .i64 N] w fun e w' => ∃ v' qs, e = .returned v' ∧ w'.ownsRow w.heap.size 40 3 v' qs.length (cellsP qs) ∧ qs.length ≤ 61 ∧ (∀ q ∈ qs, smallQ N q) ∧ Below w.heap.size w w' := by
  obtain ⟨p, c, rfl, r1, r2, r3⟩ := hr
  obtain ⟨n, hn⟩ : ∃ n, n = ps.length := ⟨_, rfl⟩
  rw [← hn] at r1 ⊢
  have HN : Hid (n = ps.length) := hn
  clear hn
  have R3 : Hid (ps ≠ [] → ∃ b o, p = some ⟨b, o, none⟩ ∧ b < w.heap.size ∧ ∀ i q, ps[i]? = some q →
    w.cell? ⟨b, o + i * 3, none⟩ = some (.int .i64 q.keep) ∧ w.cell? ⟨b, o + i * 3 + 1, none⟩ = some (.int .i64 q.drop) ∧ w.cell? ⟨b, o + i * 3 + 2, none⟩ = some (.string ⟨q.put.toArray⟩)) := r3
  have HWF : Hid (∀ p ∈ ps, p.put.length ≤ 150 → wfP p) := hwf
  have HT : Hid (Lib.Utf8Tabs 0 1 w) := hT
  obtain ⟨i0, hi, hz0, hz1, hz2⟩ := info_parts info_part
  clear r3 hwf hT
  unfold maxLen at r2
  go_enter Tryd.func15, Tryd.ntmps15
  go_wp2
  go_loopw [5, 1, 6] (fun v5 m i wr => ∃ (k : Nat) (M : Int), i = .int .i64 k ∧ m = .int .i64 M ∧ fitI w N n k v5 M wr) (fun _ _ i _ => 30 - (intOf i).toNat)
  case atStart => exact ⟨0, N, rfl, rfl, [], World.ownsRow_nil _ _ _ _, Nat.zero_le _, by simp, hN0, Int.le_refl _, Nat.zero_le _, Nat.zero_le _, Below.refl _ _⟩
  case round =>
    obtain ⟨k, M, rfl, rfl, qs, hown, hql, hqs, hM0, hM1, hkn, hk30, hwr⟩ := hrel
    obtain ⟨pv, cv, rfl⟩ := own_slice hown
    have HQS : Hid (∀ q ∈ qs, smallQ N q) := hqs
    have HOW : Hid (wr.ownsRow w.heap.size 40 3 (.slice pv qs.length cv) qs.length (cellsP qs)) := hown
    have HWR : Hid (Below w.heap.size w wr) := hwr
    have hws := hwr.size
    have HLT : Hid (∀ k, (Value.slice pv qs.length cv).ownBlock = some k → k < wr.heap.size) := fun k hk => (hown.lt k hk).2
    clear hown hqs hwr
    by_cases hlt : k < n ∧ k < 30
    · obtain ⟨hlt1, hlt2⟩ := hlt
      have hkr : k < ps.length := by rw [← HN.out]; exact hlt1
      have hne : ps ≠ [] := by intro e; rw [e] at hkr; exact absurd hkr (Nat.not_lt_zero _)
      obtain ⟨b, o, rfl, hbw, hcell⟩ := R3.out hne
      obtain ⟨c0, c1, c2⟩ := hcell k ps[k] (List.getElem?_eq_getElem hkr)
      have g0 := (HWR.out.cell (p := ⟨b, o + k * 3, none⟩) hbw).trans c0
      have g1 := (HWR.out.cell (p := ⟨b, o + k * 3 + 1, none⟩) hbw).trans c1
      have g2 := (HWR.out.cell (p := ⟨b, o + k * 3 + 2, none⟩) hbw).trans c2
      have hwq := HWF.out ps[k] (List.getElem_mem _)
      generalize ps[k] = q at *
      obtain ⟨K, D, U⟩ := q
      simp only at g0 g1 g2 hwq
      have hj1 : (k : Int) < (n : Int) := by omega
      have hj2 : (k : Int) < 30 := by omega
      have hUz : (ByteArray.mk U.toArray).size = U.length := by simp [ByteArray.size]
      have HB0 : Hid (Below w.heap.size w (wr.alloc (.cells #[.int .i64 K, .int .i64 D, .string ⟨U.toArray⟩] 40))) := HWR.out.alloc hws _
      have ho0 : Hid ((wr.alloc (.cells #[.int .i64 K, .int .i64 D, .string ⟨U.toArray⟩] 40)).ownsRow w.heap.size 40 3 (.slice pv qs.length cv) qs.length (cellsP qs)) := HOW.out.alloc _
      have X0 : Hid ((wr.alloc (.cells #[.int .i64 K, .int .i64 D, .string ⟨U.toArray⟩] 40)).heap[wr.heap.size]? = some (.cells #[.int .i64 K, .int .i64 D, .string ⟨U.toArray⟩] 40 (0, 0))) := heap_alloc_new _ _
      clear hcell c0 c1 c2 hne hkr
      by_cases hbig : 150 < U.length
      · have hbig' : (150 : Int) < (U.length : Int) := by omega
        clear hwq
        go_wp2
        go_roundw
        case rel => exact ⟨k + 1, M, by go_num, rfl, qs, ho0.out, by omega, HQS.out, hM0, hM1, by omega, by omega, HB0.out⟩
        case measure => simp [intOf]; omega
      · have hbig' : ¬ (150 : Int) < (U.length : Int) := by omega
        obtain ⟨wk1, wk2, wd1, wd2, _⟩ := hwq (by omega)
        have cC := Count_any ⟨U.toArray⟩ (by rw [hUz]; omega) (wr.alloc (.cells #[.int .i64 K, .int .i64 D, .string ⟨U.toArray⟩] 40)) (Go.Proofs.Utf8Tabs_below HT.out HB0.out)
        have hl0 : wr.heap.size < (wr.alloc (.cells #[.int .i64 K, .int .i64 D, .string ⟨U.toArray⟩] 40)).heap.size := by simp
        obtain ⟨K1, hK1⟩ : ∃ K1, pk K 12 = K1 := ⟨_, rfl⟩
        obtain ⟨K2, hK2⟩ : ∃ K2, pk D 7 = K2 := ⟨_, rfl⟩
        have hk1 := pk_bd K 12 (by omega)
        have hk2 := pk_bd D 7 (by omega)
        have CP1 : Hid (∀ wx, Calls Tryd.prog 35 #[.int .i64 K, .int .i64 12] wx fun e w' => e = .returned (.int .i64 K1) ∧ Below wx.heap.size wx w') := fun wx => by rw [← hK1]; exact pick_any K 12 ⟨wk1, wk2⟩ (by omega) (by omega) wx
        have CP2 : Hid (∀ wx, Calls Tryd.prog 35 #[.int .i64 D, .int .i64 7] wx fun e w' => e = .returned (.int .i64 K2) ∧ Below wx.heap.size wx w') := fun wx => by rw [← hK2]; exact pick_any D 7 ⟨wd1, wd2⟩ (by omega) (by omega) wx
        rw [hK1] at hk1
        rw [hK2] at hk2
        obtain ⟨hk10, hk11⟩ := hk1
        obtain ⟨hk20, hk21⟩ := hk2
        have y2 : (wr.alloc (.cells #[.int .i64 K, .int .i64 D, .string ⟨U.toArray⟩] 40)).cell? ⟨wr.heap.size, 2, none⟩ = some (.string ⟨U.toArray⟩) := Lib.cell_of_heap X0.out 2
        have y1 : (wr.alloc (.cells #[.int .i64 K, .int .i64 D, .string ⟨U.toArray⟩] 40)).cell? ⟨wr.heap.size, 1, none⟩ = some (.int .i64 D) := Lib.cell_of_heap X0.out 1
        have y0 : (wr.alloc (.cells #[.int .i64 K, .int .i64 D, .string ⟨U.toArray⟩] 40)).cell? ⟨wr.heap.size, 0, none⟩ = some (.int .i64 K) := Lib.cell_of_heap X0.out 0
        clear wk1 wk2 wd1 wd2 HWR hK1 hK2 hwq
        have hpk : (¬ 0 < K1) ∨ (0 < K1 ∧ ¬ K1 ≤ M) ∨ (0 < K1 ∧ K1 ≤ M) := by omega
        by_cases hU : U = []
        · have hUe : U.isEmpty = true := by rw [hU]; rfl
          have hsc : (scan U).2 = true := by rw [hU]; rfl
          have HC : Hid (Calls Tryd.prog 34 #[.string ⟨U.toArray⟩] (wr.alloc (.cells #[.int .i64 K, .int .i64 D, .string ⟨U.toArray⟩] 40)) fun e w' => ∃ n1 n2 n3 n4, e = .returned (.tuple #[.agg #[.int .i64 n1, .int .i64 n2, .int .i64 n3, .int .i64 n4], .nilIface]) ∧ Below (wr.alloc (.cells #[.int .i64 K, .int .i64 D, .string ⟨U.toArray⟩] 40)).heap.size (wr.alloc (.cells #[.int .i64 K, .int .i64 D, .string ⟨U.toArray⟩] 40)) w') := Calls.mono cC fun e w' h => by
            obtain ⟨v, x, rfl, hb, ⟨_, rfl, rfl⟩ | ⟨h0, _⟩⟩ := h
            · exact ⟨_, _, _, _, rfl, hb⟩
            · rw [show (ByteArray.mk U.toArray).data.toList = U from rfl, hsc] at h0; cases h0
          clear cC hsc hU
          rcases hpk with hp | ⟨hp, hp'⟩ | ⟨hp, hp'⟩
          ·
            have hpk2 : (¬ 0 < K2) ∨ (0 < K2 ∧ ¬ K2 ≤ M) ∨ (0 < K2 ∧ K2 ≤ M) := by omega
            rcases hpk2 with hr | ⟨hr, hr'⟩ | ⟨hr, hr'⟩
            ·
              go_wp2_with (first
                | (go_at_call 34; refine Calls.mono HC.out ?_; rintro e w2 ⟨n1, n2, n3, n4, rfl, hb2⟩; have HB2 : Hid (Below w.heap.size w w2) := HB0.out.trans (hb2.mono HB0.out.size); have HO2 : Hid (w2.ownsRow w.heap.size 40 3 (.slice pv qs.length cv) qs.length (cellsP qs)) := own_below ho0.out hb2; have z2 := (hb2.cell (p := ⟨wr.heap.size, 2, none⟩) hl0).trans y2; have z1 := (hb2.cell (p := ⟨wr.heap.size, 1, none⟩) hl0).trans y1; have z0 := (hb2.cell (p := ⟨wr.heap.size, 0, none⟩) hl0).trans y0; have hba : Below w2.heap.size w2 (w2.alloc (.cells #[.int .i64 n1, .int .i64 n2, .int .i64 n3, .int .i64 n4] 46)) := (Below.refl _ w2).alloc (Nat.le_refl _) _; have t2 := cell_on hba z2; have t1 := cell_on hba z1; have t0 := cell_on hba z0; have hl2 := alloc_size hb2; have hs2 := HB2.out.size; have HO3 : Hid ((w2.alloc (.cells #[.int .i64 n1, .int .i64 n2, .int .i64 n3, .int .i64 n4] 46)).ownsRow w.heap.size 40 3 (.slice pv qs.length cv) qs.length (cellsP qs)) := HO2.out.alloc _; have HB3 : Hid (Below w.heap.size w (w2.alloc (.cells #[.int .i64 n1, .int .i64 n2, .int .i64 n3, .int .i64 n4] 46))) := HB2.out.alloc HB2.out.size _; clear hb2 hba)
                | (have _ := HO4; go_at_call 35; refine (CP2.out _).mono ?_; rintro e w6 ⟨rfl, hb6⟩; have HB6 : Hid (Below w.heap.size w w6) := HB4.out.trans (hb6.mono HB4.out.size); have HO6 : Hid (w6.ownsRow w.heap.size 40 3 (.slice pv qs.length cv) qs.length (cellsP qs)) := own_below HO4.out hb6; have p2 := cell_on hb6 q2; have hs6 := HB6.out.size; clear hb6)
                | (go_at_call 35; refine (CP1.out _).mono ?_; rintro e w4 ⟨rfl, hb4⟩; have HB4 : Hid (Below w.heap.size w w4) := HB3.out.trans (hb4.mono HB3.out.size); have HO4 : Hid (w4.ownsRow w.heap.size 40 3 (.slice pv qs.length cv) qs.length (cellsP qs)) := own_below HO3.out hb4; have q2 := cell_on hb4 t2; have q1 := cell_on hb4 t1; have hs4 := HB4.out.size; have hs24 := hb4.size; rw [World.size_alloc] at hs24; clear hb4)
                | fail)
              go_roundw
              case rel =>
                refine ⟨k + 1, M, by go_num, by first | rfl | go_num, qs, ?_, by first | omega | (simp; omega), HQS.out, by omega, by omega, by omega, by omega, HB6.out⟩
                exact HO6.out
              case measure => simp [intOf]; omega
            ·
              go_wp2_with (first
                | (go_at_call 34; refine Calls.mono HC.out ?_; rintro e w2 ⟨n1, n2, n3, n4, rfl, hb2⟩; have HB2 : Hid (Below w.heap.size w w2) := HB0.out.trans (hb2.mono HB0.out.size); have HO2 : Hid (w2.ownsRow w.heap.size 40 3 (.slice pv qs.length cv) qs.length (cellsP qs)) := own_below ho0.out hb2; have z2 := (hb2.cell (p := ⟨wr.heap.size, 2, none⟩) hl0).trans y2; have z1 := (hb2.cell (p := ⟨wr.heap.size, 1, none⟩) hl0).trans y1; have z0 := (hb2.cell (p := ⟨wr.heap.size, 0, none⟩) hl0).trans y0; have hba : Below w2.heap.size w2 (w2.alloc (.cells #[.int .i64 n1, .int .i64 n2, .int .i64 n3, .int .i64 n4] 46)) := (Below.refl _ w2).alloc (Nat.le_refl _) _; have t2 := cell_on hba z2; have t1 := cell_on hba z1; have t0 := cell_on hba z0; have hl2 := alloc_size hb2; have hs2 := HB2.out.size; have HO3 : Hid ((w2.alloc (.cells #[.int .i64 n1, .int .i64 n2, .int .i64 n3, .int .i64 n4] 46)).ownsRow w.heap.size 40 3 (.slice pv qs.length cv) qs.length (cellsP qs)) := HO2.out.alloc _; have HB3 : Hid (Below w.heap.size w (w2.alloc (.cells #[.int .i64 n1, .int .i64 n2, .int .i64 n3, .int .i64 n4] 46))) := HB2.out.alloc HB2.out.size _; clear hb2 hba)
                | (have _ := HO4; go_at_call 35; refine (CP2.out _).mono ?_; rintro e w6 ⟨rfl, hb6⟩; have HB6 : Hid (Below w.heap.size w w6) := HB4.out.trans (hb6.mono HB4.out.size); have HO6 : Hid (w6.ownsRow w.heap.size 40 3 (.slice pv qs.length cv) qs.length (cellsP qs)) := own_below HO4.out hb6; have p2 := cell_on hb6 q2; have hs6 := HB6.out.size; clear hb6)
                | (go_at_call 35; refine (CP1.out _).mono ?_; rintro e w4 ⟨rfl, hb4⟩; have HB4 : Hid (Below w.heap.size w w4) := HB3.out.trans (hb4.mono HB3.out.size); have HO4 : Hid (w4.ownsRow w.heap.size 40 3 (.slice pv qs.length cv) qs.length (cellsP qs)) := own_below HO3.out hb4; have q2 := cell_on hb4 t2; have q1 := cell_on hb4 t1; have hs4 := HB4.out.size; have hs24 := hb4.size; rw [World.size_alloc] at hs24; clear hb4)
                | fail)
              go_roundw
              case rel =>
                refine ⟨k + 1, M, by go_num, by first | rfl | go_num, qs, ?_, by first | omega | (simp; omega), HQS.out, by omega, by omega, by omega, by omega, HB6.out⟩
                exact HO6.out
              case measure => simp [intOf]; omega
            ·
              have hw2 : IntKind.i64.wrap (M - K2) = M - K2 := by rw [IntKind.wrap_i64]; omega
              go_wp2_with (first
                | (go_at_call 34; refine Calls.mono HC.out ?_; rintro e w2 ⟨n1, n2, n3, n4, rfl, hb2⟩; have HB2 : Hid (Below w.heap.size w w2) := HB0.out.trans (hb2.mono HB0.out.size); have HO2 : Hid (w2.ownsRow w.heap.size 40 3 (.slice pv qs.length cv) qs.length (cellsP qs)) := own_below ho0.out hb2; have z2 := (hb2.cell (p := ⟨wr.heap.size, 2, none⟩) hl0).trans y2; have z1 := (hb2.cell (p := ⟨wr.heap.size, 1, none⟩) hl0).trans y1; have z0 := (hb2.cell (p := ⟨wr.heap.size, 0, none⟩) hl0).trans y0; have hba : Below w2.heap.size w2 (w2.alloc (.cells #[.int .i64 n1, .int .i64 n2, .int .i64 n3, .int .i64 n4] 46)) := (Below.refl _ w2).alloc (Nat.le_refl _) _; have t2 := cell_on hba z2; have t1 := cell_on hba z1; have t0 := cell_on hba z0; have hl2 := alloc_size hb2; have hs2 := HB2.out.size; have HO3 : Hid ((w2.alloc (.cells #[.int .i64 n1, .int .i64 n2, .int .i64 n3, .int .i64 n4] 46)).ownsRow w.heap.size 40 3 (.slice pv qs.length cv) qs.length (cellsP qs)) := HO2.out.alloc _; have HB3 : Hid (Below w.heap.size w (w2.alloc (.cells #[.int .i64 n1, .int .i64 n2, .int .i64 n3, .int .i64 n4] 46))) := HB2.out.alloc HB2.out.size _; clear hb2 hba)
                | (have _ := HO4; go_at_call 35; refine (CP2.out _).mono ?_; rintro e w6 ⟨rfl, hb6⟩; have HB6 : Hid (Below w.heap.size w w6) := HB4.out.trans (hb6.mono HB4.out.size); have HO6 : Hid (w6.ownsRow w.heap.size 40 3 (.slice pv qs.length cv) qs.length (cellsP qs)) := own_below HO4.out hb6; have p2 := cell_on hb6 q2; have hs6 := HB6.out.size; clear hb6)
                | (go_at_call 35; refine (CP1.out _).mono ?_; rintro e w4 ⟨rfl, hb4⟩; have HB4 : Hid (Below w.heap.size w w4) := HB3.out.trans (hb4.mono HB3.out.size); have HO4 : Hid (w4.ownsRow w.heap.size 40 3 (.slice pv qs.length cv) qs.length (cellsP qs)) := own_below HO3.out hb4; have q2 := cell_on hb4 t2; have q1 := cell_on hb4 t1; have hs4 := HB4.out.size; have hs24 := hb4.size; rw [World.size_alloc] at hs24; clear hb4)
                | (have _ := HO6; at_builtin; refine wpList_append_own _ rfl _ _ 23 rfl w.heap.size 40 i0 (.agg #[.int .i64 0, .int .i64 0, .string ⟨#[]⟩]) 3 32 Tryd.underlying23 hi hz0 hz1 hz2 rfl (by decide) _ _ _ rfl (HO6.out.alloc _) ⟨w6.heap.size, 0, none⟩ 1 1 (partCells ⟨0, K2, []⟩) rfl rfl (cells_newN _ _ (by first | rfl | simp) _ _) (partCells_one _) (by unfold maxLen; omega) (by omega) (by first | omega | (simp; omega)) ?_)
                | fail)
              intro v'' w'' hown'' hg'' _
              obtain ⟨p'', c'', rfl⟩ := own_slice hown''
              have HB7 : Hid (Below w.heap.size w w'') := (HB6.out.alloc HB6.out.size _).grown hg'' (by simp; omega) fun k hk => (HO6.out.lt k hk).1
              have HO7 : Hid (w''.ownsRow w.heap.size 40 3 (.slice p'' (qs.length + 1) c'') (qs.length + 1) (cellsP qs ++ partCells ⟨0, K2, []⟩)) := hown''
              clear hown'' hg''
              go_wp2
              go_roundw
              case rel =>
                refine ⟨k + 1, M - K2, by go_num, by first | rfl | go_num, (qs) ++ [⟨0, K2, []⟩], ?_, by first | omega | (simp; omega), small_snoc (HQS.out) ⟨Int.le_refl _, hN0, by show 0 ≤ K2; omega, by show K2 ≤ N; omega, by simp⟩, by omega, by omega, by omega, by omega, HB7.out⟩
                rw [cellsP_snoc, List.length_append]; exact HO7.out
              case measure => simp [intOf]; omega
          ·
            have hpk2 : (¬ 0 < K2) ∨ (0 < K2 ∧ ¬ K2 ≤ M) ∨ (0 < K2 ∧ K2 ≤ M) := by omega
            rcases hpk2 with hr | ⟨hr, hr'⟩ | ⟨hr, hr'⟩
            ·
              go_wp2_with (first
                | (go_at_call 34; refine Calls.mono HC.out ?_; rintro e w2 ⟨n1, n2, n3, n4, rfl, hb2⟩; have HB2 : Hid (Below w.heap.size w w2) := HB0.out.trans (hb2.mono HB0.out.size); have HO2 : Hid (w2.ownsRow w.heap.size 40 3 (.slice pv qs.length cv) qs.length (cellsP qs)) := own_below ho0.out hb2; have z2 := (hb2.cell (p := ⟨wr.heap.size, 2, none⟩) hl0).trans y2; have z1 := (hb2.cell (p := ⟨wr.heap.size, 1, none⟩) hl0).trans y1; have z0 := (hb2.cell (p := ⟨wr.heap.size, 0, none⟩) hl0).trans y0; have hba : Below w2.heap.size w2 (w2.alloc (.cells #[.int .i64 n1, .int .i64 n2, .int .i64 n3, .int .i64 n4] 46)) := (Below.refl _ w2).alloc (Nat.le_refl _) _; have t2 := cell_on hba z2; have t1 := cell_on hba z1; have t0 := cell_on hba z0; have hl2 := alloc_size hb2; have hs2 := HB2.out.size; have HO3 : Hid ((w2.alloc (.cells #[.int .i64 n1, .int .i64 n2, .int .i64 n3, .int .i64 n4] 46)).ownsRow w.heap.size 40 3 (.slice pv qs.length cv) qs.length (cellsP qs)) := HO2.out.alloc _; have HB3 : Hid (Below w.heap.size w (w2.alloc (.cells #[.int .i64 n1, .int .i64 n2, .int .i64 n3, .int .i64 n4] 46))) := HB2.out.alloc HB2.out.size _; clear hb2 hba)
                | (have _ := HO4; go_at_call 35; refine (CP2.out _).mono ?_; rintro e w6 ⟨rfl, hb6⟩; have HB6 : Hid (Below w.heap.size w w6) := HB4.out.trans (hb6.mono HB4.out.size); have HO6 : Hid (w6.ownsRow w.heap.size 40 3 (.slice pv qs.length cv) qs.length (cellsP qs)) := own_below HO4.out hb6; have p2 := cell_on hb6 q2; have hs6 := HB6.out.size; clear hb6)
                | (go_at_call 35; refine (CP1.out _).mono ?_; rintro e w4 ⟨rfl, hb4⟩; have HB4 : Hid (Below w.heap.size w w4) := HB3.out.trans (hb4.mono HB3.out.size); have HO4 : Hid (w4.ownsRow w.heap.size 40 3 (.slice pv qs.length cv) qs.length (cellsP qs)) := own_below HO3.out hb4; have q2 := cell_on hb4 t2; have q1 := cell_on hb4 t1; have hs4 := HB4.out.size; have hs24 := hb4.size; rw [World.size_alloc] at hs24; clear hb4)
                | fail)
              go_roundw
              case rel =>
                refine ⟨k + 1, M, by go_num, by first | rfl | go_num, qs, ?_, by first | omega | (simp; omega), HQS.out, by omega, by omega, by omega, by omega, HB6.out⟩
                exact HO6.out
              case measure => simp [intOf]; omega
            ·
              go_wp2_with (first
                | (go_at_call 34; refine Calls.mono HC.out ?_; rintro e w2 ⟨n1, n2, n3, n4, rfl, hb2⟩; have HB2 : Hid (Below w.heap.size w w2) := HB0.out.trans (hb2.mono HB0.out.size); have HO2 : Hid (w2.ownsRow w.heap.size 40 3 (.slice pv qs.length cv) qs.length (cellsP qs)) := own_below ho0.out hb2; have z2 := (hb2.cell (p := ⟨wr.heap.size, 2, none⟩) hl0).trans y2; have z1 := (hb2.cell (p := ⟨wr.heap.size, 1, none⟩) hl0).trans y1; have z0 := (hb2.cell (p := ⟨wr.heap.size, 0, none⟩) hl0).trans y0; have hba : Below w2.heap.size w2 (w2.alloc (.cells #[.int .i64 n1, .int .i64 n2, .int .i64 n3, .int .i64 n4] 46)) := (Below.refl _ w2).alloc (Nat.le_refl _) _; have t2 := cell_on hba z2; have t1 := cell_on hba z1; have t0 := cell_on hba z0; have hl2 := alloc_size hb2; have hs2 := HB2.out.size; have HO3 : Hid ((w2.alloc (.cells #[.int .i64 n1, .int .i64 n2, .int .i64 n3, .int .i64 n4] 46)).ownsRow w.heap.size 40 3 (.slice pv qs.length cv) qs.length (cellsP qs)) := HO2.out.alloc _; have HB3 : Hid (Below w.heap.size w (w2.alloc (.cells #[.int .i64 n1, .int .i64 n2, .int .i64 n3, .int .i64 n4] 46))) := HB2.out.alloc HB2.out.size _; clear hb2 hba)
                | (have _ := HO4; go_at_call 35; refine (CP2.out _).mono ?_; rintro e w6 ⟨rfl, hb6⟩; have HB6 : Hid (Below w.heap.size w w6) := HB4.out.trans (hb6.mono HB4.out.size); have HO6 : Hid (w6.ownsRow w.heap.size 40 3 (.slice pv qs.length cv) qs.length (cellsP qs)) := own_below HO4.out hb6; have p2 := cell_on hb6 q2; have hs6 := HB6.out.size; clear hb6)
                | (go_at_call 35; refine (CP1.out _).mono ?_; rintro e w4 ⟨rfl, hb4⟩; have HB4 : Hid (Below w.heap.size w w4) := HB3.out.trans (hb4.mono HB3.out.size); have HO4 : Hid (w4.ownsRow w.heap.size 40 3 (.slice pv qs.length cv) qs.length (cellsP qs)) := own_below HO3.out hb4; have q2 := cell_on hb4 t2; have q1 := cell_on hb4 t1; have hs4 := HB4.out.size; have hs24 := hb4.size; rw [World.size_alloc] at hs24; clear hb4)
                | fail)
              go_roundw
              case rel =>
                refine ⟨k + 1, M, by go_num, by first | rfl | go_num, qs, ?_, by first | omega | (simp; omega), HQS.out, by omega, by omega, by omega, by omega, HB6.out⟩
                exact HO6.out
              case measure => simp [intOf]; omega
            ·
              have hw2 : IntKind.i64.wrap (M - K2) = M - K2 := by rw [IntKind.wrap_i64]; omega
              go_wp2_with (first
                | (go_at_call 34; refine Calls.mono HC.out ?_; rintro e w2 ⟨n1, n2, n3, n4, rfl, hb2⟩; have HB2 : Hid (Below w.heap.size w w2) := HB0.out.trans (hb2.mono HB0.out.size); have HO2 : Hid (w2.ownsRow w.heap.size 40 3 (.slice pv qs.length cv) qs.length (cellsP qs)) := own_below ho0.out hb2; have z2 := (hb2.cell (p := ⟨wr.heap.size, 2, none⟩) hl0).trans y2; have z1 := (hb2.cell (p := ⟨wr.heap.size, 1, none⟩) hl0).trans y1; have z0 := (hb2.cell (p := ⟨wr.heap.size, 0, none⟩) hl0).trans y0; have hba : Below w2.heap.size w2 (w2.alloc (.cells #[.int .i64 n1, .int .i64 n2, .int .i64 n3, .int .i64 n4] 46)) := (Below.refl _ w2).alloc (Nat.le_refl _) _; have t2 := cell_on hba z2; have t1 := cell_on hba z1; have t0 := cell_on hba z0; have hl2 := alloc_size hb2; have hs2 := HB2.out.size; have HO3 : Hid ((w2.alloc (.cells #[.int .i64 n1, .int .i64 n2, .int .i64 n3, .int .i64 n4] 46)).ownsRow w.heap.size 40 3 (.slice pv qs.length cv) qs.length (cellsP qs)) := HO2.out.alloc _; have HB3 : Hid (Below w.heap.size w (w2.alloc (.cells #[.int .i64 n1, .int .i64 n2, .int .i64 n3, .int .i64 n4] 46))) := HB2.out.alloc HB2.out.size _; clear hb2 hba)
                | (have _ := HO4; go_at_call 35; refine (CP2.out _).mono ?_; rintro e w6 ⟨rfl, hb6⟩; have HB6 : Hid (Below w.heap.size w w6) := HB4.out.trans (hb6.mono HB4.out.size); have HO6 : Hid (w6.ownsRow w.heap.size 40 3 (.slice pv qs.length cv) qs.length (cellsP qs)) := own_below HO4.out hb6; have p2 := cell_on hb6 q2; have hs6 := HB6.out.size; clear hb6)
                | (go_at_call 35; refine (CP1.out _).mono ?_; rintro e w4 ⟨rfl, hb4⟩; have HB4 : Hid (Below w.heap.size w w4) := HB3.out.trans (hb4.mono HB3.out.size); have HO4 : Hid (w4.ownsRow w.heap.size 40 3 (.slice pv qs.length cv) qs.length (cellsP qs)) := own_below HO3.out hb4; have q2 := cell_on hb4 t2; have q1 := cell_on hb4 t1; have hs4 := HB4.out.size; have hs24 := hb4.size; rw [World.size_alloc] at hs24; clear hb4)
                | (have _ := HO6; at_builtin; refine wpList_append_own _ rfl _ _ 23 rfl w.heap.size 40 i0 (.agg #[.int .i64 0, .int .i64 0, .string ⟨#[]⟩]) 3 32 Tryd.underlying23 hi hz0 hz1 hz2 rfl (by decide) _ _ _ rfl (HO6.out.alloc _) ⟨w6.heap.size, 0, none⟩ 1 1 (partCells ⟨0, K2, []⟩) rfl rfl (cells_newN _ _ (by first | rfl | simp) _ _) (partCells_one _) (by unfold maxLen; omega) (by omega) (by first | omega | (simp; omega)) ?_)
                | fail)
              intro v'' w'' hown'' hg'' _
              obtain ⟨p'', c'', rfl⟩ := own_slice hown''
              have HB7 : Hid (Below w.heap.size w w'') := (HB6.out.alloc HB6.out.size _).grown hg'' (by simp; omega) fun k hk => (HO6.out.lt k hk).1
              have HO7 : Hid (w''.ownsRow w.heap.size 40 3 (.slice p'' (qs.length + 1) c'') (qs.length + 1) (cellsP qs ++ partCells ⟨0, K2, []⟩)) := hown''
              clear hown'' hg''
              go_wp2
              go_roundw
              case rel =>
                refine ⟨k + 1, M - K2, by go_num, by first | rfl | go_num, (qs) ++ [⟨0, K2, []⟩], ?_, by first | omega | (simp; omega), small_snoc (HQS.out) ⟨Int.le_refl _, hN0, by show 0 ≤ K2; omega, by show K2 ≤ N; omega, by simp⟩, by omega, by omega, by omega, by omega, HB7.out⟩
                rw [cellsP_snoc, List.length_append]; exact HO7.out
              case measure => simp [intOf]; omega
          ·
            have hpk2 : (¬ 0 < K2) ∨ (0 < K2 ∧ ¬ K2 ≤ M - K1) ∨ (0 < K2 ∧ K2 ≤ M - K1) := by omega
            rcases hpk2 with hr | ⟨hr, hr'⟩ | ⟨hr, hr'⟩
            ·
              have hw1 : IntKind.i64.wrap (M - K1) = M - K1 := by rw [IntKind.wrap_i64]; omega
              go_wp2_with (first
                | (go_at_call 34; refine Calls.mono HC.out ?_; rintro e w2 ⟨n1, n2, n3, n4, rfl, hb2⟩; have HB2 : Hid (Below w.heap.size w w2) := HB0.out.trans (hb2.mono HB0.out.size); have HO2 : Hid (w2.ownsRow w.heap.size 40 3 (.slice pv qs.length cv) qs.length (cellsP qs)) := own_below ho0.out hb2; have z2 := (hb2.cell (p := ⟨wr.heap.size, 2, none⟩) hl0).trans y2; have z1 := (hb2.cell (p := ⟨wr.heap.size, 1, none⟩) hl0).trans y1; have z0 := (hb2.cell (p := ⟨wr.heap.size, 0, none⟩) hl0).trans y0; have hba : Below w2.heap.size w2 (w2.alloc (.cells #[.int .i64 n1, .int .i64 n2, .int .i64 n3, .int .i64 n4] 46)) := (Below.refl _ w2).alloc (Nat.le_refl _) _; have t2 := cell_on hba z2; have t1 := cell_on hba z1; have t0 := cell_on hba z0; have hl2 := alloc_size hb2; have hs2 := HB2.out.size; have HO3 : Hid ((w2.alloc (.cells #[.int .i64 n1, .int .i64 n2, .int .i64 n3, .int .i64 n4] 46)).ownsRow w.heap.size 40 3 (.slice pv qs.length cv) qs.length (cellsP qs)) := HO2.out.alloc _; have HB3 : Hid (Below w.heap.size w (w2.alloc (.cells #[.int .i64 n1, .int .i64 n2, .int .i64 n3, .int .i64 n4] 46))) := HB2.out.alloc HB2.out.size _; clear hb2 hba)
                | (go_at_call 35; refine (CP1.out _).mono ?_; rintro e w4 ⟨rfl, hb4⟩; have HB4 : Hid (Below w.heap.size w w4) := HB3.out.trans (hb4.mono HB3.out.size); have HO4 : Hid (w4.ownsRow w.heap.size 40 3 (.slice pv qs.length cv) qs.length (cellsP qs)) := own_below HO3.out hb4; have q2 := cell_on hb4 t2; have q1 := cell_on hb4 t1; have hs4 := HB4.out.size; have hs24 := hb4.size; rw [World.size_alloc] at hs24; clear hb4)
                | (at_builtin; refine wpList_append_own _ rfl _ _ 23 rfl w.heap.size 40 i0 (.agg #[.int .i64 0, .int .i64 0, .string ⟨#[]⟩]) 3 32 Tryd.underlying23 hi hz0 hz1 hz2 rfl (by decide) _ _ _ rfl (HO4.out.alloc _) ⟨w4.heap.size, 0, none⟩ 1 1 (partCells ⟨K1, 0, []⟩) rfl rfl (cells_newN _ _ (by first | rfl | simp) _ _) (partCells_one _) (by unfold maxLen; omega) (by omega) (by first | omega | (simp; omega)) ?_)
                | fail)
              intro v' w' hown' hg' _
              obtain ⟨p', c', rfl⟩ := own_slice hown'
              have HB5 : Hid (Below w.heap.size w w') := (HB4.out.alloc HB4.out.size _).grown hg' (by simp; omega) fun k hk => (HO4.out.lt k hk).1
              have HO5 : Hid (w'.ownsRow w.heap.size 40 3 (.slice p' (qs.length + 1) c') (qs.length + 1) (cellsP qs ++ partCells ⟨K1, 0, []⟩)) := hown'
              have r2' := grown_cell hg' (by rw [World.size_alloc]; omega) HLT.out (cell_on ((Below.refl _ w4).alloc (Nat.le_refl _) _) q2)
              have r1' := grown_cell hg' (by rw [World.size_alloc]; omega) HLT.out (cell_on ((Below.refl _ w4).alloc (Nat.le_refl _) _) q1)
              have hs5 := HB5.out.size
              clear hown' hg'
              go_wp2_with (first
                | (have _ := HO5; go_at_call 35; refine (CP2.out _).mono ?_; rintro e w6 ⟨rfl, hb6⟩; have HB6 : Hid (Below w.heap.size w w6) := HB5.out.trans (hb6.mono HB5.out.size); have HO6 : Hid (w6.ownsRow w.heap.size 40 3 (.slice p' (qs.length + 1) c') (qs.length + 1) (cellsP qs ++ partCells ⟨K1, 0, []⟩)) := own_below HO5.out hb6; have p2 := cell_on hb6 r2'; have hs6 := HB6.out.size; clear hb6)
                | fail)
              go_roundw
              case rel =>
                refine ⟨k + 1, M - K1, by go_num, by first | rfl | go_num, qs ++ [⟨K1, 0, []⟩], ?_, by first | omega | (simp; omega), small_snoc HQS.out ⟨by show 0 ≤ K1; omega, by show K1 ≤ N; omega, Int.le_refl _, hN0, by simp⟩, by omega, by omega, by omega, by omega, HB6.out⟩
                rw [cellsP_snoc, List.length_append]; exact HO6.out
              case measure => simp [intOf]; omega
            ·
              have hw1 : IntKind.i64.wrap (M - K1) = M - K1 := by rw [IntKind.wrap_i64]; omega
              go_wp2_with (first
                | (go_at_call 34; refine Calls.mono HC.out ?_; rintro e w2 ⟨n1, n2, n3, n4, rfl, hb2⟩; have HB2 : Hid (Below w.heap.size w w2) := HB0.out.trans (hb2.mono HB0.out.size); have HO2 : Hid (w2.ownsRow w.heap.size 40 3 (.slice pv qs.length cv) qs.length (cellsP qs)) := own_below ho0.out hb2; have z2 := (hb2.cell (p := ⟨wr.heap.size, 2, none⟩) hl0).trans y2; have z1 := (hb2.cell (p := ⟨wr.heap.size, 1, none⟩) hl0).trans y1; have z0 := (hb2.cell (p := ⟨wr.heap.size, 0, none⟩) hl0).trans y0; have hba : Below w2.heap.size w2 (w2.alloc (.cells #[.int .i64 n1, .int .i64 n2, .int .i64 n3, .int .i64 n4] 46)) := (Below.refl _ w2).alloc (Nat.le_refl _) _; have t2 := cell_on hba z2; have t1 := cell_on hba z1; have t0 := cell_on hba z0; have hl2 := alloc_size hb2; have hs2 := HB2.out.size; have HO3 : Hid ((w2.alloc (.cells #[.int .i64 n1, .int .i64 n2, .int .i64 n3, .int .i64 n4] 46)).ownsRow w.heap.size 40 3 (.slice pv qs.length cv) qs.length (cellsP qs)) := HO2.out.alloc _; have HB3 : Hid (Below w.heap.size w (w2.alloc (.cells #[.int .i64 n1, .int .i64 n2, .int .i64 n3, .int .i64 n4] 46))) := HB2.out.alloc HB2.out.size _; clear hb2 hba)
                | (go_at_call 35; refine (CP1.out _).mono ?_; rintro e w4 ⟨rfl, hb4⟩; have HB4 : Hid (Below w.heap.size w w4) := HB3.out.trans (hb4.mono HB3.out.size); have HO4 : Hid (w4.ownsRow w.heap.size 40 3 (.slice pv qs.length cv) qs.length (cellsP qs)) := own_below HO3.out hb4; have q2 := cell_on hb4 t2; have q1 := cell_on hb4 t1; have hs4 := HB4.out.size; have hs24 := hb4.size; rw [World.size_alloc] at hs24; clear hb4)
                | (at_builtin; refine wpList_append_own _ rfl _ _ 23 rfl w.heap.size 40 i0 (.agg #[.int .i64 0, .int .i64 0, .string ⟨#[]⟩]) 3 32 Tryd.underlying23 hi hz0 hz1 hz2 rfl (by decide) _ _ _ rfl (HO4.out.alloc _) ⟨w4.heap.size, 0, none⟩ 1 1 (partCells ⟨K1, 0, []⟩) rfl rfl (cells_newN _ _ (by first | rfl | simp) _ _) (partCells_one _) (by unfold maxLen; omega) (by omega) (by first | omega | (simp; omega)) ?_)
                | fail)
              intro v' w' hown' hg' _
              obtain ⟨p', c', rfl⟩ := own_slice hown'
              have HB5 : Hid (Below w.heap.size w w') := (HB4.out.alloc HB4.out.size _).grown hg' (by simp; omega) fun k hk => (HO4.out.lt k hk).1
              have HO5 : Hid (w'.ownsRow w.heap.size 40 3 (.slice p' (qs.length + 1) c') (qs.length + 1) (cellsP qs ++ partCells ⟨K1, 0, []⟩)) := hown'
              have r2' := grown_cell hg' (by rw [World.size_alloc]; omega) HLT.out (cell_on ((Below.refl _ w4).alloc (Nat.le_refl _) _) q2)
              have r1' := grown_cell hg' (by rw [World.size_alloc]; omega) HLT.out (cell_on ((Below.refl _ w4).alloc (Nat.le_refl _) _) q1)
              have hs5 := HB5.out.size
              clear hown' hg'
              go_wp2_with (first
                | (have _ := HO5; go_at_call 35; refine (CP2.out _).mono ?_; rintro e w6 ⟨rfl, hb6⟩; have HB6 : Hid (Below w.heap.size w w6) := HB5.out.trans (hb6.mono HB5.out.size); have HO6 : Hid (w6.ownsRow w.heap.size 40 3 (.slice p' (qs.length + 1) c') (qs.length + 1) (cellsP qs ++ partCells ⟨K1, 0, []⟩)) := own_below HO5.out hb6; have p2 := cell_on hb6 r2'; have hs6 := HB6.out.size; clear hb6)
                | fail)
              go_roundw
              case rel =>
                refine ⟨k + 1, M - K1, by go_num, by first | rfl | go_num, qs ++ [⟨K1, 0, []⟩], ?_, by first | omega | (simp; omega), small_snoc HQS.out ⟨by show 0 ≤ K1; omega, by show K1 ≤ N; omega, Int.le_refl _, hN0, by simp⟩, by omega, by omega, by omega, by omega, HB6.out⟩
                rw [cellsP_snoc, List.length_append]; exact HO6.out
              case measure => simp [intOf]; omega
            ·
              have hw1 : IntKind.i64.wrap (M - K1) = M - K1 := by rw [IntKind.wrap_i64]; omega
              go_wp2_with (first
                | (go_at_call 34; refine Calls.mono HC.out ?_; rintro e w2 ⟨n1, n2, n3, n4, rfl, hb2⟩; have HB2 : Hid (Below w.heap.size w w2) := HB0.out.trans (hb2.mono HB0.out.size); have HO2 : Hid (w2.ownsRow w.heap.size 40 3 (.slice pv qs.length cv) qs.length (cellsP qs)) := own_below ho0.out hb2; have z2 := (hb2.cell (p := ⟨wr.heap.size, 2, none⟩) hl0).trans y2; have z1 := (hb2.cell (p := ⟨wr.heap.size, 1, none⟩) hl0).trans y1; have z0 := (hb2.cell (p := ⟨wr.heap.size, 0, none⟩) hl0).trans y0; have hba : Below w2.heap.size w2 (w2.alloc (.cells #[.int .i64 n1, .int .i64 n2, .int .i64 n3, .int .i64 n4] 46)) := (Below.refl _ w2).alloc (Nat.le_refl _) _; have t2 := cell_on hba z2; have t1 := cell_on hba z1; have t0 := cell_on hba z0; have hl2 := alloc_size hb2; have hs2 := HB2.out.size; have HO3 : Hid ((w2.alloc (.cells #[.int .i64 n1, .int .i64 n2, .int .i64 n3, .int .i64 n4] 46)).ownsRow w.heap.size 40 3 (.slice pv qs.length cv) qs.length (cellsP qs)) := HO2.out.alloc _; have HB3 : Hid (Below w.heap.size w (w2.alloc (.cells #[.int .i64 n1, .int .i64 n2, .int .i64 n3, .int .i64 n4] 46))) := HB2.out.alloc HB2.out.size _; clear hb2 hba)
                | (go_at_call 35; refine (CP1.out _).mono ?_; rintro e w4 ⟨rfl, hb4⟩; have HB4 : Hid (Below w.heap.size w w4) := HB3.out.trans (hb4.mono HB3.out.size); have HO4 : Hid (w4.ownsRow w.heap.size 40 3 (.slice pv qs.length cv) qs.length (cellsP qs)) := own_below HO3.out hb4; have q2 := cell_on hb4 t2; have q1 := cell_on hb4 t1; have hs4 := HB4.out.size; have hs24 := hb4.size; rw [World.size_alloc] at hs24; clear hb4)
                | (at_builtin; refine wpList_append_own _ rfl _ _ 23 rfl w.heap.size 40 i0 (.agg #[.int .i64 0, .int .i64 0, .string ⟨#[]⟩]) 3 32 Tryd.underlying23 hi hz0 hz1 hz2 rfl (by decide) _ _ _ rfl (HO4.out.alloc _) ⟨w4.heap.size, 0, none⟩ 1 1 (partCells ⟨K1, 0, []⟩) rfl rfl (cells_newN _ _ (by first | rfl | simp) _ _) (partCells_one _) (by unfold maxLen; omega) (by omega) (by first | omega | (simp; omega)) ?_)
                | fail)
              intro v' w' hown' hg' _
              obtain ⟨p', c', rfl⟩ := own_slice hown'
              have HB5 : Hid (Below w.heap.size w w') := (HB4.out.alloc HB4.out.size _).grown hg' (by simp; omega) fun k hk => (HO4.out.lt k hk).1
              have HO5 : Hid (w'.ownsRow w.heap.size 40 3 (.slice p' (qs.length + 1) c') (qs.length + 1) (cellsP qs ++ partCells ⟨K1, 0, []⟩)) := hown'
              have r2' := grown_cell hg' (by rw [World.size_alloc]; omega) HLT.out (cell_on ((Below.refl _ w4).alloc (Nat.le_refl _) _) q2)
              have r1' := grown_cell hg' (by rw [World.size_alloc]; omega) HLT.out (cell_on ((Below.refl _ w4).alloc (Nat.le_refl _) _) q1)
              have hs5 := HB5.out.size
              clear hown' hg'
              have hw2 : IntKind.i64.wrap (M - K1 - K2) = M - K1 - K2 := by rw [IntKind.wrap_i64]; omega
              go_wp2_with (first
                | (have _ := HO5; go_at_call 35; refine (CP2.out _).mono ?_; rintro e w6 ⟨rfl, hb6⟩; have HB6 : Hid (Below w.heap.size w w6) := HB5.out.trans (hb6.mono HB5.out.size); have HO6 : Hid (w6.ownsRow w.heap.size 40 3 (.slice p' (qs.length + 1) c') (qs.length + 1) (cellsP qs ++ partCells ⟨K1, 0, []⟩)) := own_below HO5.out hb6; have p2 := cell_on hb6 r2'; have hs6 := HB6.out.size; clear hb6)
                | (have _ := HO6; at_builtin; refine wpList_append_own _ rfl _ _ 23 rfl w.heap.size 40 i0 (.agg #[.int .i64 0, .int .i64 0, .string ⟨#[]⟩]) 3 32 Tryd.underlying23 hi hz0 hz1 hz2 rfl (by decide) _ _ _ rfl (HO6.out.alloc _) ⟨w6.heap.size, 0, none⟩ 1 1 (partCells ⟨0, K2, []⟩) rfl rfl (cells_newN _ _ (by first | rfl | simp) _ _) (partCells_one _) (by unfold maxLen; omega) (by omega) (by first | omega | (simp; omega)) ?_)
                | fail)
              intro v'' w'' hown'' hg'' _
              obtain ⟨p'', c'', rfl⟩ := own_slice hown''
              have HB7 : Hid (Below w.heap.size w w'') := (HB6.out.alloc HB6.out.size _).grown hg'' (by simp; omega) fun k hk => (HO6.out.lt k hk).1
              have HO7 : Hid (w''.ownsRow w.heap.size 40 3 (.slice p'' ((qs.length + 1) + 1) c'') ((qs.length + 1) + 1) (cellsP qs ++ (partCells ⟨K1, 0, []⟩ ++ partCells ⟨0, K2, []⟩))) := hown''
              clear hown'' hg''
              go_wp2
              go_roundw
              case rel =>
                refine ⟨k + 1, M - K1 - K2, by go_num, by first | rfl | go_num, (qs ++ [⟨K1, 0, []⟩]) ++ [⟨0, K2, []⟩], ?_, by first | omega | (simp; omega), small_snoc (small_snoc HQS.out ⟨by show 0 ≤ K1; omega, by show K1 ≤ N; omega, Int.le_refl _, hN0, by simp⟩) ⟨Int.le_refl _, hN0, by show 0 ≤ K2; omega, by show K2 ≤ N; omega, by simp⟩, by omega, by omega, by omega, by omega, HB7.out⟩
                have e1 : cellsP (qs ++ [(⟨K1, 0, []⟩ : Pt)] ++ [(⟨0, K2, []⟩ : Pt)]) = cellsP qs ++ (partCells ⟨K1, 0, []⟩ ++ partCells ⟨0, K2, []⟩) := by rw [cellsP_snoc, cellsP_snoc, List.append_assoc]
                have e2 : (qs ++ [(⟨K1, 0, []⟩ : Pt)] ++ [(⟨0, K2, []⟩ : Pt)]).length = qs.length + 1 + 1 := by simp
                rw [e1, e2]; exact HO7.out
              case measure => simp [intOf]; omega
        · have hUe : U.isEmpty = false := by cases U with | nil => exact absurd rfl hU | cons x U => rfl
          by_cases hsc : (scan U).2 = true
          · have HC : Hid (Calls Tryd.prog 34 #[.string ⟨U.toArray⟩] (wr.alloc (.cells #[.int .i64 K, .int .i64 D, .string ⟨U.toArray⟩] 40)) fun e w' => ∃ n1 n2 n3 n4, e = .returned (.tuple #[.agg #[.int .i64 n1, .int .i64 n2, .int .i64 n3, .int .i64 n4], .nilIface]) ∧ Below (wr.alloc (.cells #[.int .i64 K, .int .i64 D, .string ⟨U.toArray⟩] 40)).heap.size (wr.alloc (.cells #[.int .i64 K, .int .i64 D, .string ⟨U.toArray⟩] 40)) w') := Calls.mono cC fun e w' h => by
              obtain ⟨v, x, rfl, hb, ⟨_, rfl, rfl⟩ | ⟨h0, _⟩⟩ := h
              · exact ⟨_, _, _, _, rfl, hb⟩
              · rw [show (ByteArray.mk U.toArray).data.toList = U from rfl, hsc] at h0; cases h0
            clear cC hsc hU hpk
            go_wp2_with (first
              | (go_at_call 34; refine Calls.mono HC.out ?_; rintro e w2 ⟨n1, n2, n3, n4, rfl, hb2⟩; have HB2 : Hid (Below w.heap.size w w2) := HB0.out.trans (hb2.mono HB0.out.size); have HO2 : Hid (w2.ownsRow w.heap.size 40 3 (.slice pv qs.length cv) qs.length (cellsP qs)) := own_below ho0.out hb2; have z2 := (hb2.cell (p := ⟨wr.heap.size, 2, none⟩) hl0).trans y2; have z1 := (hb2.cell (p := ⟨wr.heap.size, 1, none⟩) hl0).trans y1; have z0 := (hb2.cell (p := ⟨wr.heap.size, 0, none⟩) hl0).trans y0; have hba : Below w2.heap.size w2 (w2.alloc (.cells #[.int .i64 n1, .int .i64 n2, .int .i64 n3, .int .i64 n4] 46)) := (Below.refl _ w2).alloc (Nat.le_refl _) _; have t2 := cell_on hba z2; have t1 := cell_on hba z1; have t0 := cell_on hba z0; have hl2 := alloc_size hb2; have hs2 := HB2.out.size; have HO3 : Hid ((w2.alloc (.cells #[.int .i64 n1, .int .i64 n2, .int .i64 n3, .int .i64 n4] 46)).ownsRow w.heap.size 40 3 (.slice pv qs.length cv) qs.length (cellsP qs)) := HO2.out.alloc _; have HB3 : Hid (Below w.heap.size w (w2.alloc (.cells #[.int .i64 n1, .int .i64 n2, .int .i64 n3, .int .i64 n4] 46))) := HB2.out.alloc HB2.out.size _; clear hb2 hba)
              | (at_builtin; refine wpList_append_own _ rfl _ _ 23 rfl w.heap.size 40 i0 (.agg #[.int .i64 0, .int .i64 0, .string ⟨#[]⟩]) 3 32 Tryd.underlying23 hi hz0 hz1 hz2 rfl (by decide) _ _ _ rfl (HO3.out.alloc _) ⟨w2.heap.size + 1, 0, none⟩ 1 1 (partCells ⟨0, 0, U⟩) rfl rfl (cells_newN _ _ (by first | rfl | simp) _ _) (partCells_one _) (by unfold maxLen; omega) (by omega) (by first | omega | (simp; omega)) ?_)
              | fail)
            intro v' w' hown' hg' _
            obtain ⟨p', c', rfl⟩ := own_slice hown'
            have HBW' : Hid (Below w.heap.size w w') := (HB3.out.alloc HB3.out.size _).grown hg' (by simp; omega) fun k hk => (HO3.out.lt k hk).1
            have HO' : Hid (w'.ownsRow w.heap.size 40 3 (.slice p' (qs.length + 1) c') (qs.length + 1) (cellsP qs ++ partCells ⟨0, 0, U⟩)) := hown'
            clear hown' hg'
            go_wp2
            go_roundw
            case rel =>
              refine ⟨k + 1, M, by go_num, rfl, qs ++ [⟨0, 0, U⟩], ?_, by simp; omega, small_snoc HQS.out ⟨Int.le_refl _, hN0, Int.le_refl _, hN0, by show U.length ≤ 150; omega⟩, hM0, hM1, by omega, by omega, HBW'.out⟩
              rw [cellsP_snoc, List.length_append]; exact HO'.out
            case measure => simp [intOf]; omega
          · have hsc : (scan U).2 = false := Bool.eq_false_iff.2 hsc
            have HC : Hid (Calls Tryd.prog 34 #[.string ⟨U.toArray⟩] (wr.alloc (.cells #[.int .i64 K, .int .i64 D, .string ⟨U.toArray⟩] 40)) fun e w' => ∃ n1 n2 n3 n4 bx, e = .returned (.tuple #[.agg #[.int .i64 n1, .int .i64 n2, .int .i64 n3, .int .i64 n4], .iface 126 (.pointer (some ⟨bx, 0, none⟩))]) ∧ Below (wr.alloc (.cells #[.int .i64 K, .int .i64 D, .string ⟨U.toArray⟩] 40)).heap.size (wr.alloc (.cells #[.int .i64 K, .int .i64 D, .string ⟨U.toArray⟩] 40)) w') := Calls.mono cC fun e w' h => by
              obtain ⟨v, x, rfl, hb, ⟨h0, _⟩ | ⟨_, rfl, bx, rfl, _⟩⟩ := h
              · rw [show (ByteArray.mk U.toArray).data.toList = U from rfl, hsc] at h0; cases h0
              · exact ⟨_, _, _, _, bx, rfl, hb⟩
            clear cC hsc hU
            have hpk2 : (¬ 0 < K2) ∨ (0 < K2 ∧ ¬ K2 ≤ M) ∨ (0 < K2 ∧ K2 ≤ M) := by omega
            rcases hpk with hp | ⟨hp, hp'⟩ | ⟨hp, hp'⟩ <;> rcases hpk2 with hr | ⟨hr, hr'⟩ | ⟨hr, hr'⟩ <;>
            · go_wp2_with (first
                | (go_at_call 34; refine Calls.mono HC.out ?_; rintro e w2 ⟨n1, n2, n3, n4, bx, rfl, hb2⟩; have HB2 : Hid (Below w.heap.size w w2) := HB0.out.trans (hb2.mono HB0.out.size); have HO2 : Hid (w2.ownsRow w.heap.size 40 3 (.slice pv qs.length cv) qs.length (cellsP qs)) := own_below ho0.out hb2; have z2 := (hb2.cell (p := ⟨wr.heap.size, 2, none⟩) hl0).trans y2; have z1 := (hb2.cell (p := ⟨wr.heap.size, 1, none⟩) hl0).trans y1; have z0 := (hb2.cell (p := ⟨wr.heap.size, 0, none⟩) hl0).trans y0; have hba : Below w2.heap.size w2 (w2.alloc (.cells #[.int .i64 n1, .int .i64 n2, .int .i64 n3, .int .i64 n4] 46)) := (Below.refl _ w2).alloc (Nat.le_refl _) _; have t2 := cell_on hba z2; have t1 := cell_on hba z1; have t0 := cell_on hba z0; have hl2 := alloc_size hb2; have hs2 := HB2.out.size; have HO3 : Hid ((w2.alloc (.cells #[.int .i64 n1, .int .i64 n2, .int .i64 n3, .int .i64 n4] 46)).ownsRow w.heap.size 40 3 (.slice pv qs.length cv) qs.length (cellsP qs)) := HO2.out.alloc _; have HB3 : Hid (Below w.heap.size w (w2.alloc (.cells #[.int .i64 n1, .int .i64 n2, .int .i64 n3, .int .i64 n4] 46))) := HB2.out.alloc HB2.out.size _; clear hb2 hba)
                | (have _ := HO4; go_at_call 35; refine (CP2.out _).mono ?_; rintro e w6 ⟨rfl, hb6⟩; have HB6 : Hid (Below w.heap.size w w6) := HB4.out.trans (hb6.mono HB4.out.size); have HO6 : Hid (w6.ownsRow w.heap.size 40 3 (.slice pv qs.length cv) qs.length (cellsP qs)) := own_below HO4.out hb6; have p2 := cell_on hb6 q2; have hs6 := HB6.out.size; clear hb6)
                | (go_at_call 35; refine (CP1.out _).mono ?_; rintro e w4 ⟨rfl, hb4⟩; have HB4 : Hid (Below w.heap.size w w4) := HB3.out.trans (hb4.mono HB3.out.size); have HO4 : Hid (w4.ownsRow w.heap.size 40 3 (.slice pv qs.length cv) qs.length (cellsP qs)) := own_below HO3.out hb4; have q2 := cell_on hb4 t2; have q1 := cell_on hb4 t1; have hs4 := HB4.out.size; have hs24 := hb4.size; rw [World.size_alloc] at hs24; clear hb4)
                | fail)
              go_roundw
              case rel => exact ⟨k + 1, M, by go_num, rfl, qs, HO6.out, by omega, HQS.out, hM0, hM1, by omega, by omega, HB6.out⟩
              case measure => simp [intOf]; omega
    · have hexit : k = n ∨ (k < n ∧ k = 30) := by omega
      have hql61 : qs.length ≤ 60 := by omega
      by_cases hMp : 0 < M
      · rcases hexit with rfl | ⟨h1, rfl⟩
        · have hex : ¬ (k : Int) < (k : Int) := by omega
          go_wp2_with (first
            | (at_builtin; refine wpList_append_own _ rfl _ _ 23 rfl w.heap.size 40 i0 (.agg #[.int .i64 0, .int .i64 0, .string ⟨#[]⟩]) 3 32 Tryd.underlying23 hi hz0 hz1 hz2 rfl (by decide) _ _ _ rfl (HOW.out.alloc _) ⟨wr.heap.size, 0, none⟩ 1 1 (partCells ⟨M, 0, []⟩) rfl rfl (cells_newN _ _ (by first | rfl | simp) _ _) (partCells_one _) (by unfold maxLen; omega) (by omega) (by first | omega | (simp; omega)) ?_)
            | fail)
          intro v' w' hown' hg' _
          obtain ⟨p', c', rfl⟩ := own_slice hown'
          have HBW' : Hid (Below w.heap.size w w') := (HWR.out.alloc HWR.out.size _).grown hg' (by simp; omega) fun k hk => (HOW.out.lt k hk).1
          have HO' : Hid (w'.ownsRow w.heap.size 40 3 (.slice p' (qs.length + 1) c') (qs.length + 1) (cellsP qs ++ partCells ⟨M, 0, []⟩)) := hown'
          clear hown' hg'
          go_wp2
          go_ret
          refine ⟨_, qs ++ [⟨M, 0, []⟩], rfl, ?_, by simp; omega, small_snoc HQS.out ⟨hM0, hM1, Int.le_refl _, hN0, by simp⟩, HBW'.out⟩
          rw [cellsP_snoc, List.length_append]; exact HO'.out
        · have hex : (30 : Int) < (n : Int) := by omega
          go_wp2_with (first
            | (at_builtin; refine wpList_append_own _ rfl _ _ 23 rfl w.heap.size 40 i0 (.agg #[.int .i64 0, .int .i64 0, .string ⟨#[]⟩]) 3 32 Tryd.underlying23 hi hz0 hz1 hz2 rfl (by decide) _ _ _ rfl (HOW.out.alloc _) ⟨wr.heap.size, 0, none⟩ 1 1 (partCells ⟨M, 0, []⟩) rfl rfl (cells_newN _ _ (by first | rfl | simp) _ _) (partCells_one _) (by unfold maxLen; omega) (by omega) (by first | omega | (simp; omega)) ?_)
            | fail)
          intro v' w' hown' hg' _
          obtain ⟨p', c', rfl⟩ := own_slice hown'
          have HBW' : Hid (Below w.heap.size w w') := (HWR.out.alloc HWR.out.size _).grown hg' (by simp; omega) fun k hk => (HOW.out.lt k hk).1
          have HO' : Hid (w'.ownsRow w.heap.size 40 3 (.slice p' (qs.length + 1) c') (qs.length + 1) (cellsP qs ++ partCells ⟨M, 0, []⟩)) := hown'
          clear hown' hg'
          go_wp2
          go_ret
          refine ⟨_, qs ++ [⟨M, 0, []⟩], rfl, ?_, by simp; omega, small_snoc HQS.out ⟨hM0, hM1, Int.le_refl _, hN0, by simp⟩, HBW'.out⟩
          rw [cellsP_snoc, List.length_append]; exact HO'.out
      · rcases hexit with rfl | ⟨h1, rfl⟩
        · have hex : ¬ (k : Int) < (k : Int) := by omega
          go_wp2
          go_ret
          first | exact ⟨_, qs, rfl, HOW.out, by omega, HQS.out, HWR.out⟩ | exact ⟨_, rfl, qs, HOW.out, by omega, HQS.out, HWR.out⟩
        · have hex : (30 : Int) < (n : Int) := by omega
          go_wp2
          go_ret
          first | exact ⟨_, qs, rfl, HOW.out, by omega, HQS.out, HWR.out⟩ | exact ⟨_, rfl, qs, HOW.out, by omega, HQS.out, HWR.out⟩
end Go.Proofs.YtedonckeomccpabDoor

namespace Go.Proofs
open Go.Shelf
def Tryd.laysM316_ren : Go.Shelf.Ren := ⟨fun | 316 => 68 | n => n, fun | 9 => 9 | 3 => 3 | 4 => 4 | 37 => 62 | 0 => 0 | 127 => 84 | 5 => 5 | n => n, fun | n => n⟩
theorem Tryd.laysM316 : Go.Proofs.LaysM.n316 Tryd.prog Tryd.laysM316_ren := {
  mixed := by kernel_rfl
  f316 := Tryd.func68.trans (congrArg some (by kernel_rfl))
  t0 := Tryd.underlying0
  a0 := Tryd.isAgg0
  z0 := Tryd.sizeOf0
  v0 := Tryd.zeroValue0
  t3 := Tryd.underlying3
  a3 := Tryd.isAgg3
  z3 := Tryd.sizeOf3
  v3 := Tryd.zeroValue3
  t4 := Tryd.underlying4
  a4 := Tryd.isAgg4
  z4 := Tryd.sizeOf4
  v4 := Tryd.zeroValue4
  t9 := Tryd.underlying9
  a9 := Tryd.isAgg9
  z9 := Tryd.sizeOf9
  v9 := Tryd.zeroValue9
  t37 := Tryd.underlying62
  a37 := Tryd.isAgg62
  z37 := Tryd.sizeOf62
  v37 := Tryd.zeroValue62
  t127 := Tryd.underlying84
  a127 := Tryd.isAgg84
  z127 := Tryd.sizeOf84
  v127 := Tryd.zeroValue84
  t5 := Tryd.underlying5
  a5 := Tryd.isAgg5
  z5 := Tryd.sizeOf5
  v5 := Tryd.zeroValue5
  i0 := by kernel_rfl
  i3 := by kernel_rfl
  i4 := by kernel_rfl
  i5 := by kernel_rfl
  i9 := by kernel_rfl
  i37 := by kernel_rfl
  i127 := by kernel_rfl }
open Go.RowKit in
theorem Tryd.stringslite_Clone (s : ByteArray) (w : World) (hlim : s.size ≤ 281474976710656) :
    Calls Tryd.prog 68 #[.string s] w fun e w' => e = .returned (.string s) ∧ Below w.heap.size w w' := Any.stringslite_Clone Tryd.laysM316 s w hlim
end Go.Proofs

namespace Go.Proofs.YtedonckeomccpabDoor
open Go.RowKit
set_option linter.unusedVariables false
attribute [local go_sem] Oper.semAt_some

/-- A part in bytes, over the runes that are yet to come. -/
def byt1 (rs : List Nat) (q : Pt) : Pt := if 0 < q.keep then ⟨C1 (rs.take (lenP q).toNat), 0, []⟩ else if 0 < q.drop then ⟨0, C1 (rs.take (lenP q).toNat), []⟩ else ⟨0, 0, q.put⟩
def bytQ : List Nat → List Pt → List Pt
  | _, [] => []
  | rs, q :: qs => byt1 rs q :: bytQ (rs.drop (lenP q).toNat) qs
theorem bytQ_len : ∀ (qs : List Pt) (rs : List Nat), (bytQ rs qs).length = qs.length
  | [], _ => rfl
  | q :: qs, rs => by simp [bytQ, bytQ_len qs]
theorem bytQ_take : ∀ (qs : List Pt) (rs : List Nat) (k : Nat) (hk : k < qs.length), (∀ q ∈ qs, 0 ≤ lenP q) → (bytQ rs qs).take (k + 1) = (bytQ rs qs).take k ++ [byt1 (rs.drop (longP (qs.take k)).toNat) qs[k]]
  | [], rs, k, hk, _ => by simp at hk
  | q :: qs, rs, 0, hk, _ => by simp [bytQ, longP]
  | q :: qs, rs, k + 1, hk, h => by
    have h1 := h q (by simp)
    have h2 : ∀ (l : List Pt), (∀ q ∈ l, 0 ≤ lenP q) → 0 ≤ longP l := by
      intro l hl
      induction l with
      | nil => simp [longP]
      | cons p l ih =>
        have := hl p (by simp)
        have := ih fun x hx => hl x (by simp [hx])
        simp only [longP, List.map_cons, List.sum_cons] at this ⊢
        omega
    have h3 := h2 (qs.take k) fun x hx => h x (by simp [List.mem_of_mem_take hx])
    have ih := bytQ_take qs (rs.drop (lenP q).toNat) k (by simpa using hk) fun x hx => h x (by simp [hx])
    have e : longP ((q :: qs).take (k + 1)) = lenP q + longP (qs.take k) := by simp [longP]
    rw [e, bytQ, List.take_succ_cons, List.take_succ_cons, ih, List.drop_drop, show (lenP q + longP (qs.take k)).toNat = (lenP q).toNat + (longP (qs.take k)).toNat by omega]
    simp

theorem clone_any (u : List UInt8) (hu : u.length ≤ 1000000) (w : World) : Calls Tryd.prog 51 #[.string ⟨u.toArray⟩] w fun e w' => e = .returned (.string ⟨u.toArray⟩) ∧ Below w.heap.size w w' := by
  have c := Tryd.stringslite_Clone ⟨u.toArray⟩ w (by simp [ByteArray.size]; omega)
  have C : Hid _ := c
  clear c
  go_enter Tryd.func51, Tryd.ntmps51
  go_wp2_with (first | (go_at_call 68; refine Calls.mono C.out ?_; rintro e w1 ⟨rfl, hb1⟩) | fail)
  go_ret
  exact ⟨rfl, hb1⟩

theorem sum_pos {l : List Pt} (hl : ∀ q ∈ l, 0 ≤ lenP q) : 0 ≤ longP l := by
  induction l with
  | nil => simp [longP]
  | cons p l ih =>
    have := hl p (by simp)
    have := ih fun x hx => hl x (by simp [hx])
    simp only [longP, List.map_cons, List.sum_cons] at this ⊢
    omega
theorem chk2_long : ∀ {ps : List Pt} {N : Int}, (∀ q ∈ ps, 0 ≤ lenP q) → chk2 ps N = 0 → longP ps = N
  | [], N, _, h => by
    unfold chk2 at h
    split at h
    · rename_i e; simp [longP, e]
    · cases h
  | p :: ps, N, hl, h => by
    unfold chk2 at h
    split at h
    · cases h
    · have := chk2_long (fun q hq => hl q (by simp [hq])) h
      have e : longP (p :: ps) = lenP p + longP ps := by simp [longP]
      rw [e, this]; unfold lenP; omega
theorem chkE_parts {ps : List Pt} {N : Int} (h : chkE ps N = 0) : (∀ p ∈ ps, oneB p = true ∧ (scan p.put).2 = true) ∧ longP ps = N ∧ ∀ q ∈ ps, 0 ≤ lenP q := by
  unfold chkE at h
  split at h
  · rename_i h1
    have h2 := chk1_ones h1
    have h3 : ∀ q ∈ ps, 0 ≤ lenP q := fun q hq => by
      have := (one_sound (h2 q hq).1).1
      unfold soundP at this; unfold lenP; omega
    exact ⟨h2, chk2_long h3 h, h3⟩
  · rename_i h1; exact absurd h h1
theorem C1_take_drop (rs : List Nat) (i j : Nat) : C1 (rs.take (i + j)) = C1 (rs.take i) + C1 ((rs.drop i).take j) := by
  rw [List.take_add, C1_append]
theorem C1_take_le (rs : List Nat) (i : Nat) : C1 (rs.take i) ≤ C1 rs := by
  have e : C1 rs = C1 (rs.take i) + C1 (rs.drop i) := by rw [← C1_append, List.take_append_drop]
  have := C1_pos (rs.drop i)
  omega

theorem stp_grown {W W' : World} {s b : Nat} {u v a h : Int} {row : Option Nat} (k : stp W s b u v a h) (hg : W.grownBy W' row) (hr : ∀ j, row = some j → s + 5 ≤ j) : stp W' s b u v a h := by
  have l0 := World.block_lt_of_cell? W _ k.r
  have l1 := World.block_lt_of_cell? W _ k.u
  have l2 := World.block_lt_of_cell? W _ k.v
  have l3 := World.block_lt_of_cell? W _ k.a
  have l4 := World.block_lt_of_cell? W _ k.h
  have nb : ∀ j, j < s + 5 → some j ≠ row := fun j hj e => by have := hr j e.symm; omega
  have e0 := hg.block s l0 (nb s (by omega))
  have e1 := hg.block (s + 1) l1 (nb (s + 1) (by omega))
  have e2 := hg.block (s + 2) l2 (nb (s + 2) (by omega))
  have e3 := hg.block (s + 3) l3 (nb (s + 3) (by omega))
  have e4 := hg.block (s + 4) l4 (nb (s + 4) (by omega))
  exact ⟨(cellOn e0 0).trans k.r, (cellOn e1 0).trans k.u, (cellOn e2 0).trans k.v, (cellOn e3 0).trans k.a, (frozenOn e3 0).trans k.af, (cellOn e4 0).trans k.h, (frozenOn e4 0).trans k.hf⟩
theorem sz_le {w w2 : World} {o : Obj} (h : (w.alloc o).heap.size ≤ w2.heap.size) : w.heap.size + 1 ≤ w2.heap.size := by
  rw [World.size_alloc] at h
  exact h
/-- Where the loop stands. -/
def brI (ws : World) (b : Nat) (rs : List Nat) (qs : List Pt) (k : Nat) (v : Value) (wr : World) : Prop :=
  k ≤ qs.length ∧ wr.ownsRow (ws.heap.size + 5) 40 3 v k (cellsP ((bytQ rs qs).take k)) ∧ stp wr ws.heap.size b 3 1 (longP (qs.take k)) (C1 (rs.take (longP (qs.take k)).toNat)) ∧ Below ws.heap.size ws wr ∧ ws.heap.size + 5 ≤ wr.heap.size

set_option maxRecDepth 100000 in
set_option maxHeartbeats 8000000 in
theorem turn_fine (b : Nat) (rs : List Nat) (qs : List Pt) (v : Value) (w : World) (hT : Lib.Utf8Tabs 0 1 w) (hR : isRope w b rs) (hr : opAt w v qs) (hwf : ∀ q ∈ qs, wfP q) (hl : qs.length ≤ 1000) (hpl : ∀ q ∈ qs, q.put.length ≤ 1000000) (hz : C1 rs ≤ 1000000) (hc : chkE qs (rs.length : Int) = 0) (hbw : b < w.heap.size) :
    Calls Tryd.prog 33 #[.pointer (some ⟨b, 0, none⟩), .int .i64 3, .int .i64 1, v] w fun e w' => ∃ v', e = .returned (.tuple #[v', .nilIface]) ∧ opAt w' v' (bytQ rs qs) ∧ Below w.heap.size w w' := by
  obtain ⟨hp1, hp2, hp3⟩ := chkE_parts hc
  have hrl : (rs.length : Int) ≤ C1 rs := by have := C3_le rs; unfold C3 at this; omega
  have cV : Hid (Calls Tryd.prog 48 #[.pointer (some ⟨b, 0, none⟩), .int .i64 3, .int .i64 1, .int .i64 0] w fun e w' => e = .returned (.tuple #[.int .i64 0, .nilIface]) ∧ Below w.heap.size w w') := by
    have := convert_any b rs 3 1 0 (.inr (.inr rfl)) (.inl rfl) (Int.le_refl _) (by_pos 3 rs) w hT hR (by omega) [] (find_zero 3 rs) (by_nil 3)
    rw [by_nil] at this
    exact this
  have cN : Hid (∀ wx, Below w.heap.size w wx → Calls Tryd.prog 16 #[.pointer (some ⟨b, 0, none⟩)] wx fun e w' => e = .returned (cntV rs) ∧ Below wx.heap.size wx w') := fun wx hb => ropecounts_any b rs wx (isRope_below hR hb)
  have cI : Hid (∀ wx, Calls Tryd.prog 49 #[cntV rs, .int .i64 3] wx fun e w' => e = .returned (.int .i64 (rs.length : Int)) ∧ Below wx.heap.size wx w') := fun wx => In_any 3 rs wx
  have cK : Hid (∀ wx, Below w.heap.size w wx → Calls Tryd.prog 38 #[v, .int .i64 (rs.length : Int)] wx fun e w' => e = .returned .nilIface ∧ Below wx.heap.size wx w') := fun wx hb => by
    have := Check_any v qs (rs.length : Int) wx (Go.Proofs.Utf8Tabs_below hT hb) (opAt_below hr hb (Nat.le_refl _)) hwf (by omega) (by omega)
    rw [hc] at this
    exact this
  have cS : Hid (∀ wx, Calls Tryd.prog 50 #[.pointer (some ⟨b, 0, none⟩), .int .i64 3, .int .i64 1] wx fun e w' => e = .returned (stepsV wx.heap.size) ∧ stp w' wx.heap.size b 3 1 0 0 ∧ Below wx.heap.size wx w' ∧ w'.heap.size = wx.heap.size + 5) := fun wx => bsteps_any b 3 1 wx
  have HRW : Hid (isRope w b rs) := hR
  have HTW : Hid (Lib.Utf8Tabs 0 1 w) := hT
  have HOP : Hid (opAt w v qs) := hr
  have HP1 : Hid (∀ p ∈ qs, oneB p = true ∧ (scan p.put).2 = true) := hp1
  have HP2 : Hid (longP qs = rs.length) := hp2
  have HP3 : Hid (∀ q ∈ qs, 0 ≤ lenP q) := hp3
  have HPL : Hid (∀ q ∈ qs, q.put.length ≤ 1000000) := hpl
  obtain ⟨p, c, rfl, r1, r2, r3⟩ := hr
  obtain ⟨n, hn⟩ : ∃ n, qs.length = n := ⟨_, rfl⟩
  have HN : Hid (qs.length = n) := hn
  rw [hn] at r1 hl cK ⊢
  obtain ⟨i0, hi, hz0, hz1, hz2⟩ := info_parts info_part
  obtain ⟨RL, hRL⟩ : ∃ RL : Int, (rs.length : Int) = RL := ⟨_, rfl⟩
  rw [hRL] at cI cK hrl
  have HRL : Hid ((rs.length : Int) = RL) := hRL
  unfold cntV at cN cI
  unfold stepsV at cS
  clear hT hR hwf hp1 hp2 hp3 hpl hc hn r3 hRL
  unfold maxLen at r2
  go_enter Tryd.func33, Tryd.ntmps33
  go_wp2_with (first
    | (go_at_call 48; refine Calls.mono cV.out ?_; rintro e w1 ⟨rfl, hb1⟩; have HB1 : Hid (Below w.heap.size w w1) := hb1; clear hb1)
    | (go_at_call 16; refine (cN.out _ HB1.out).mono ?_; rintro e w2 ⟨rfl, hb2⟩; have HB2 : Hid (Below w.heap.size w w2) := HB1.out.trans (hb2.mono HB1.out.size); clear hb2)
    | (go_at_call 49; refine (cI.out _).mono ?_; rintro e w3 ⟨rfl, hb3⟩; have HB3 : Hid (Below w.heap.size w w3) := HB2.out.trans (hb3.mono HB2.out.size); clear hb3)
    | (go_at_call 38; refine (cK.out _ HB3.out).mono ?_; rintro e w4 ⟨rfl, hb4⟩; have HB4 : Hid (Below w.heap.size w w4) := HB3.out.trans (hb4.mono HB3.out.size); clear hb4)
    | (go_at_call 50; refine (cS.out _).mono ?_; rintro e w5 ⟨rfl, hs5, hb5, hz5⟩; have HB5 : Hid (Below w4.heap.size w4 w5) := hb5; have HS5 : Hid (stp w5 w4.heap.size b 3 1 0 0) := hs5; clear hs5 hb5)
    | (at_make; refine wpList_make_own _ rfl _ _ 23 rfl (w4.heap.size + 5) 40 i0 (.agg #[.int .i64 0, .int .i64 0, .string ⟨#[]⟩]) 3 Tryd.underlying23 hi hz0 hz1 .i64 .i64 n n rfl rfl rfl (by rw [hz2]; omega) (by unfold maxLen; omega) (by omega) ?_)
    | fail)
  intro w6 hown6 hg6
  have HO6 : Hid (w6.ownsRow (w4.heap.size + 5) 40 3 (.slice (some ⟨w4.heap.size + 5, 0, none⟩) 0 n) 0 []) := hown6
  have HB6 : Hid (Below w4.heap.size w4 w6) := HB5.out.grown hg6 HB5.out.size fun k hk => by cases hk
  have HS6 : Hid (stp w6 w4.heap.size b 3 1 0 0) := stp_grown HS5.out hg6 fun k hk => by cases hk
  have hs6 := hg6.size
  rw [hz5] at hs6
  clear hown6 hg6 cV cN cI cK cS HB1 HB2 HB3 HB5 HS5
  go_wp2
  go_loopw [14, 47] (fun v14 i wr => ∃ (k : Nat), i = .int .i64 k ∧ brI w4 b rs qs k v14 wr) (fun _ i _ => n - (intOf i).toNat)
  case atStart =>
    refine ⟨0, rfl, Nat.zero_le _, by rw [List.take_zero]; exact HO6.out, ?_, HB6.out, hs6⟩
    have e1 : longP (qs.take 0) = 0 := by simp [longP]
    have e2 : C1 (rs.take (0 : Int).toNat) = 0 := rfl
    rw [e1, e2]
    exact HS6.out
  case round =>
    obtain ⟨k, rfl, hk, hown, hst, hbw', hsz0⟩ := hrel
    obtain ⟨pv, cv, rfl⟩ := own_slice hown
    clear HO6 HB6 HS6
    by_cases hlt : k < n
    · have hkr : k < qs.length := by rw [HN.out]; exact hlt
      have hne : qs ≠ [] := by intro e; rw [e] at hkr; exact absurd hkr (Nat.not_lt_zero _)
      have HBW0 : Hid (Below w.heap.size w wr) := HB4.out.trans (hbw'.mono HB4.out.size)
      obtain ⟨p0, c0, hv, _, _, hcell⟩ := HOP.out
      obtain ⟨b0, o, rfl, hb0, hcell⟩ := hcell hne
      obtain ⟨f0, f1, f2⟩ := hcell k qs[k] (List.getElem?_eq_getElem hkr)
      have g0 := (HBW0.out.cell (p := ⟨b0, o + k * 3, none⟩) hb0).trans f0
      have g1 := (HBW0.out.cell (p := ⟨b0, o + k * 3 + 1, none⟩) hb0).trans f1
      have g2 := (HBW0.out.cell (p := ⟨b0, o + k * 3 + 2, none⟩) hb0).trans f2
      obtain rfl : p = some ⟨b0, o, none⟩ := by injection hv
      clear hv hcell f0 f1 f2 hne
      have hqm : qs[k] ∈ qs := List.getElem_mem _
      have hsnd := (one_sound (HP1.out _ hqm).1).1
      have hplq := HPL.out _ hqm
      have hts : qs.take (k + 1) = qs.take k ++ [qs[k]] := List.take_succ_eq_append_getElem hkr
      have hA1' : longP (qs.take (k + 1)) = longP (qs.take k) + lenP qs[k] := by rw [hts, long_append]; simp [longP]
      have hA0 : 0 ≤ longP (qs.take k) := sum_pos fun q hq => HP3.out q (List.mem_of_mem_take hq)
      have hAN : longP (qs.take (k + 1)) ≤ RL := by
        have e2 : longP qs = longP (qs.take (k + 1)) + longP (qs.drop (k + 1)) := by rw [← long_append, List.take_append_drop]
        have := sum_pos fun q hq => HP3.out q (List.mem_of_mem_drop (i := k + 1) hq)
        have := HP2.out; have := HRL.out
        omega
      have htk := bytQ_take qs rs k hkr HP3.out
      generalize qs[k] = q at *
      obtain ⟨K, D, U⟩ := q
      obtain ⟨A, hA⟩ : ∃ A, longP (qs.take k) = A := ⟨_, rfl⟩
      rw [hA] at hst hA1' hA0 htk
      have hld : lenP ⟨K, D, U⟩ = K + D := rfl
      rw [hld] at hA1'
      obtain ⟨L, hL⟩ : ∃ L, (bytQ rs qs).take k = L := ⟨_, rfl⟩
      rw [hL] at hown htk
      have HTK : Hid ((bytQ rs qs).take (k + 1) = L ++ [byt1 (rs.drop A.toNat) ⟨K, D, U⟩]) := htk
      have HOW : Hid ((wr.alloc (.cells #[.int .i64 K, .int .i64 D, .string ⟨U.toArray⟩] 40)).ownsRow (w4.heap.size + 5) 40 3 (.slice pv k cv) k (cellsP L)) := hown.alloc _
      have HBW : Hid (Below w4.heap.size w4 (wr.alloc (.cells #[.int .i64 K, .int .i64 D, .string ⟨U.toArray⟩] 40))) := hbw'.alloc hbw'.size _
      obtain ⟨s1, s2⟩ := hsnd
      have s1 : 0 ≤ K := s1
      have s2 : 0 ≤ D := s2
      obtain ⟨X, hX⟩ : ∃ X, rs.take (A + (K + D)).toNat = X := ⟨_, rfl⟩
      have hfind : find (reachesBy 3 (A + (K + D))) [] rs = X := by
        have := find_runes rs [] (A + (K + D)) (by simp; omega) (by have := HRL.out; simp; omega)
        rw [this, ← hX]; simp
      have hX3 : by_ 3 X = A + (K + D) := by
        show ((X.length : Nat) : Int) = _
        rw [← hX, List.length_take]; have := HRL.out; omega
      have hXle : C1 X ≤ C1 rs := by rw [← hX]; exact C1_take_le _ _
      have hsum : C1 X = C1 (rs.take A.toNat) + C1 ((rs.drop A.toNat).take (K + D).toNat) := by
        rw [← hX, show (A + (K + D)).toNat = A.toNat + (K + D).toNat by omega, C1_take_drop]
      have hp0 := C1_pos (rs.take A.toNat)
      have hp1 := C1_pos ((rs.drop A.toNat).take (K + D).toNat)
      have hw0 : IntKind.i64.wrap (K + D) = K + D := by rw [IntKind.wrap_i64]; omega
      have hbx : Below wr.heap.size wr (wr.alloc (.cells #[.int .i64 K, .int .i64 D, .string ⟨U.toArray⟩] 40)) := (Below.refl _ _).alloc (Nat.le_refl _) _
      have cX := steps1_any w4.heap.size b rs X 3 1 A (C1 (rs.take A.toNat)) (K + D) _ (hst.below hbx) (.inr (.inr rfl)) (.inl rfl) (by omega) (by show _ ≤ ((rs.length : Nat) : Int); have := HRL.out; omega) hfind hX3
        (Go.Proofs.Utf8Tabs_below HTW.out (HB4.out.trans (HBW.out.mono HB4.out.size))) (isRope_below HRW.out (HB4.out.trans (HBW.out.mono HB4.out.size))) (by have := HB4.out.size; omega) (by omega) hp0 (by show _ ≤ C1 X; omega) (by show C1 X ≤ _; omega) (by show ((rs.length : Nat) : Int) ≤ _; have := HRL.out; omega)
        (fun W' hW' => ⟨Go.Proofs.Utf8Tabs_below HTW.out (HB4.out.trans ((HBW.out.trans hW').mono HB4.out.size)), isRope_below HRW.out (HB4.out.trans ((HBW.out.trans hW').mono HB4.out.size))⟩)
      have hdiff : by_ 1 X - C1 (rs.take A.toNat) = C1 ((rs.drop A.toNat).take (K + D).toNat) := by show C1 X - _ = _; omega
      have hby1 : by_ 1 X = C1 X := rfl
      rw [hdiff, hby1] at cX
      have CX : Hid _ := cX
      have HA1 : Hid (longP (qs.take (k + 1)) = A + (K + D)) := hA1'
      have HX1 : Hid (C1 (rs.take (A + (K + D)).toNat) = C1 X) := by show C1 _ = _; rw [hX]
      have x0 : (wr.alloc (.cells #[.int .i64 K, .int .i64 D, .string ⟨U.toArray⟩] 40)).cell? ⟨wr.heap.size, 0, none⟩ = some (.int .i64 K) := by simp [go_sem]
      have x1 : (wr.alloc (.cells #[.int .i64 K, .int .i64 D, .string ⟨U.toArray⟩] 40)).cell? ⟨wr.heap.size, 1, none⟩ = some (.int .i64 D) := by simp [go_sem]
      have x2 : (wr.alloc (.cells #[.int .i64 K, .int .i64 D, .string ⟨U.toArray⟩] 40)).cell? ⟨wr.heap.size, 2, none⟩ = some (.string ⟨U.toArray⟩) := by simp [go_sem]
      have hne3 : wr.heap.size ≠ w4.heap.size + 3 := by omega
      have hne4 : wr.heap.size ≠ w4.heap.size + 4 := by omega
      have hltw : wr.heap.size < (wr.alloc (.cells #[.int .i64 K, .int .i64 D, .string ⟨U.toArray⟩] 40)).heap.size := by simp
      have hsz0 : w4.heap.size + 5 ≤ (wr.alloc (.cells #[.int .i64 K, .int .i64 D, .string ⟨U.toArray⟩] 40)).heap.size := by rw [World.size_alloc]; omega
      have hj : (k : Int) < (n : Int) := by omega
      obtain ⟨M, hM⟩ : ∃ M, C1 ((rs.drop A.toNat).take (K + D).toNat) = M := ⟨_, rfl⟩
      rw [hM] at CX hp1
      have HM : Hid (C1 ((rs.drop A.toNat).take (K + D).toNat) = M) := hM
      clear hown hst hbw' hX hfind hX3 hXle hsum hdiff hby1 cX hA1' htk hL hA hM hbx hAN hts hqm hkr hp0
      by_cases hK : 0 < K
      · have e1 : byt1 (rs.drop A.toNat) ⟨K, D, U⟩ = ⟨M, 0, []⟩ := by unfold byt1; rw [if_pos hK]; show (⟨C1 _, 0, []⟩ : Pt) = _; rw [← HM.out]; rfl
        rw [e1] at HTK
        go_wp2_with (first
          | (go_at_call 67; refine Calls.mono CX.out ?_; rintro e w7 ⟨rfl, hs7, hb7, hz7, ho7, hk7⟩; have HS7 : Hid (stp w7 w4.heap.size b 3 1 (A + (K + D)) (C1 X)) := hs7; have HB7 : Hid (Below w4.heap.size w4 w7) := HBW.out.trans hb7; have HO7 : Hid (w7.ownsRow (w4.heap.size + 5) 40 3 (.slice pv k cv) k (cellsP L)) := ho7 _ _ _ _ _ _ (Nat.le_refl _) hsz0 HOW.out; have y0 := (cellOnF (hk7 wr.heap.size hne3 hne4 hltw) 0).trans x0; have y1 := (cellOnF (hk7 wr.heap.size hne3 hne4 hltw) 1).trans x1; have y2 := (cellOnF (hk7 wr.heap.size hne3 hne4 hltw) 2).trans x2; have hs57 := sz_le hz7; clear hs7 hb7 ho7 hk7)
          | (at_builtin; refine wpList_append_own _ rfl _ _ 23 rfl (w4.heap.size + 5) 40 i0 (.agg #[.int .i64 0, .int .i64 0, .string ⟨#[]⟩]) 3 32 Tryd.underlying23 hi hz0 hz1 hz2 rfl (by decide) _ _ _ rfl (HO7.out.alloc _) ⟨w7.heap.size, 0, none⟩ 1 1 (partCells ⟨M, 0, []⟩) rfl rfl (cells_newN _ _ (by first | rfl | simp) _ _) (partCells_one _) (by unfold maxLen; omega) (by omega) (by first | omega | (simp; omega)) ?_)
          | fail)
        intro v' w' hown' hg' _
        obtain ⟨p', c', rfl⟩ := own_slice hown'
        have HB9 : Hid (Below w4.heap.size w4 w') := (HB7.out.alloc HB7.out.size _).grown hg' (by simp; omega) fun k hk => by have := (HO7.out.lt k hk).1; omega
        have HS9 : Hid (stp w' w4.heap.size b 3 1 (A + (K + D)) (C1 X)) := stp_grown (HS7.out.below ((Below.refl _ _).alloc (Nat.le_refl _) _)) hg' fun k hk => (HO7.out.lt k hk).1
        have HO9 : Hid (w'.ownsRow (w4.heap.size + 5) 40 3 (.slice p' (k + 1) c') (k + 1) (cellsP L ++ partCells ⟨M, 0, []⟩)) := hown'
        have hs9 := hg'.size
        rw [World.size_alloc] at hs9
        clear hown' hg'
        go_wp2
        go_roundw
        case rel =>
          refine ⟨k + 1, by go_num, ?_, ?_, ?_, HB9.out, by omega⟩
          · have := HN.out; omega
          · rw [HTK.out]
            rw [cellsP_snoc]
            have e := HO9.out
            exact e
          · rw [HA1.out, HX1.out]; exact HS9.out
        case measure => simp [intOf]; omega

      · by_cases hD : 0 < D
        · have e1 : byt1 (rs.drop A.toNat) ⟨K, D, U⟩ = ⟨0, M, []⟩ := by unfold byt1; rw [if_neg hK, if_pos hD]; show (⟨0, C1 _, []⟩ : Pt) = _; rw [← HM.out]; rfl
          rw [e1] at HTK
          go_wp2_with (first
            | (go_at_call 67; refine Calls.mono CX.out ?_; rintro e w7 ⟨rfl, hs7, hb7, hz7, ho7, hk7⟩; have HS7 : Hid (stp w7 w4.heap.size b 3 1 (A + (K + D)) (C1 X)) := hs7; have HB7 : Hid (Below w4.heap.size w4 w7) := HBW.out.trans hb7; have HO7 : Hid (w7.ownsRow (w4.heap.size + 5) 40 3 (.slice pv k cv) k (cellsP L)) := ho7 _ _ _ _ _ _ (Nat.le_refl _) hsz0 HOW.out; have y0 := (cellOnF (hk7 wr.heap.size hne3 hne4 hltw) 0).trans x0; have y1 := (cellOnF (hk7 wr.heap.size hne3 hne4 hltw) 1).trans x1; have y2 := (cellOnF (hk7 wr.heap.size hne3 hne4 hltw) 2).trans x2; have hs57 := sz_le hz7; clear hs7 hb7 ho7 hk7)
            | (at_builtin; refine wpList_append_own _ rfl _ _ 23 rfl (w4.heap.size + 5) 40 i0 (.agg #[.int .i64 0, .int .i64 0, .string ⟨#[]⟩]) 3 32 Tryd.underlying23 hi hz0 hz1 hz2 rfl (by decide) _ _ _ rfl (HO7.out.alloc _) ⟨w7.heap.size, 0, none⟩ 1 1 (partCells ⟨0, M, []⟩) rfl rfl (cells_newN _ _ (by first | rfl | simp) _ _) (partCells_one _) (by unfold maxLen; omega) (by omega) (by first | omega | (simp; omega)) ?_)
            | fail)
          intro v' w' hown' hg' _
          obtain ⟨p', c', rfl⟩ := own_slice hown'
          have HB9 : Hid (Below w4.heap.size w4 w') := (HB7.out.alloc HB7.out.size _).grown hg' (by simp; omega) fun k hk => by have := (HO7.out.lt k hk).1; omega
          have HS9 : Hid (stp w' w4.heap.size b 3 1 (A + (K + D)) (C1 X)) := stp_grown (HS7.out.below ((Below.refl _ _).alloc (Nat.le_refl _) _)) hg' fun k hk => (HO7.out.lt k hk).1
          have HO9 : Hid (w'.ownsRow (w4.heap.size + 5) 40 3 (.slice p' (k + 1) c') (k + 1) (cellsP L ++ partCells ⟨0, M, []⟩)) := hown'
          have hs9 := hg'.size
          rw [World.size_alloc] at hs9
          clear hown' hg'
          go_wp2
          go_roundw
          case rel =>
            refine ⟨k + 1, by go_num, ?_, ?_, ?_, HB9.out, by omega⟩
            · have := HN.out; omega
            · rw [HTK.out]
              rw [cellsP_snoc]
              have e := HO9.out
              exact e
            · rw [HA1.out, HX1.out]; exact HS9.out
          case measure => simp [intOf]; omega

        · have e1 : byt1 (rs.drop A.toNat) ⟨K, D, U⟩ = ⟨0, 0, U⟩ := by unfold byt1; rw [if_neg hK, if_neg hD]
          rw [e1] at HTK
          have CL : Hid (∀ wx, Calls Tryd.prog 51 #[.string ⟨U.toArray⟩] wx fun e w' => e = .returned (.string ⟨U.toArray⟩) ∧ Below wx.heap.size wx w') := fun wx => clone_any U hplq wx
          go_wp2_with (first
            | (go_at_call 67; refine Calls.mono CX.out ?_; rintro e w7 ⟨rfl, hs7, hb7, hz7, ho7, hk7⟩; have HS7 : Hid (stp w7 w4.heap.size b 3 1 (A + (K + D)) (C1 X)) := hs7; have HB7 : Hid (Below w4.heap.size w4 w7) := HBW.out.trans hb7; have HO7 : Hid (w7.ownsRow (w4.heap.size + 5) 40 3 (.slice pv k cv) k (cellsP L)) := ho7 _ _ _ _ _ _ (Nat.le_refl _) hsz0 HOW.out; have y0 := (cellOnF (hk7 wr.heap.size hne3 hne4 hltw) 0).trans x0; have y1 := (cellOnF (hk7 wr.heap.size hne3 hne4 hltw) 1).trans x1; have y2 := (cellOnF (hk7 wr.heap.size hne3 hne4 hltw) 2).trans x2; have hs57 := sz_le hz7; clear hs7 hb7 ho7 hk7)
            | (go_at_call 51; refine (CL.out _).mono ?_; rintro e w8 ⟨rfl, hb8⟩; have HB8 : Hid (Below w4.heap.size w4 w8) := HB7.out.trans (hb8.mono HB7.out.size); have HS8 : Hid (stp w8 w4.heap.size b 3 1 (A + (K + D)) (C1 X)) := HS7.out.below hb8; have HO8 : Hid (w8.ownsRow (w4.heap.size + 5) 40 3 (.slice pv k cv) k (cellsP L)) := own_below HO7.out hb8; have hs58 := hb8.size; clear hb8)
            | (at_builtin; refine wpList_append_own _ rfl _ _ 23 rfl (w4.heap.size + 5) 40 i0 (.agg #[.int .i64 0, .int .i64 0, .string ⟨#[]⟩]) 3 32 Tryd.underlying23 hi hz0 hz1 hz2 rfl (by decide) _ _ _ rfl (HO8.out.alloc _) ⟨w8.heap.size, 0, none⟩ 1 1 (partCells ⟨0, 0, U⟩) rfl rfl (cells_newN _ _ (by first | rfl | simp) _ _) (partCells_one _) (by unfold maxLen; omega) (by omega) (by first | omega | (simp; omega)) ?_)
            | fail)
          intro v' w' hown' hg' _
          obtain ⟨p', c', rfl⟩ := own_slice hown'
          have HB9 : Hid (Below w4.heap.size w4 w') := (HB8.out.alloc HB8.out.size _).grown hg' (by simp; omega) fun k hk => by have := (HO8.out.lt k hk).1; omega
          have HS9 : Hid (stp w' w4.heap.size b 3 1 (A + (K + D)) (C1 X)) := stp_grown (HS8.out.below ((Below.refl _ _).alloc (Nat.le_refl _) _)) hg' fun k hk => (HO8.out.lt k hk).1
          have HO9 : Hid (w'.ownsRow (w4.heap.size + 5) 40 3 (.slice p' (k + 1) c') (k + 1) (cellsP L ++ partCells ⟨0, 0, U⟩)) := hown'
          have hs9 := hg'.size
          rw [World.size_alloc] at hs9
          clear hown' hg'
          go_wp2
          go_roundw
          case rel =>
            refine ⟨k + 1, by go_num, ?_, ?_, ?_, HB9.out, by omega⟩
            · have := HN.out; omega
            · rw [HTK.out]
              rw [cellsP_snoc]
              have e := HO9.out
              exact e
            · rw [HA1.out, HX1.out]; exact HS9.out
          case measure => simp [intOf]; omega

    · obtain rfl : k = n := by have := HN.out; omega
      have e : (bytQ rs qs).take k = bytQ rs qs := List.take_of_length_le (by rw [bytQ_len, HN.out]; exact Nat.le_refl _)
      have eL : (bytQ rs qs).length = k := by rw [bytQ_len, HN.out]
      rw [e] at hown
      have HO : Hid (wr.ownsRow (w4.heap.size + 5) 40 3 (.slice pv k cv) k (cellsP (bytQ rs qs))) := hown
      have HB : Hid (Below w.heap.size w wr) := HB4.out.trans (hbw'.mono HB4.out.size)
      clear hown e hst hbw'
      have hop : opAt wr (.slice pv k cv) (bytQ rs qs) := by
        have := HO.out
        rw [← eL] at this ⊢
        exact opAt_own this
      have HOPW : Hid (opAt wr (.slice pv k cv) (bytQ rs qs)) := hop
      clear hop eL
      go_wp2
      go_ret2
      exact ⟨.slice pv k cv, rfl, HOPW.out, HB.out⟩
end Go.Proofs.YtedonckeomccpabDoor

namespace Go.Proofs.YtedonckeomccpabDoor
open Go.RowKit
set_option linter.unusedVariables false

theorem one_shapes {K D : Int} {U : List UInt8} (h : oneB ⟨K, D, U⟩ = true) : (D = 0 ∧ U = [] ∧ 0 < K) ∨ (K = 0 ∧ U = [] ∧ 0 < D) ∨ (K = 0 ∧ D = 0 ∧ U ≠ []) := by
  unfold oneB at h
  split at h
  · rename_i h1
    exact .inl ⟨h1.1, h1.2, of_decide_eq_true h⟩
  · rename_i h0
    split at h
    · rename_i h1
      exact .inr (.inl ⟨h1.1, h1.2, of_decide_eq_true h⟩)
    · have := of_decide_eq_true h
      exact .inr (.inr ⟨this.1, this.2, fun e => h0 ⟨this.2, e⟩⟩)
theorem none_shapes {K D : Int} {U : List UInt8} (h : oneB ⟨K, D, U⟩ = false) : (K ≠ 0 ∧ D ≠ 0 ∧ U ≠ []) ∨ (K ≠ 0 ∧ D ≠ 0 ∧ U = []) ∨ (K ≠ 0 ∧ D = 0 ∧ U ≠ []) ∨ (K = 0 ∧ D ≠ 0 ∧ U ≠ []) ∨ (K = 0 ∧ D = 0 ∧ U = []) ∨ (K < 0 ∧ D = 0 ∧ U = []) ∨ (K = 0 ∧ D < 0 ∧ U = []) := by
  unfold oneB at h
  by_cases h1 : K = 0 <;> by_cases h2 : D = 0 <;> by_cases h3 : U = [] <;> simp [h1, h2, h3] at h ⊢ <;> omega

end Go.Proofs.YtedonckeomccpabDoor

namespace Go.Proofs.YtedonckeomccpabDoor
open Go.RowKit
set_option linter.unusedVariables false

/-- The variables of the document's gathering: out in block a, put and drop behind it. -/
structure rgath (w : World) (a : Nat) (s : NSt) : Prop where
  out : ∃ p c, w.cell? ⟨a, 0, none⟩ = some (.slice p s.out.length c) ∧ w.ownsRow (a + 3) 40 3 (.slice p s.out.length c) s.out.length (cellsP s.out)
  outF : w.frozen? ⟨a, 0, none⟩ = false
  put : w.cell? ⟨a + 1, 0, none⟩ = some (.string ⟨s.put.toArray⟩)
  putF : w.frozen? ⟨a + 1, 0, none⟩ = false
  drop : w.cell? ⟨a + 2, 0, none⟩ = some (.int .i64 s.drop)
  dropF : w.frozen? ⟨a + 2, 0, none⟩ = false

theorem rgath_lt {w : World} {a : Nat} {s : NSt} (h : rgath w a s) : a + 2 < w.heap.size := World.block_lt_of_cell? w _ h.drop
theorem rgath_below {w w' : World} {a : Nat} {s : NSt} (h : rgath w a s) (hb : Below w.heap.size w w') : rgath w' a s := by
  have hlt := rgath_lt h
  obtain ⟨⟨p, c, h1, h2⟩, h3, h4, h6, h7, h8⟩ := h
  exact ⟨⟨p, c, (hb.cell (p := ⟨a, 0, none⟩) (by show a < _; omega)).trans h1, own_below h2 hb⟩, (hb.frozen (p := ⟨a, 0, none⟩) (by show a < _; omega)).trans h3,
    (hb.cell (p := ⟨a + 1, 0, none⟩) (by show a + 1 < _; omega)).trans h4, (hb.frozen (p := ⟨a + 1, 0, none⟩) (by show a + 1 < _; omega)).trans h6,
    (hb.cell (p := ⟨a + 2, 0, none⟩) (by show a + 2 < _; omega)).trans h7, (hb.frozen (p := ⟨a + 2, 0, none⟩) (by show a + 2 < _; omega)).trans h8⟩

theorem rgath_push {w w1 : World} {a : Nat} {s : NSt} {p : Option Addr} {c : Nat} {o : Obj} {v' : Value} {q : Pt} (h : rgath w a s) (hc : w.cell? ⟨a, 0, none⟩ = some (.slice p s.out.length c))
    (hown1 : w1.ownsRow (a + 3) 40 3 v' (s.out.length + 1) (cellsP s.out ++ partCells q)) (hg : (w.alloc o).grownBy w1 (Value.slice p s.out.length c).ownBlock) :
    rgath (w1.setCell ⟨a, 0, none⟩ v') a ⟨s.out ++ [q], s.put, s.drop⟩ ∧ Below a w (w1.setCell ⟨a, 0, none⟩ v') ∧ Below (a + 3) w w1 ∧ w1.cell? ⟨a, 0, none⟩ = some (.slice p s.out.length c) ∧ w1.frozen? ⟨a, 0, none⟩ = false := by
  have hlt := rgath_lt h
  obtain ⟨⟨p1, c1, h1, h2⟩, h3, h4, h6, h7, h8⟩ := h
  rw [hc] at h1
  simp only [Option.some.injEq, Value.slice.injEq, true_and] at h1
  obtain ⟨rfl, rfl⟩ := h1
  have hrow : ∀ k, (Value.slice p s.out.length c).ownBlock = some k → a + 3 ≤ k := fun k hk => (h2.lt k hk).1
  have hb1 : Below (a + 3) w w1 := ((Below.refl (a + 3) w).alloc (by omega) o).grown hg (by rw [World.size_alloc]; omega) hrow
  have hc1 : w1.cell? ⟨a, 0, none⟩ = some (.slice p s.out.length c) := by rw [hb1.cell (p := ⟨a, 0, none⟩) (by show a < _; omega)]; exact hc
  have hf1 : w1.frozen? ⟨a, 0, none⟩ = false := by rw [hb1.frozen (p := ⟨a, 0, none⟩) (by show a < _; omega)]; exact h3
  obtain ⟨pv, cv, rfl⟩ := own_slice hown1
  refine ⟨⟨⟨pv, cv, ?_, ?_⟩, ?_, ?_, ?_, ?_, ?_⟩, (hb1.mono (show a ≤ a + 3 by omega)).setCell (Nat.le_refl _) _, hb1, hc1, hf1⟩
  · show _ = some (Value.slice pv (s.out ++ [q]).length cv)
    rw [List.length_append]; exact World.cell?_setCell_same _ _ _ hc1
  · show World.ownsRow _ _ _ _ (.slice pv (s.out ++ [q]).length cv) (s.out ++ [q]).length (cellsP (s.out ++ [q]))
    rw [List.length_append, cellsP_snoc]; exact own_set hown1 (by omega) _
  · rw [World.frozen?_setCell]; exact hf1
  · rw [cell_set_ne (by omega)]; exact (hb1.cell (p := ⟨a + 1, 0, none⟩) (by show a + 1 < _; omega)).trans h4
  · rw [World.frozen?_setCell]; exact (hb1.frozen (p := ⟨a + 1, 0, none⟩) (by show a + 1 < _; omega)).trans h6
  · rw [cell_set_ne (by omega)]; exact (hb1.cell (p := ⟨a + 2, 0, none⟩) (by show a + 2 < _; omega)).trans h7
  · rw [World.frozen?_setCell]; exact (hb1.frozen (p := ⟨a + 2, 0, none⟩) (by show a + 2 < _; omega)).trans h8

theorem rgath_put {w : World} {a : Nat} {s : NSt} (h : rgath w a s) (q : List UInt8) : rgath (w.setCell ⟨a + 1, 0, none⟩ (.string ⟨q.toArray⟩)) a ⟨s.out, q, s.drop⟩ ∧ Below a w (w.setCell ⟨a + 1, 0, none⟩ (.string ⟨q.toArray⟩)) := by
  have hlt := rgath_lt h
  obtain ⟨⟨p, c, h1, h2⟩, h3, h4, h6, h7, h8⟩ := h
  refine ⟨⟨⟨p, c, ?_, own_set h2 (by omega) _⟩, ?_, World.cell?_setCell_same _ _ _ h4, ?_, ?_, ?_⟩, (Below.refl a w).setCell (by show a ≤ a + 1; omega) _⟩
  · rw [cell_set_ne (by omega)]; exact h1
  · rw [World.frozen?_setCell]; exact h3
  · rw [World.frozen?_setCell]; exact h6
  · rw [cell_set_ne (by omega)]; exact h7
  · rw [World.frozen?_setCell]; exact h8
theorem rgath_drop {w : World} {a : Nat} {s : NSt} (h : rgath w a s) (d : Int) : rgath (w.setCell ⟨a + 2, 0, none⟩ (.int .i64 d)) a ⟨s.out, s.put, d⟩ ∧ Below a w (w.setCell ⟨a + 2, 0, none⟩ (.int .i64 d)) := by
  have hlt := rgath_lt h
  obtain ⟨⟨p, c, h1, h2⟩, h3, h4, h6, h7, h8⟩ := h
  refine ⟨⟨⟨p, c, ?_, own_set h2 (by omega) _⟩, ?_, ?_, ?_, World.cell?_setCell_same _ _ _ h7, ?_⟩, (Below.refl a w).setCell (by show a ≤ a + 2; omega) _⟩
  · rw [cell_set_ne (by omega)]; exact h1
  · rw [World.frozen?_setCell]; exact h3
  · rw [cell_set_ne (by omega)]; exact h4
  · rw [World.frozen?_setCell]; exact h6
  · rw [World.frozen?_setCell]; exact h8

end Go.Proofs.YtedonckeomccpabDoor

namespace Go.Proofs.YtedonckeomccpabDoor
open Go.RowKit
set_option linter.unusedVariables false

/-- What the document's gathering keeps is at most so much. -/
structure BdK (s : KSt) (T k : Nat) : Prop where
  put : s.put.length ≤ T
  d0 : 0 ≤ s.drop
  dk : s.drop ≤ k
  k0 : 0 ≤ s.keep
  kk : s.keep ≤ k
  len : s.out.length ≤ 3 * k
theorem bdk0 : BdK kst0 0 0 := ⟨by simp [kst0], by simp [kst0], by simp [kst0], by simp [kst0], by simp [kst0], by simp [kst0]⟩
theorem tellP_len (s : NSt) : (tellP s).length ≤ s.out.length + 2 := by
  unfold tellP
  simp only [List.length_append]
  split <;> split <;> simp
theorem BdK.step {s : KSt} {T k : Nat} (h : BdK s T k) (x : List UInt8 × Bool) : BdK (stepK s x) (T + x.1.length) (k + 1) := by
  obtain ⟨q, d⟩ := x
  obtain ⟨h1, h2, h3, h4, h5, h6⟩ := h
  have hf : (flushK s q d).put.length ≤ T + q.length ∧ (flushK s q d).drop = s.drop ∧ 0 ≤ (flushK s q d).keep ∧ (flushK s q d).keep ≤ k ∧ (flushK s q d).out.length ≤ 3 * k + 1 := by
    unfold flushK
    split
    · refine ⟨by show (s.put ++ q).length ≤ _; rw [List.length_append]; omega, rfl, ?_, ?_, ?_⟩
      · show 0 ≤ if 0 < s.keep then 0 else s.keep; split <;> omega
      · show (if 0 < s.keep then 0 else s.keep) ≤ _; split <;> omega
      · show (if 0 < s.keep then s.out ++ [⟨s.keep, 0, []⟩] else s.out).length ≤ _
        split
        · rw [List.length_append, List.length_singleton]; omega
        · omega
    · exact ⟨by omega, rfl, h4, h5, by omega⟩
  obtain ⟨f1, f2, f3, f4, f5⟩ := hf
  show BdK (byteK (flushK s q d) d) (T + q.length) (k + 1)
  generalize flushK s q d = t at *
  unfold byteK
  cases d with
  | true => exact ⟨f1, by show 0 ≤ t.drop + 1; omega, by show t.drop + 1 ≤ _; omega, f3, by show t.keep ≤ _; omega, by show t.out.length ≤ _; omega⟩
  | false =>
    have : (tellP ⟨t.out, t.put, t.drop⟩).length ≤ t.out.length + 2 := tellP_len _
    exact ⟨Nat.zero_le _, Int.le_refl _, by show (0 : Int) ≤ _; omega, by show 0 ≤ t.keep + 1; omega, by show t.keep + 1 ≤ _; omega, by show (tellP ⟨t.out, t.put, t.drop⟩).length ≤ _; omega⟩
def putsK (l : List (List UInt8 × Bool)) : Nat := (l.map fun x => x.1.length).sum
theorem putsK_snoc (l : List (List UInt8 × Bool)) (x : List UInt8 × Bool) : putsK (l ++ [x]) = putsK l + x.1.length := by simp [putsK]
theorem bdks (l : List (List UInt8 × Bool)) (k : Nat) (hk : k ≤ l.length) : BdK ((l.take k).foldl stepK kst0) (putsK (l.take k)) k := by
  induction k with
  | zero => exact bdk0
  | succ k ih =>
    have := ih (by omega)
    rw [List.take_succ_eq_append_getElem (by omega), List.foldl_append]
    rw [putsK_snoc]
    exact this.step _
theorem putsK_take (l : List (List UInt8 × Bool)) (k : Nat) : putsK (l.take k) ≤ putsK l := by
  have h1 : putsK l = putsK (l.take k) + putsK (l.drop k) := by
    unfold putsK
    rw [← List.sum_append, ← List.map_append, List.take_append_drop]
  omega

end Go.Proofs.YtedonckeomccpabDoor

namespace Go.Proofs.YtedonckeomccpabDoor
open Go.RowKit
set_option linter.unusedVariables false

theorem opAt_grown {w w' : World} {v : Value} {ps : List Pt} (h : opAt w v ps) (hb : Below w.heap.size w w') : opAt w' v ps := opAt_below h hb (Nat.le_refl _)

def fineB (ps : List Pt) : Bool := fewB ps && (chkE ps (lensW ps).1 == 0)

theorem lensW_range (ps : List Pt) : -9223372036854775808 ≤ (lensW ps).1 ∧ (lensW ps).1 < 9223372036854775808 := by
  unfold lensW
  rcases List.eq_nil_or_concat ps with rfl | ⟨l, p, rfl⟩
  · simp
  · rw [List.concat_eq_append, List.foldl_append]
    show -9223372036854775808 ≤ IntKind.i64.wrap _ ∧ IntKind.i64.wrap _ < _
    rw [IntKind.wrap_i64]
    omega

theorem chkE_sound {ps : List Pt} {n : Int} (h : chkE ps n = 0) : ∀ p ∈ ps, soundP p := by
  unfold chkE at h
  split at h
  · rename_i h1
    exact fun p hp => (one_sound (chk1_ones h1 p hp).1).1
  · rename_i h1
    exact absurd h h1

theorem few_wts {ps : List Pt} (h : fewB ps = true) (hs : ∀ p ∈ ps, soundP p) : wts ps ≤ 1030000 ∧ ps.length ≤ 100 := by
  unfold fewB at h
  rw [Bool.and_eq_true] at h
  have hl := of_decide_eq_true h.1
  have hall := List.all_eq_true.1 h.2
  have key : ∀ (l : List Pt), (∀ p ∈ l, fewP p = true) → wts l ≤ 10300 * l.length := by
    intro l
    induction l with
    | nil => intro _; simp [wts]
    | cons p l ih =>
      intro hl
      have h1 := ih fun q hq => hl q (List.mem_cons_of_mem _ hq)
      have h2 := hl p (List.mem_cons_self ..)
      unfold fewP at h2
      simp only [Bool.not_eq_true', Bool.or_eq_false_iff, decide_eq_false_iff_not] at h2
      have h3 : wtP p = p.keep + p.drop + p.put.length := rfl
      have h4 : wts (p :: l) = wtP p + wts l := by simp [wts]
      rw [h4, List.length_cons]
      omega
  have := key ps hall
  omega

theorem putsK_ticks (d : Bool) : ∀ (n : Nat) (g : GSt), putsK (ticks d n g).1 + (ticks d n g).2.length = putsK g.1 + g.2.length
  | 0, _ => rfl
  | n + 1, g => by
    rw [ticks, putsK_ticks d n]
    show putsK (g.1 ++ [(g.2, d)]) + 0 = _
    rw [putsK_snoc]
    rfl
theorem putsK_spreads (ps : List Pt) (h : ∀ p ∈ ps, soundP p) : ((putsK (spreads ps).1 + (spreads ps).2.length : Nat) : Int) ≤ wts ps := by
  have key : ∀ k, k ≤ ps.length → ((putsK (spreads (ps.take k)).1 + (spreads (ps.take k)).2.length : Nat) : Int) ≤ wts (ps.take k) := by
    intro k
    induction k with
    | zero => intro _; simp [spreads, putsK, wts]
    | succ k ih =>
      intro hk
      have h1 := ih (by omega)
      have hp := h _ (List.getElem_mem (show k < ps.length by omega))
      rw [List.take_succ_eq_append_getElem (by omega), spreads_snoc, wts_snoc]
      generalize ps[k] = q at *
      generalize spreads (ps.take k) = g at *
      obtain ⟨q1, q2⟩ := hp
      have hwq : wtP q = q.keep + q.drop + q.put.length := rfl
      have e : putsK (spreadP g q).1 + (spreadP g q).2.length = putsK g.1 + (g.2.length + q.put.length) := by
        unfold spreadP
        rw [putsK_ticks, putsK_ticks]
        show putsK g.1 + (g.2 ++ q.put).length = _
        rw [List.length_append]
      rw [e]
      omega
  have := key ps.length (Nat.le_refl _)
  rwa [List.take_length] at this

end Go.Proofs.YtedonckeomccpabDoor

namespace Go.Proofs.YtedonckeomccpabDoor
open Go.RowKit
set_option linter.unusedVariables false
attribute [local go_sem] Oper.semAt_some

/-- What is wrong with two operations, over as much as they keep and drop. -/
def bothE (a b : List Pt) : Int := if chkE a (lensW a).1 = 0 then chkE b (lensW b).1 else chkE a (lensW a).1

set_option maxHeartbeats 1000000 in
theorem isPut_any (p : Pt) (w : World) : Calls Tryd.prog 21 #[partV p] w fun e w' => e = .returned (.bool (decide (p.put ≠ []))) ∧ Below w.heap.size w w' := by
  obtain ⟨K, D, U⟩ := p
  have hz : (ByteArray.mk U.toArray).size = U.length := by simp [ByteArray.size]
  unfold partV
  go_enter Tryd.func21, Tryd.ntmps21
  go_wp2
  go_ret
  exact ⟨by cases U <;> simp, (Below.refl _ _).alloc (Nat.le_refl _) _⟩
set_option maxHeartbeats 1000000 in
theorem length_any (p : Pt) (w : World) (h0 : 0 ≤ p.keep ∧ 0 ≤ p.drop) (h1 : p.keep + p.drop + p.put.length < 4611686018427387904) : Calls Tryd.prog 42 #[partV p] w fun e w' => e = .returned (.int .i64 (p.keep + p.drop + p.put.length)) ∧ Below w.heap.size w w' := by
  obtain ⟨K, D, U⟩ := p
  simp only at h0 h1
  obtain ⟨h2, h3⟩ := h0
  have hz : (ByteArray.mk U.toArray).size = U.length := by simp [ByteArray.size]
  unfold partV
  go_enter Tryd.func42, Tryd.ntmps42
  go_wp2
  go_ret
  exact ⟨rfl, (Below.refl _ _).alloc (Nat.le_refl _) _⟩

set_option maxRecDepth 100000 in
set_option maxHeartbeats 2000000 in
theorem checkBoth_any (v1 v2 : Value) (a b : List Pt) (w : World) (hT : Lib.Utf8Tabs 0 1 w) (h1 : opAt w v1 a) (h2 : opAt w v2 b) (w1 : ∀ p ∈ a, wfP p) (w2 : ∀ p ∈ b, wfP p) (l1 : a.length < 10000000) (l2 : b.length < 10000000) :
    Calls Tryd.prog 17 #[v1, v2] w fun e w' => e = .returned (errV (bothE a b)) ∧ Below w.heap.size w w' := by
  have cL1 : Hid (∀ wx, Below w.heap.size w wx → Calls Tryd.prog 18 #[v1] wx fun e w' => e = .returned (.tuple #[.int .i64 (lensW a).1, .int .i64 (lensW a).2]) ∧ Below wx.heap.size wx w') := fun wx hb => Lens_any v1 a wx (opAt_grown h1 hb) l1
  have cL2 : Hid (∀ wx, Below w.heap.size w wx → Calls Tryd.prog 18 #[v2] wx fun e w' => e = .returned (.tuple #[.int .i64 (lensW b).1, .int .i64 (lensW b).2]) ∧ Below wx.heap.size wx w') := fun wx hb => Lens_any v2 b wx (opAt_grown h2 hb) l2
  have cC1 : Hid (∀ wx, Below w.heap.size w wx → Calls Tryd.prog 38 #[v1, .int .i64 (lensW a).1] wx fun e w' => e = .returned (errV (chkE a (lensW a).1)) ∧ Below wx.heap.size wx w') := fun wx hb => Check_any v1 a _ wx (Go.Proofs.Utf8Tabs_below hT hb) (opAt_grown h1 hb) w1 (lensW_range a) l1
  have cC2 : Hid (∀ wx, Below w.heap.size w wx → Calls Tryd.prog 38 #[v2, .int .i64 (lensW b).1] wx fun e w' => e = .returned (errV (chkE b (lensW b).1)) ∧ Below wx.heap.size wx w') := fun wx hb => Check_any v2 b _ wx (Go.Proofs.Utf8Tabs_below hT hb) (opAt_grown h2 hb) w2 (lensW_range b) l2
  obtain ⟨R, hR⟩ : ∃ R, R = bothE a b := ⟨_, rfl⟩
  rw [← hR]
  unfold bothE at hR
  generalize chkE a (lensW a).1 = E1 at cC1 hR
  generalize chkE b (lensW b).1 = E2 at cC2 hR
  generalize (lensW a).1 = A1 at cL1 cC1
  generalize (lensW a).2 = A2 at cL1
  generalize (lensW b).1 = B1 at cL2 cC2
  generalize (lensW b).2 = B2 at cL2
  obtain ⟨p1, c1, rfl, _⟩ := h1
  obtain ⟨p2, c2, rfl, _⟩ := h2
  clear hT w1 w2
  by_cases he : E1 = 0
  · rw [if_pos he] at hR
    have hV : errV E1 = .nilIface := by unfold errV; rw [if_pos he]
    rw [hV] at cC1
    obtain ⟨V, hV2⟩ : ∃ V, errV R = V := ⟨_, rfl⟩
    rw [← hR, hV2] at cC2
    rw [hV2]
    clear hV hV2 hR he
    go_enter Tryd.func17, Tryd.ntmps17
    go_wp2_with (first
      | (have _ := hB3; go_at_call 38; refine (cC2.out _ hB3.out).mono ?_; rintro e w4 ⟨rfl, hb4⟩; have hB4 : Hid (Below w.heap.size w w4) := hB3.out.trans (hb4.mono hB3.out.size))
      | (have _ := hB2; go_at_call 18; refine (cL2.out _ hB2.out).mono ?_; rintro e w3 ⟨rfl, hb3⟩; have hB3 : Hid (Below w.heap.size w w3) := hB2.out.trans (hb3.mono hB2.out.size))
      | (have _ := hB1; go_at_call 38; refine (cC1.out _ hB1.out).mono ?_; rintro e w2 ⟨rfl, hb2⟩; have hB2 : Hid (Below w.heap.size w w2) := hB1.out.trans (hb2.mono hB1.out.size))
      | (go_at_call 18; refine (cL1.out _ (Below.refl _ _)).mono ?_; rintro e w1 ⟨rfl, hb1⟩; have hB1 : Hid (Below w.heap.size w w1) := hb1)
      | fail)
    go_ret
    exact ⟨rfl, hB4.out⟩
  · rw [if_neg he] at hR
    have hV : errV E1 = .iface 51 (.int .i64 E1) := by unfold errV; rw [if_neg he]
    rw [hV] at cC1
    have hV2 : errV R = .iface 51 (.int .i64 E1) := by rw [hR]; exact hV
    rw [hV2]
    clear hV hV2 hR he cC2 cL2
    go_enter Tryd.func17, Tryd.ntmps17
    go_wp2_with (first
      | (have _ := hB1; go_at_call 38; refine (cC1.out _ hB1.out).mono ?_; rintro e w2 ⟨rfl, hb2⟩; have hB2 : Hid (Below w.heap.size w w2) := hB1.out.trans (hb2.mono hB1.out.size))
      | (go_at_call 18; refine (cL1.out _ (Below.refl _ _)).mono ?_; rintro e w1 ⟨rfl, hb1⟩; have hB1 : Hid (Below w.heap.size w w1) := hb1)
      | fail)
    go_ret
    exact ⟨rfl, hB2.out⟩
end Go.Proofs.YtedonckeomccpabDoor
