/-
  One operation told to both servers.
-/
import Derived.Test.YtedgnlgjmnccgabGreatDoorSrvRefE
import Derived.Test.YtedgnlgjmnccgabGreatDoorSrvNew
import Derived.Test.YtedgnlgjmnccgabGreatDoorHalves
import Derived.Test.YtedgnlgjmnccgabGreatDoorBackPure
import Derived.Deep.RegionWith
import Derived.Deep.QuietTactic
import Derived.BigQuiet
import Derived.Test.YtedgnlgjmnccgabGreatDoorUtf
import Derived.Shelf.Strings.Builder1
import Derived.Shelf.Strings.Builder2
import Derived.Shelf.Small.Utf8
import Derived.Shelf.Strings.BuilderF
import Derived.Shelf.Strings.BuilderK
import Derived.Shelf.Utf8.AppendRunePlain
import Derived.Shelf.Utf8.RuneCount
import Derived.Shelf.Strings.Builder2Cap
import Derived.Shelf.LaysM
import Derived.Shelf.Strconv.Clone
import Derived.Shelf.Strings.Search1
import Derived.Shelf.Strings.Search2
import Derived.Shelf.Strings.Search3
import Derived.Shelf.Strings.Cut
import Derived.Shelf.Strings.Count
import Derived.Shelf.Strings.Shaped
import Derived.Shelf.Strings.RuneCount
import Derived.Shelf.Unicode.DecodeSlow
import Derived.Shelf.Unicode.DecodeAny
import Derived.Shelf.Strings.BuilderCap
import Derived.Test.YtedgnlgjmnccgabGreatDoorProg
import Derived.Test.YtedgnlgjmnccgabGreatDoorSrvTake
namespace Go.Proofs.YtedgnlgjmnccgabGreatDoor
open Go.RowKit Go.Maps
set_option linter.unusedVariables false

/-- What is told, and what is kept then. -/
abbrev isOld (M : Told) (c i : Int) : Prop := i ≤ (got M c).1
def stE (l0 : Int) (t : List UInt8) (E : List SE) (M : Told) (c i rev : Int) (ps : List Pt) : Int := if isOld M c i then (if i < (got M c).1 then 8 else (got M c).2) else doE l0 t E rev ps
def stT (l0 : Int) (t : List UInt8) (E : List SE) (M : Told) (c i rev : Int) (ps : List Pt) : List UInt8 := if isOld M c i then t else doT l0 t E rev ps
def stL (l0 : Int) (t : List UInt8) (E : List SE) (M : Told) (c i rev : Int) (ps : List Pt) : List SE := if isOld M c i then E else doL l0 t E c i rev ps
def stM (l0 : Int) (t : List UInt8) (E : List SE) (M : Told) (c i rev : Int) (ps : List Pt) : Told := if isOld M c i then M else upd M c (i, doE l0 t E rev ps)
def stD (l0 : Int) (t : List UInt8) (E : List SE) (D : List (List UInt8)) (M : Told) (c i rev : Int) (ps : List Pt) : List (List UInt8) := if isOld M c i then D else doD l0 t E D rev ps
theorem isLast_more {n : Nat} {w : World} {bm : Nat} {M : Told} (h : isLast n w bm M) : isLast (n + 1) w bm M := by
  obtain ⟨D, ⟨es, clock, hb, F, hn, hD⟩, h2⟩ := h
  exact ⟨D, ⟨es, clock, hb, F, by omega, hD⟩, h2⟩
theorem isSrv_more {lo n : Nat} {w : World} {b bm : Nat} {t : List UInt8} {E : List SE} {M : Told} (h : isSrv lo n w b bm t E M) : isSrv lo (n + 1) w b bm t E M := ⟨h.1, h.2.1, h.2.2.1, isLast_more h.2.2.2⟩
theorem srvTake_any {lo n : Nat} {w : World} {b bm : Nat} {t : List UInt8} {E : List SE} {M : Told} (h : isSrv lo n w b bm t E M) {l0 : Int} (hk : okS l0 t E) (c i rev : Int) (hc : rng c) (v : Value) (ps : List Pt) (hg : asLaid w) (hG : 0 < lo) (hT : Lib.Utf8Tabs 2 3 w) (hr : opAt w v ps) (hwf : ∀ p ∈ ps, wfP p) (hl : ps.length ≤ 1000000) (hpu : putsP ps ≤ 40000) (hn : E.length ≤ 300) (hnn : n < 1000000000) :
    Calls Tryz.prog 38 #[.pointer (some ⟨b, 0, none⟩), .int .i64 c, .int .i64 i, .int .i64 rev, v] w fun e w' => e = .returned (errV (stE l0 t E M c i rev ps)) ∧ isSrv lo (n + 1) w' b bm (stT l0 t E M c i rev ps) (stL l0 t E M c i rev ps) (stM l0 t E M c i rev ps) ∧ sameBut w w' (touchS lo w bm) := by
  unfold stE stT stL stM
  by_cases ho : isOld M c i
  · rw [if_pos ho, if_pos ho, if_pos ho, if_pos ho]
    refine (srvTake_old h c i rev hc v ho).mono ?_
    rintro e w' ⟨rfl, hb⟩
    exact ⟨rfl, isSrv_more (isSrv_below h hb), sameBut_below hb _⟩
  · rw [if_neg ho, if_neg ho, if_neg ho, if_neg ho]
    exact srvTake_new h hk c i rev hc v ps hg hG hT hr hwf hl hpu hn hnn (by unfold isOld at ho; omega)
theorem st_next {l0 : Int} {t : List UInt8} {E : List SE} {D : List (List UInt8)} (h : okS l0 t E) (hD : okD l0 t E D) {M : Told} {ps : List Pt} {c i rev : Int} (hp : putsP ps ≤ 40000) : okS l0 (stT l0 t E M c i rev ps) (stL l0 t E M c i rev ps) ∧ okD l0 (stT l0 t E M c i rev ps) (stL l0 t E M c i rev ps) (stD l0 t E D M c i rev ps) ∧ (stL l0 t E M c i rev ps).length ≤ E.length + 1 := by
  unfold stT stL stD
  by_cases ho : isOld M c i
  · rw [if_pos ho, if_pos ho, if_pos ho]
    exact ⟨h, hD, Nat.le_succ _⟩
  · rw [if_neg ho, if_neg ho, if_neg ho]
    obtain ⟨k1, k2⟩ := okD_next (c := c) (i := i) (rev := rev) h hD hp
    refine ⟨k1, k2, ?_⟩
    unfold doL
    split
    · simp
    · omega

/-- Both servers, of the same document. -/
structure Both (lo n : Nat) (w : World) (bx bmx by_ bmy : Nat) (l0 : Int) (t : List UInt8) (E : List SE) (D : List (List UInt8)) (M : Told) : Prop where
  srv : isSrv lo n w bx bmx t E M
  ref : isRef lo n w by_ bmy D E M
  apart : bmx ≠ bmy
  ok : okS l0 t E
  docs : okD l0 t E D
  few : E.length ≤ n
theorem Both.below {lo n : Nat} {w w' : World} {bx bmx by_ bmy : Nat} {l0 : Int} {t : List UInt8} {E : List SE} {D : List (List UInt8)} {M : Told} (h : Both lo n w bx bmx by_ bmy l0 t E D M) (hb : Below w.heap.size w w') : Both lo n w' bx bmx by_ bmy l0 t E D M :=
  ⟨isSrv_below h.srv hb, isRef_below h.ref hb, h.apart, h.ok, h.docs, h.few⟩
end Go.Proofs.YtedgnlgjmnccgabGreatDoor
