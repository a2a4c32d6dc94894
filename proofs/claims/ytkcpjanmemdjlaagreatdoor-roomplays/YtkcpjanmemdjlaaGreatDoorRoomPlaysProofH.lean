/-
  Half of: at every text s, every list of units and every list of acts, rosettalaw.RoomPlays returns true and leaves its arguments as they were.
  Conditions: the library's two tables of UTF-8 and its variable errors.errorType hold what the program's text lays in them; the card ties that to the text (over the pruned copy of the project that the seat's pages name).
-/
import Derived.Test.YtkcpjanmemdjlaaGreatDoorPartM
import Derived.Test.YtkcpjanmemdjlaaGreatDoorTie
import Derived.Test.YtkcpjanmemdjlaaGreatDoorCards
import Derived.ProofKit
import Derived.OpenShut
import Derived.ShutString
import Derived.ChangeOld
import Derived.PinnedBridge
import Derived.Lib.LaidU8
import Derived.Lay
import Derived.LaidMore
import Derived.LaidHandle
import Derived.Stop.Joined
import Derived.SevenTiedAt
import Derived.Deep.DeepHandedRow
import Derived.Lib.SmallJoins
namespace Go.Proofs.YtkcpjanmemdjlaaGreatDoor
open Go.ChangeShapes Go.WideShapes Go.ChangeAt Go.RowKit Go.Joins

theorem PJ : ownKnob Tryz.prog.godebug = none := by kernel_rfl
theorem Fc : laidOutB Tryz.prog = true := by kernel_rfl
theorem KK : U8Extra Tryz.prog Tryz.lays260_ren := ⟨by kernel_rfl, by kernel_rfl, by kernel_rfl, by kernel_rfl, by kernel_rfl, by kernel_rfl, by kernel_rfl⟩

theorem Hz : Rows.laid_unicode_utf8_first = Lib.firstData := Pinned.utf8First_eq
theorem Hj : (Rows.laid_unicode_utf8_acceptRanges : DataW Unit) = Lib.acceptData := by kernel_rfl

theorem PR : Tryz.prog.globalNamed "errors.errorType" = some 0 := by kernel_rfl
theorem PP : (Tryz.prog.cutTypes.find? (·.1 == "internal/reflectlite.rtype")).map (·.2) = some 268 := by kernel_rfl
theorem Js : ((List.range 309).filter fun t => Tryz.prog.rowNamed t [101, 114, 114, 111, 114]) = [26] := by kernel_rfl
theorem LE : Tryz.prog.types.size = 309 := by kernel_rfl

/-- What the condition gives the walks: the variable's one cell. -/
theorem Jt {W : World} (h : handlesMet Tryz.prog [("errors.errorType", Rows.laid_errors_errorType)] W) : F6 W := by
  obtain ⟨name, u, ty, e1, e2, e3, e4, e5⟩ := h _ (List.mem_singleton.2 rfl)
  have en : name = [101, 114, 114, 111, 114] := (Option.some.inj e1).symm
  subst en
  obtain rfl := Option.some.inj (PP.symm.trans e2)
  have hm : ty ∈ (List.range 309).filter fun t => Tryz.prog.rowNamed t [101, 114, 114, 111, 114] := List.mem_filter.2 ⟨List.mem_range.2 (by rw [← LE]; exact e3), e4⟩
  rw [Js] at hm
  obtain rfl := List.mem_singleton.1 hm
  have hh : typeHandle Tryz.prog 26 = .pointer (some ⟨4, 26, none⟩) := by kernel_rfl
  rw [hh] at e5
  unfold F6
  simpa using World.var?_cell PR e5 0


theorem IX (w0 : World) (w' : World) (b : w'.heap = (w0.layVars Tryz.prog [("unicode/utf8.acceptRanges", Rows.laid_unicode_utf8_acceptRanges), ("unicode/utf8.first", Rows.laid_unicode_utf8_first)]).heap)
    (c : w0.layFits Tryz.prog [("unicode/utf8.acceptRanges", Rows.laid_unicode_utf8_acceptRanges), ("unicode/utf8.first", Rows.laid_unicode_utf8_first)] [] = true)
    (a : w0.layIfaces Tryz.prog [("unicode/utf8.acceptRanges", Rows.laid_unicode_utf8_acceptRanges), ("unicode/utf8.first", Rows.laid_unicode_utf8_first)] w' = true) :
    laidMet Tryz.prog [("unicode/utf8.acceptRanges", Rows.laid_unicode_utf8_acceptRanges), ("unicode/utf8.first", Rows.laid_unicode_utf8_first)] w' :=
  laidMet_layVars (w0 := w0) ["unicode/utf8.acceptRanges", "unicode/utf8.first"] [] b c a LaidIn.none

set_option maxRecDepth 100000 in
theorem I0 (os : Os) (started : os.Started) (H : Type) (enc : TypeId × Value → H) :
    ReturnsInHanded {} Tryz.checked os 3 .any (fun w args => (Rows.roomPlaysSpec.pre enc Tryz.prog Tryz.f3 [] false w args ∧ laidMetH Tryz.prog Rows.roomPlaysRow.laid w) ∧ sizedMet enc Tryz.prog Tryz.f3 (OpenSpec.ofChange Rows.roomPlaysSpec) false w args)
      (Rows.roomPlaysSpec.post enc Tryz.prog Tryz.f3 false true false false) := by
  refine returnsInHanded_of_change_and (C := Tryz.checked) (X := fun w _ => laidMetH Tryz.prog Rows.roomPlaysRow.laid w) (fun _ _ _ hh h => h.of_heap hh) PJ started (by kernel_rfl) Tryz.func3
    (ChangeSpec.witness_shaped (enc := enc) (C := Tryz.checked) (os := os) (X := fun w _ => laidMetH Tryz.prog Rows.roomPlaysRow.laid w) false
      (World.layVars Tryz.prog { World.holding Tryz.prog os ⟨#[], #[], []⟩ with heap := (World.holding Tryz.prog os ⟨#[], #[], []⟩).heap.modify 0 fun
        | .cells _ t frozen => .cells #[.iface 268 (.agg #[.pointer (some ⟨4, 26, none⟩)])] t frozen
        | o => o } [("unicode/utf8.acceptRanges", Rows.laid_unicode_utf8_acceptRanges), ("unicode/utf8.first", Rows.laid_unicode_utf8_first)])
      #[.string ⟨#[]⟩, .slice none 0 0, .slice none 0 0] 8 (World.layVars_os _ _ _)
      (World.shaped_of_ZipB (by kernel_rfl) (by kernel_rfl)) (by kernel_rfl) (by kernel_rfl) (by kernel_rfl)
      (laidMetH_of_parts (IX _ _ rfl (by kernel_rfl) (by kernel_rfl)) (by kernel_rfl))) ?_
  intro W base args ds gs before hval0 hW _ _ hL _
  have hval : ∀ (j : Nat) t v, Tryz.f3.params[j]? = some t → args[j]? = some v → Value.okWide Tryz.prog W .any base t v := hval0
  have hW' := hW
  obtain ⟨p, q, hA0, hV, rfl, _, _⟩ := hW
  have hA : DataW.TrodAll enc Tryz.prog W 0 (fun _ => true) true Tryz.f3.params.toList args.toList ds p := hA0
  rw [Tryz.params3] at hA hval
  obtain ⟨v1, vs1, d1, ds1, p1, q1, hargs, rfl, rfl, h1, r1⟩ := trodAll_cons hA
  obtain ⟨v2, vs2, d2, ds2, p2, q2, rfl, rfl, rfl, h2, r2⟩ := trodAll_cons r1
  obtain ⟨v3, vs3, d3, ds3, p3, q3, rfl, rfl, rfl, h3, r3⟩ := trodAll_cons r2
  obtain ⟨rfl, rfl, rfl⟩ := trodAll_nil r3
  obtain rfl : args = #[v1, v2, v3] := by cases args; simp_all
  obtain ⟨rfl, rfl⟩ := trodVars_none hV
  have k1 := h1
  have lt1 : ∀ x ∈ p1, x.block < W.heap.size := by obtain ⟨m, hm⟩ := k1; exact DataW.trod_lt m _ _ _ hm
  have k2 := h2
  have lt2 : ∀ x ∈ p2, x.block < W.heap.size := by obtain ⟨m, hm⟩ := k2; exact DataW.trod_lt m _ _ _ hm
  have k3 := h3
  have lt3 : ∀ x ∈ p3, x.block < W.heap.size := by obtain ⟨m, hm⟩ := k3; exact DataW.trod_lt m _ _ _ hm
  obtain ⟨s1, rfl, _, _, hs1⟩ := Go.ChangeMaps.open_string Tryz.underlying9 (hval 0 9 v1 rfl rfl) h1
  obtain ⟨a2, len2, cap2, rfl⟩ := okWide_slice Tryz.underlying22 (hval 1 22 v2 rfl rfl)
  obtain ⟨ps2, hop2, hok2⟩ : ∃ l, Ja W (.slice a2 len2 cap2) l ∧ ∀ q ∈ l, JG q := by
    obtain ⟨fuel, hf⟩ := h2
    exact fk hf
  obtain ⟨a3, len3, cap3, rfl⟩ := okWide_slice Tryz.underlying23 (hval 2 23 v3 rfl rfl)
  obtain ⟨ps3, hop3, hok3⟩ : ∃ l, Nq W (.slice a3 len3 cap3) l ∧ ∀ q ∈ l, LM q := by
    obtain ⟨fuel, hf⟩ := h3
    exact jZ hf
  obtain ⟨hLd, hLh⟩ : laidMet Tryz.prog [("unicode/utf8.acceptRanges", Rows.laid_unicode_utf8_acceptRanges), ("unicode/utf8.first", Rows.laid_unicode_utf8_first)] W ∧ handlesMet Tryz.prog [("errors.errorType", Rows.laid_errors_errorType)] W := hL
  have hT : Lib.Utf8Tabs 1 2 W := utf8Tabs_of_reads Tryz.lays260 KK (Hz ▸ Lib.laidMet.reads hLd (.tail _ (.head _))) (Hj ▸ Lib.laidMet.reads hLd (.head _))
  have hg := Jt hLh
  clear hA0 hval0
  refine (lg s1 _ _ ps2 ps3 W hg hT hop2 hop3 hok3).mono fun e W' ⟨he, bel⟩ => ?_
  subst he
  exact ⟨_, rfl, _, _, _, [], _, [], hW', trodAll_mk1 (shut_bool Tryz.underlying4 _), (trodAll_cons_mk (Below.trod Fc (by kernel_rfl) (of_decide_eq_true (by kernel_rfl)) k1 bel lt1) (trodAll_cons_mk (Below.trod Fc (by kernel_rfl) (of_decide_eq_true (by kernel_rfl)) k2 bel lt2) (trodAll_cons_mk (Below.trod Fc (by kernel_rfl) (of_decide_eq_true (by kernel_rfl)) k3 bel lt3) trodAll_mk0))), rfl, bel.frame _, fun h => by cases h⟩

theorem Lf : mapsRowed Tryz.prog = true := by kernel_rfl
theorem Pp : (Rows.roomPlaysRow.inPlace == Tryz.prog.inPlace 3) = true := by kernel_rfl
theorem Pm : (Rows.roomPlaysRow.unfollowed == Tryz.prog.unfollowed 3) = true := by kernel_rfl
theorem Pn : (Rows.roomPlaysRow.recurses == Tryz.prog.recurses 3) = true := by kernel_rfl
theorem Po : (Rows.roomPlaysRow.named == Tryz.prog.varsNamed 3) = true := by kernel_rfl
theorem M7 : joinedFacts Tryz.prog 3 Tryz.f3 Rows.roomPlaysSpec Rows.roomPlaysRow = true := by
  unfold joinedFacts
  rw [Fc, Lf, Pp, Pm, Pn, Po]
  kernel_rfl

theorem Gn : Rows.RoomPlaysSaid :=
  OpenClaim.holds_of_wide 3 Tryz.f3 rfl rfl rfl rfl rfl rfl rfl ⟨rfl, rfl, rfl, rfl, rfl⟩ rfl rfl rfl rfl rfl (by kernel_rfl) Tryz.func3 M7
    (of_decide_eq_true (by kernel_rfl)) (by unfold Func.isWrapper; first | (rw [if_pos (by decide +kernel)]; kernel_rfl) | (rw [if_neg (by decide +kernel)]; exact ⟨rfl, rfl⟩))
    (fun os a H enc _ => I0 os a H enc)
end Go.Proofs.YtkcpjanmemdjlaaGreatDoor
