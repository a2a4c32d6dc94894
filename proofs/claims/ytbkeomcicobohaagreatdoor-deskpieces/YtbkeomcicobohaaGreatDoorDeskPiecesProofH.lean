/-
  Half of: at every two texts, rosettakeep.DeskPieces returns true and leaves its arguments as they were.
  Conditions: the library's tables of UTF-8, of powers of ten and of bits, its variable errors.errorType and strconv's two errors hold what the program's text lays in them; the card ties that to the text (over the pruned copy of the project that the seat's pages name).
-/
import Derived.Test.YtbkeomcicobohaaGreatDoorPartL
import Derived.Test.YtbkeomcicobohaaGreatDoorTie
import Derived.Test.YtbkeomcicobohaaGreatDoorCards
import Derived.ProofKit
import Derived.OpenShut
import Derived.ShutString
import Derived.ChangeOld
import Derived.PinnedBridge
import Derived.Lib.LaidU8
import Derived.Lay
import Derived.LaidMore
import Derived.LaidHandle
import Derived.Stop.Joined
import Derived.SevenTiedAt
import Derived.Deep.DeepHandedRow
import Derived.Lib.SmallJoins
import Derived.HandedShaped
import Derived.Shelf.Vars
import Derived.Lib.LaidTab
namespace Go.Proofs.YtbkeomcicobohaaGreatDoor
open Go.ChangeShapes Go.WideShapes Go.ChangeAt Go.RowKit Go.Joins

theorem c_own : ownKnob Tryz.prog.godebug = none := by kernel_rfl
theorem c_laidOut : laidOutB Tryz.prog = true := by kernel_rfl
theorem u8Extra : U8Extra Tryz.prog Tryz.lays260_ren := ⟨by kernel_rfl, by kernel_rfl, by kernel_rfl, by kernel_rfl, by kernel_rfl, by kernel_rfl, by kernel_rfl⟩

theorem firstData_eq : Rows.laid_unicode_utf8_first = Lib.firstData := Pinned.utf8First_eq
theorem acceptData_eq : (Rows.laid_unicode_utf8_acceptRanges : DataW Unit) = Lib.acceptData := by kernel_rfl

theorem as_et : Tryz.prog.globalNamed "errors.errorType" = some 2 := by kernel_rfl
theorem as_rt : (Tryz.prog.cutTypes.find? (·.1 == "internal/reflectlite.rtype")).map (·.2) = some 297 := by kernel_rfl
theorem as_oneRow : ((List.range 358).filter fun t => Tryz.prog.rowNamed t [101, 114, 114, 111, 114]) = [35] := by kernel_rfl
theorem as_size : Tryz.prog.types.size = 358 := by kernel_rfl

/-- What the condition gives the walks: the variable's one cell. -/
theorem asLaid_of {W : World} (h : handlesMet Tryz.prog [("errors.errorType", Rows.laid_errors_errorType)] W) : JbM W := by
  obtain ⟨name, u, ty, e1, e2, e3, e4, e5⟩ := h _ (List.mem_singleton.2 rfl)
  have en : name = [101, 114, 114, 111, 114] := (Option.some.inj e1).symm
  subst en
  obtain rfl := Option.some.inj (as_rt.symm.trans e2)
  have hm : ty ∈ (List.range 358).filter fun t => Tryz.prog.rowNamed t [101, 114, 114, 111, 114] := List.mem_filter.2 ⟨List.mem_range.2 (by rw [← as_size]; exact e3), e4⟩
  rw [as_oneRow] at hm
  obtain rfl := List.mem_singleton.1 hm
  have hh : typeHandle Tryz.prog 35 = .pointer (some ⟨9, 35, none⟩) := by kernel_rfl
  rw [hh] at e5
  unfold JbM
  simpa using World.var?_cell as_et e5 0


/-- What the row lists, but for the handle. -/
def dkData : List (String × DataW Unit) := [("math/bits.deBruijn32tab", Rows.laid_math_bits_deBruijn32tab), ("math/bits.deBruijn64tab", Rows.laid_math_bits_deBruijn64tab), ("internal/strconv.uint64pow10", Rows.laid_internal_strconv_uint64pow10), ("unicode/utf8.acceptRanges", Rows.laid_unicode_utf8_acceptRanges), ("strconv.ErrRange", Rows.laid_strconv_ErrRange), ("strconv.ErrSyntax", Rows.laid_strconv_ErrSyntax), ("unicode/utf8.first", Rows.laid_unicode_utf8_first)]
theorem powData_eq : (Rows.laid_internal_strconv_uint64pow10 : DataW Unit) = Lib.tabData .u64 Lib.pow10Tab := by kernel_rfl
/-- An interface variable that reads as a value of a type holds an interface value. -/
theorem iface_cell {W : World} {n : String} {g t : Nat} {u : String} {d : DataW Unit} (hg : Tryz.prog.globalNamed n = some g) (hty : (Tryz.prog.globals[g]?).map (·.type) = some t) {ms : Array (String × TypeId)} (ht : Tryz.prog.underlying t = some (.interface ms))
    (h : Lib.VarReads Tryz.prog W n (.iface u d)) : ∃ te pe, W.cell? ⟨g, 0, none⟩ = some (.iface te pe) := by
  obtain ⟨g', t', cs, fuel, p, e1, e2, e3, e4⟩ := h
  obtain rfl := Option.some.inj (hg.symm.trans e1)
  obtain rfl := Option.some.inj (hty.symm.trans e2)
  have key : ∃ te pe, cs.toList = [.iface te pe] := by
    cases fuel with
    | zero => simp [DataW.trod] at e4
    | succ k =>
      unfold DataW.trod at e4
      rw [ht] at e4
      split at e4 <;> simp_all
  obtain ⟨te, pe, hc⟩ := key
  have hc' : cs = #[.iface te pe] := by cases cs; simp_all
  exact ⟨te, pe, by simpa [hc'] using World.var?_cell hg e3 0⟩
theorem dk_g7 : Tryz.prog.globalNamed "strconv.ErrSyntax" = some 7 := by kernel_rfl
theorem dk_g8 : Tryz.prog.globalNamed "strconv.ErrRange" = some 8 := by kernel_rfl
theorem dk_g1 : Tryz.prog.globalNamed "internal/strconv.uint64pow10" = some 1 := by kernel_rfl
theorem dk_t7 : (Tryz.prog.globals[7]?).map (·.type) = some 35 := by kernel_rfl
theorem dk_t8 : (Tryz.prog.globals[8]?).map (·.type) = some 35 := by kernel_rfl
theorem dk_t1 : (Tryz.prog.globals[1]?).map (·.type) = some 176 := by kernel_rfl
theorem dk_ifc : ∃ ms, Tryz.prog.underlying 35 = some (.interface ms) := ⟨_, Tryz.underlying35⟩
/-- What the listed variables give the walks. -/
theorem envD_of {W : World} (hLd : laidMet Tryz.prog dkData W) (hLh : handlesMet Tryz.prog [("errors.errorType", Rows.laid_errors_errorType)] W) : EnvD W.heap.size W := by
  have hT : Lib.Utf8Tabs 3 4 W := utf8Tabs_of_reads Tryz.lays260 u8Extra (firstData_eq ▸ Lib.laidMet.reads hLd (.tail _ (.tail _ (.tail _ (.tail _ (.tail _ (.tail _ (.head _)))))))) (acceptData_eq ▸ Lib.laidMet.reads hLd (.tail _ (.tail _ (.tail _ (.head _)))))
  have hg := asLaid_of hLh
  obtain ⟨ms, hms⟩ := dk_ifc
  obtain ⟨te, pe, c7⟩ := iface_cell dk_g7 dk_t7 hms (Lib.laidMet.reads hLd (n := "strconv.ErrSyntax") (d := Rows.laid_strconv_ErrSyntax) (.tail _ (.tail _ (.tail _ (.tail _ (.tail _ (.head _)))))))
  obtain ⟨te', pe', c8⟩ := iface_cell dk_g8 dk_t8 hms (Lib.laidMet.reads hLd (n := "strconv.ErrRange") (d := Rows.laid_strconv_ErrRange) (.tail _ (.tail _ (.tail _ (.tail _ (.head _))))))
  have tab : Lib.TabIs Tryz.prog W "internal/strconv.uint64pow10" .u64 Lib.pow10Tab := by
    obtain ⟨g', t', cs, fuel, p, e1, e2, e3, e4⟩ := Lib.laidMet.reads hLd (n := "internal/strconv.uint64pow10") (d := Rows.laid_internal_strconv_uint64pow10) (.tail _ (.tail _ (.head _)))
    obtain rfl := Option.some.inj (dk_g1.symm.trans e1)
    obtain rfl := Option.some.inj (dk_t1.symm.trans e2)
    rw [powData_eq] at e4
    unfold Lib.TabIs
    rw [e3, ← Lib.cells_of_tab Tryz.underlying176 Tryz.underlying122 (by kernel_rfl) (by kernel_rfl) e4]
  exact ⟨⟨hg, hT, World.block_lt_of_cell? W ⟨2, 0, none⟩ hg, World.block_lt_of_cell? W _ (hT.1 0 (by decide)), World.block_lt_of_cell? W _ (hT.2 0 (by decide)).1⟩, ⟨tab, ⟨te, pe, c7⟩, te', pe', c8⟩,
    World.block_lt_of_cell? W _ (tab.cell dk_g1 0 (by decide)), World.block_lt_of_cell? W _ c7, World.block_lt_of_cell? W _ c8⟩
theorem limAt_of {W : World} (h : W.ShapedOpen Tryz.prog) : limAt W :=
  cell_of_shapedOpen_int h (of_decide_eq_true (by kernel_rfl)) (zero := #[.int .i64 0]) (t := 3) (by kernel_rfl) rfl (by kernel_rfl) (by kernel_rfl) Tryz.underlying3

theorem reads_data (w0 : World) (w' : World) (hh : w'.heap = (w0.layVars Tryz.prog dkData).heap)
    (hf : w0.layFits Tryz.prog dkData [] = true)
    (hi : w0.layIfaces Tryz.prog dkData w' = true) :
    laidMet Tryz.prog dkData w' :=
  laidMet_layVars (w0 := w0) ["math/bits.deBruijn32tab", "math/bits.deBruijn64tab", "internal/strconv.uint64pow10", "unicode/utf8.acceptRanges", "strconv.ErrRange", "strconv.ErrSyntax", "unicode/utf8.first"] [] hh hf hi LaidIn.none

set_option maxRecDepth 100000 in
theorem law_lifted (os : Os) (started : os.Started) (H : Type) (enc : TypeId × Value → H) :
    ReturnsInHanded {} Tryz.checked os 3 .any (fun w args => (Rows.deskPiecesSpec.pre enc Tryz.prog Tryz.f3 [] false w args ∧ laidMetH Tryz.prog Rows.deskPiecesRow.laid w) ∧ sizedMet enc Tryz.prog Tryz.f3 (OpenSpec.ofChange Rows.deskPiecesSpec) false w args)
      (Rows.deskPiecesSpec.post enc Tryz.prog Tryz.f3 false true false false) := by
  refine returnsInHanded_of_calls (C := Tryz.checked) c_own started (by kernel_rfl)
    (ChangeSpec.witness_shaped (enc := enc) (C := Tryz.checked) (os := os) (X := fun w _ => laidMetH Tryz.prog Rows.deskPiecesRow.laid w) false
      (World.layVars Tryz.prog { World.holding Tryz.prog os ⟨#[], #[], []⟩ with heap := (World.holding Tryz.prog os ⟨#[], #[], []⟩).heap.modify 2 fun
        | .cells _ t frozen => .cells #[.iface 297 (.agg #[.pointer (some ⟨9, 35, none⟩)])] t frozen
        | o => o } dkData)
      #[.string ⟨#[]⟩, .string ⟨#[]⟩] 8 (World.layVars_os _ _ _)
      (World.shaped_of_ZipB (by kernel_rfl) (by kernel_rfl)) (by kernel_rfl) (by kernel_rfl) (by kernel_rfl)
      (laidMetH_of_parts (reads_data _ _ rfl (by kernel_rfl) (by kernel_rfl)) (by kernel_rfl))) ?_
  intro w0 tape i _ hsh _ hok hpre _
  obtain ⟨_, _, _, fn', hfn', _, _, _, _, hval0⟩ := hok
  obtain rfl : fn' = Tryz.f3 := Option.some.inj (hfn'.symm.trans Tryz.func3)
  obtain ⟨⟨⟨ds, gs, before, hw0, _⟩, hx⟩, hz⟩ := hpre
  have hwt := hz.weights hw0
  have hW := DataW.Whole.of_heap (w' := w0.forCall tape i) (by rfl) hw0
  have hL := hx.of_heap (w' := w0.forCall tape i) (by rfl)
  refine Calls.mono (R := fun e W' => ∃ v, e = .returned v ∧ Rows.deskPiecesSpec.post enc Tryz.prog Tryz.f3 false true false false (w0.forCall tape i) i.args v W') ?_ fun e W' ⟨v, he, hp⟩ => by subst he; exact ChangeSpec.post_blind hp
  clear hw0 hz hx hfn'
  generalize w0.forCall tape i = W at *
  generalize w0.heap.size = base at *
  generalize i.args = args at *
  have hval : ∀ (j : Nat) t v, Tryz.f3.params[j]? = some t → args[j]? = some v → Value.okWide Tryz.prog W .any base t v := hval0
  have hW' := hW
  obtain ⟨p, q, hA0, hV, rfl, _, _⟩ := hW
  have hA : DataW.TrodAll enc Tryz.prog W 0 (fun _ => true) true Tryz.f3.params.toList args.toList ds p := hA0
  rw [Tryz.params3] at hA hval hwt
  obtain ⟨v1, vs1, d1, ds1, p1, q1, hargs, rfl, rfl, h1, r1⟩ := trodAll_cons hA
  obtain ⟨v2, vs2, d2, ds2, p2, q2, rfl, rfl, rfl, h2, r2⟩ := trodAll_cons r1
  obtain ⟨rfl, rfl, rfl⟩ := trodAll_nil r2
  obtain rfl : args = #[v1, v2] := by cases args; simp_all
  obtain ⟨rfl, rfl⟩ := trodVars_none hV
  have k1 := h1
  have lt1 : ∀ x ∈ p1, x.block < W.heap.size := by obtain ⟨m, hm⟩ := k1; exact DataW.trod_lt m _ _ _ hm
  have k2 := h2
  have lt2 : ∀ x ∈ p2, x.block < W.heap.size := by obtain ⟨m, hm⟩ := k2; exact DataW.trod_lt m _ _ _ hm
  obtain ⟨s1, rfl, _, _, hs1⟩ := Go.ChangeMaps.open_string Tryz.underlying9 (hval 0 9 v1 rfl rfl) h1
  obtain ⟨s2, rfl, _, _, hs2⟩ := Go.ChangeMaps.open_string Tryz.underlying9 (hval 1 9 v2 rfl rfl) h2
  obtain ⟨hLd, hLh⟩ : laidMet Tryz.prog dkData W ∧ handlesMet Tryz.prog [("errors.errorType", Rows.laid_errors_errorType)] W := hL
  have hE := envD_of hLd hLh
  have hlim := limAt_of hsh
  have hz1 : s1.size ≤ reachBytes := by simpa using sized_string hwt (j := 0) (t := 9) (bytes := s1.data.toList) (by simp) (by simp; assumption)
  have hz2 : s2.size ≤ reachBytes := by simpa using sized_string hwt (j := 1) (t := 9) (bytes := s2.data.toList) (by simp) (by simp; assumption)
  clear hA0 hval0
  refine (Jka s1 s2 (Nat.le_trans hz1 (by decide)) (Nat.le_trans hz2 (by decide)) W hE hlim).mono fun e W' ⟨he, bel⟩ => ?_
  subst he
  exact ⟨_, rfl, _, _, _, [], _, [], hW', trodAll_mk1 (shut_bool Tryz.underlying4 _), (trodAll_cons_mk (Below.trod c_laidOut (by kernel_rfl) (of_decide_eq_true (by kernel_rfl)) k1 bel lt1) (trodAll_cons_mk (Below.trod c_laidOut (by kernel_rfl) (of_decide_eq_true (by kernel_rfl)) k2 bel lt2) trodAll_mk0)), rfl, bel.frame _, fun h => by cases h⟩

theorem jf_maps : mapsRowed Tryz.prog = true := by kernel_rfl
theorem jf_in : (Rows.deskPiecesRow.inPlace == Tryz.prog.inPlace 3) = true := by kernel_rfl
theorem jf_un : (Rows.deskPiecesRow.unfollowed == Tryz.prog.unfollowed 3) = true := by kernel_rfl
theorem jf_re : (Rows.deskPiecesRow.recurses == Tryz.prog.recurses 3) = true := by kernel_rfl
theorem jf_na : (Rows.deskPiecesRow.named == Tryz.prog.varsNamed 3) = true := by kernel_rfl
theorem jf_all : joinedFacts Tryz.prog 3 Tryz.f3 Rows.deskPiecesSpec Rows.deskPiecesRow = true := by
  unfold joinedFacts
  rw [c_laidOut, jf_maps, jf_in, jf_un, jf_re, jf_na]
  kernel_rfl

theorem deskPieces_holds : Rows.DeskPiecesSaid :=
  OpenClaim.holds_of_wide 3 Tryz.f3 rfl rfl rfl rfl rfl rfl rfl ⟨rfl, rfl, rfl, rfl, rfl⟩ rfl rfl rfl rfl rfl (by kernel_rfl) Tryz.func3 jf_all
    (of_decide_eq_true (by kernel_rfl)) (by unfold Func.isWrapper; first | (rw [if_pos (by decide +kernel)]; kernel_rfl) | (rw [if_neg (by decide +kernel)]; exact ⟨rfl, rfl⟩))
    (fun os started H enc _ => law_lifted os started H enc)
end Go.Proofs.YtbkeomcicobohaaGreatDoor
