/-
  Proved: at every slice of runes l and every slice of halves h, rosettalaw.UtfWrites returns true and leaves its arguments as they were.
  Conditions: the library's variable errors.errorType holds what the program's text lays in it; the card ties that to the text (over the pruned copy of the project that the seat's pages name).
-/
import Derived.Test.YtiokdpjoinbcaaaDoorWritesLaw
import Derived.Test.YtiokdpjoinbcaaaDoorTie
import Derived.Test.YtiokdpjoinbcaaaDoorCards
import Derived.ProofKit
import Derived.OpenShut
import Derived.ChangeOld
import Derived.LaidMore
import Derived.LaidHandle
import Derived.Lay
import Derived.Stop.Joined
import Derived.SevenTiedAt
namespace Go.Proofs.YtiokdpjoinbcaaaDoor
open Go.ChangeShapes Go.WideShapes Go.ChangeAt Go.RowKit

theorem w_reads_arg {W : World} {k : IntKind} {x : Addr} {len cap : Nat} {zs : List Int} (hl : len ≤ cap) (hm : cap ≤ maxLen) (hz : zs.length = cap) (hcell : ∀ i, i < zs.length → W.cell? (x.add i) = some (.int k (zs.getD i 0))) :
    reads W k (.slice (some x) len cap) (zs.take len) := by
  have e : (zs.take len).length = len := by rw [List.length_take]; omega
  refine ⟨some x, cap, by rw [e], by rw [e]; exact hl, hm, fun hne => ?_⟩
  have hpos : 0 < len := by
    cases len with
    | zero => exact absurd rfl hne
    | succ n => exact Nat.succ_pos n
  obtain ⟨b, off, spot⟩ := x
  have hc := hcell 0 (by omega)
  have hspot : spot = none := by simpa [Addr.add] using World.cell?_spot hc
  subst hspot
  refine ⟨b, off, rfl, ?_, fun i hi => ?_⟩
  · have := World.block_lt_of_cell? W _ hc
    simpa [Addr.add] using this
  · rw [e] at hi
    have h1 := hcell i (by omega)
    have e2 : (zs.take len).getD i 0 = zs.getD i 0 := by
      rw [List.getD_eq_getElem?_getD, List.getElem?_take, if_pos hi, List.getD_eq_getElem?_getD]
    rw [e2]
    have ea : (⟨b, off, none⟩ : Addr).add i = ⟨b, off + i, none⟩ := by simp [Addr.add] <;> omega
    rw [ea] at h1
    exact h1

set_option maxRecDepth 100000 in
set_option maxHeartbeats 1000000 in
theorem writes_long (p1 p2 : Option Addr) (n1 c1 n2 c2 : Nat) (m1 : n1 ≤ maxLen) (m2 : n2 ≤ maxLen) (w : World) (h : 300 < n1 ∨ 300 < n2) :
    Calls Tryd.prog 4 #[.slice p1 n1 c1, .slice p2 n2 c2] w fun e w' => e = .returned (.bool true) ∧ Below w.heap.size w w' := by
  unfold maxLen at m1 m2
  by_cases h2 : (300 : Int) < (n1 : Int)
  · clear h
    go_enter Tryd.func4, Tryd.ntmps4
    go_wp2
    go_ret
    exact ⟨rfl, Below.refl _ _⟩
  have h3 : (300 : Int) < (n2 : Int) := by omega
  clear h
  go_enter Tryd.func4, Tryd.ntmps4
  go_wp2
  go_ret
  exact ⟨rfl, Below.refl _ _⟩

theorem writes_any (v1 v2 : Value) (zl zh : List Int) (w : World) (hg : asLaid w) (hzl : ∀ z ∈ zl, -2147483648 ≤ z ∧ z ≤ 2147483647) (hrl : reads w .i32 v1 zl) (hzh : ∀ z ∈ zh, 0 ≤ z ∧ z < 65536) (hrh : reads w .u16 v2 zh) :
    Calls Tryd.prog 4 #[v1, v2] w fun e w' => e = .returned (.bool true) ∧ Below w.heap.size w w' := by
  by_cases hlong : 300 < zl.length ∨ 300 < zh.length
  · obtain ⟨p1, c1, rfl, a1, a2, _⟩ := hrl
    obtain ⟨p2, c2, rfl, b1, b2, _⟩ := hrh
    exact writes_long p1 p2 _ c1 _ c2 (Nat.le_trans a1 a2) (Nat.le_trans b1 b2) w hlong
  have hl : zl.length ≤ 300 := by omega
  have hh : zh.length ≤ 300 := by omega
  by_cases hvl : ∀ z ∈ zl, Lib.validRune z = true
  · by_cases hvh : (scanH zh).2 = true
    · exact writes_tt v1 v2 zl zh w hg hzl hrl hl hzh hrh hh hvl hvh
    · exact writes_tf v1 v2 zl zh w hg hzl hrl hl hzh hrh hh hvl (Bool.eq_false_iff.2 hvh)
  · obtain ⟨k, k1, k2, k3⟩ := exists_bad hvl
    by_cases hvh : (scanH zh).2 = true
    · exact writes_ft v1 v2 zl zh w hg hzl hrl hl hzh hrh hh k k1 k2 k3 hvh
    · exact writes_ff v1 v2 zl zh w hg hzl hrl hl hzh hrh hh k k1 k2 k3 (Bool.eq_false_iff.2 hvh)

theorem w_own : ownKnob Tryd.prog.godebug = none := by kernel_rfl
theorem w_laidOut : laidOutB Tryd.prog = true := by kernel_rfl
theorem as_et : Tryd.prog.globalNamed "errors.errorType" = some 3 := by kernel_rfl
theorem as_rt : (Tryd.prog.cutTypes.find? (·.1 == "internal/reflectlite.rtype")).map (·.2) = some 113 := by kernel_rfl
theorem as_oneRow : ((List.range 152).filter fun t => Tryd.prog.rowNamed t [101, 114, 114, 111, 114]) = [29] := by kernel_rfl
theorem as_size : Tryd.prog.types.size = 152 := by kernel_rfl

/-- What the condition gives the walks: the variable's one cell. -/
theorem asLaid_of {W : World} (h : handlesMet Tryd.prog [("errors.errorType", Rows.laid_errors_errorType)] W) : asLaid W := by
  obtain ⟨name, u, ty, e1, e2, e3, e4, e5⟩ := h _ (List.mem_singleton.2 rfl)
  have en : name = [101, 114, 114, 111, 114] := (Option.some.inj e1).symm
  subst en
  obtain rfl := Option.some.inj (as_rt.symm.trans e2)
  have hm : ty ∈ (List.range 152).filter fun t => Tryd.prog.rowNamed t [101, 114, 114, 111, 114] := List.mem_filter.2 ⟨List.mem_range.2 (by rw [← as_size]; exact e3), e4⟩
  rw [as_oneRow] at hm
  obtain rfl := List.mem_singleton.1 hm
  have hh : typeHandle Tryd.prog 29 = .pointer (some ⟨4, 29, none⟩) := by kernel_rfl
  rw [hh] at e5
  unfold asLaid
  simpa using World.var?_cell as_et e5 0

set_option maxRecDepth 100000 in
theorem writes_lifted (os : Os) (started : os.Started) (H : Type) (enc : TypeId × Value → H) :
    ReturnsInHanded {} Tryd.checked os 4 .any (fun w args => (Rows.utfWritesSpec.pre enc Tryd.prog Tryd.f4 [] false w args ∧ laidMetH Tryd.prog Rows.utfWritesRow.laid w) ∧ sizedMet enc Tryd.prog Tryd.f4 (OpenSpec.ofChange Rows.utfWritesSpec) false w args)
      (Rows.utfWritesSpec.post enc Tryd.prog Tryd.f4 false true false false) := by
  refine returnsInHanded_of_change_and (C := Tryd.checked) (X := fun w _ => laidMetH Tryd.prog Rows.utfWritesRow.laid w) (fun _ _ _ hh h => h.of_heap hh) w_own started (by kernel_rfl) Tryd.func4
    (ChangeSpec.witness_shaped (enc := enc) (C := Tryd.checked) (os := os) (X := fun w _ => laidMetH Tryd.prog Rows.utfWritesRow.laid w) false
      { World.holding Tryd.prog os ⟨#[], #[], []⟩ with heap := (World.holding Tryd.prog os ⟨#[], #[], []⟩).heap.modify 3 fun
        | .cells _ t frozen => .cells #[.iface 113 (.agg #[.pointer (some ⟨4, 29, none⟩)])] t frozen
        | o => o }
      #[.slice none 0 0, .slice none 0 0] 8 rfl
      (World.shaped_of_ZipB (by kernel_rfl) (by kernel_rfl)) (by kernel_rfl) (by kernel_rfl) (by kernel_rfl)
      (laidMetH_of_parts (laidMet_nil _ _) (by kernel_rfl))) ?_
  intro W base args ds gs before hval0 hW _ _ hL _
  have hval : ∀ (j : Nat) t v, Tryd.f4.params[j]? = some t → args[j]? = some v → Value.okWide Tryd.prog W .any base t v := hval0
  have hW' := hW
  obtain ⟨p, q, hA0, hV, rfl, _, _⟩ := hW
  have hA : DataW.TrodAll enc Tryd.prog W 0 (fun _ => true) true Tryd.f4.params.toList args.toList ds p := hA0
  rw [Tryd.params4] at hA hval
  obtain ⟨v1, vs1, d1, ds1, p1, q1, hargs, rfl, rfl, h1, r1⟩ := trodAll_cons hA
  obtain ⟨v2, vs2, d2, ds2, p2, q2, rfl, rfl, rfl, h2, r2⟩ := trodAll_cons r1
  obtain ⟨rfl, rfl, rfl⟩ := trodAll_nil r2
  obtain rfl : args = #[v1, v2] := by cases args; simp_all
  obtain ⟨rfl, rfl⟩ := trodVars_none hV
  have k1 := h1
  have lt1 : ∀ x ∈ p1, x.block < W.heap.size := by obtain ⟨m, hm⟩ := k1; exact DataW.trod_lt m _ _ _ hm
  have k2 := h2
  have lt2 : ∀ x ∈ p2, x.block < W.heap.size := by obtain ⟨m, hm⟩ := k2; exact DataW.trod_lt m _ _ _ hm
  obtain ⟨a1, len1, cap1, rfl⟩ := okWide_slice Tryd.underlying22 (hval 0 22 v1 rfl rfl)
  obtain ⟨a2, len2, cap2, rfl⟩ := okWide_slice Tryd.underlying32 (hval 1 32 v2 rfl rfl)
  obtain ⟨zl, hrl, hzl⟩ : ∃ zl, reads W .i32 (.slice a1 len1 cap1) zl ∧ ∀ z ∈ zl, -2147483648 ≤ z ∧ z ≤ 2147483647 := by
    obtain ⟨fuel, hf⟩ := h1
    rcases open_ints Tryd.underlying22 Tryd.underlying21 (by kernel_rfl) hf with ⟨hcs, _⟩ | ⟨x, l, c, zs, hcs, _, hl, hm, hz, _, hcell, hwz⟩
    · simp [Value.cells] at hcs
      obtain ⟨rfl, rfl, rfl⟩ := hcs
      exact ⟨[], ⟨none, 0, rfl, Nat.le_refl _, Nat.zero_le _, fun h => absurd rfl h⟩, by simp⟩
    · simp [Value.cells] at hcs
      obtain ⟨rfl, rfl, rfl⟩ := hcs
      refine ⟨zs.take len1, w_reads_arg hl hm (by simpa using hz) hcell, fun z hz' => ?_⟩
      have := hwz z (List.mem_of_mem_take hz')
      simpa [Lit.wf, IntKind.min, IntKind.max, IntKind.signed, IntKind.bits] using this
  obtain ⟨zh, hrh, hzh⟩ : ∃ zh, reads W .u16 (.slice a2 len2 cap2) zh ∧ ∀ z ∈ zh, 0 ≤ z ∧ z < 65536 := by
    obtain ⟨fuel, hf⟩ := h2
    rcases open_ints Tryd.underlying32 Tryd.underlying59 (by kernel_rfl) hf with ⟨hcs, _⟩ | ⟨x, l, c, zs, hcs, _, hl, hm, hz, _, hcell, hwz⟩
    · simp [Value.cells] at hcs
      obtain ⟨rfl, rfl, rfl⟩ := hcs
      exact ⟨[], ⟨none, 0, rfl, Nat.le_refl _, Nat.zero_le _, fun h => absurd rfl h⟩, by simp⟩
    · simp [Value.cells] at hcs
      obtain ⟨rfl, rfl, rfl⟩ := hcs
      refine ⟨zs.take len2, w_reads_arg hl hm (by simpa using hz) hcell, fun z hz' => ?_⟩
      have := hwz z (List.mem_of_mem_take hz')
      have h2 : 0 ≤ z ∧ z ≤ 65535 := by simpa [Lit.wf, IntKind.min, IntKind.max, IntKind.signed, IntKind.bits] using this
      omega
  have hL' : laidMet Tryd.prog [] W ∧ handlesMet Tryd.prog [("errors.errorType", Rows.laid_errors_errorType)] W := hL
  have hg := asLaid_of hL'.2
  clear hA0 hval0
  refine (writes_any _ _ zl zh W hg hzl hrl hzh hrh).mono fun e W' ⟨he, bel⟩ => ?_
  subst he
  exact ⟨_, rfl, _, _, _, [], _, [], hW', trodAll_mk1 (shut_bool Tryd.underlying4 _), (trodAll_cons_mk (Below.trod w_laidOut (by kernel_rfl) (of_decide_eq_true (by kernel_rfl)) k1 bel lt1) (trodAll_cons_mk (Below.trod w_laidOut (by kernel_rfl) (of_decide_eq_true (by kernel_rfl)) k2 bel lt2) trodAll_mk0)), rfl, bel.frame _, fun h => by cases h⟩

theorem utfWrites_holds : Rows.UtfWritesSaid :=
  OpenClaim.holds_of_wide 4 Tryd.f4 rfl rfl rfl rfl rfl rfl rfl ⟨rfl, rfl, rfl, rfl, rfl⟩ rfl rfl rfl rfl rfl (by kernel_rfl) Tryd.func4 (by kernel_rfl)
    (of_decide_eq_true (by kernel_rfl)) (by unfold Func.isWrapper; first | (rw [if_pos (by decide +kernel)]; kernel_rfl) | (rw [if_neg (by decide +kernel)]; exact ⟨rfl, rfl⟩))
    (fun os started H enc _ => writes_lifted os started H enc)

/-- The tied card. -/
theorem utfWrites_card : Rows.UtfWritesCardSaid :=
  Claim7.holds_tied_plain_at .later [] [.handle] true _ true
    utfWrites_holds (fun _ h => by cases h) (by kernel_rfl) (fun _ h => by cases h) utfWrites_row_tie rfl ⟨rfl, rfl⟩ (by kernel_rfl) rfl
    (fun f fn hf hfn => by
      obtain rfl : f = 4 := Option.some.inj ((show Tryd.prog.funcNamed Rows.utfWritesRow.func = some 4 by kernel_rfl).symm.trans hf) |>.symm
      obtain rfl : fn = Tryd.f4 := (Option.some.inj (Tryd.func4.symm.trans hfn)).symm
      exact ⟨by kernel_rfl, fun j t ht => by
        rw [Tryd.params4] at ht
        have hm : t ∈ [22, 32] := by simpa using Array.mem_of_getElem? ht
        have hall : ([22, 32].all fun u => !Tryd.prog.wantsStandIn u) = true := by kernel_rfl
        exact (show Tryd.prog.wantsStandIn t = false by simpa using List.all_eq_true.1 hall t hm)⟩)
    (by kernel_rfl)
#print axioms utfWrites_card
end Go.Proofs.YtiokdpjoinbcaaaDoor
