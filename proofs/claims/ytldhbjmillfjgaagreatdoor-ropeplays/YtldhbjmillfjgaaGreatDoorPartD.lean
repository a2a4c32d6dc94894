/-
  rope.split: a tree in two.
  rope.split: a tree in two: to the right, and in a chunk.
  rope.split: a tree in two: within a chunk; all of it.
  rope.until: as few runes of a tree as are enough.
  rope's whole: is a place between two runes?
  utf.In, rope's isUnit, and the closures of Ahead and Line.
  The document's own Count, of a sound text.
  The document's own In, of counts.
  rope's Ahead and Line.
  rope's Ahead, of a unit, at a place that there is.
  pos.Convert at a place that there is.
  errors.As at a target of the project's own number type: an error number; an error at a place, which unwraps to its number; no error. Then api.Tell, plain.Place and the law's own 'is'.
  errors.As at the project's number type, walked.
  errors.As, api.Tell, plain.Place and the law's 'is': at no error, and at an error at a place.
  errors.As, api.Tell, plain.Place and the law's 'is' and 'bare' at an error that is a number.
  pos.Convert by units that are none, and within a rune.
  Operations as lists: what a gathering keeps, and gap by gap: both come to the same least form.
-/
import Derived.Test.YtldhbjmillfjgaaGreatDoorPartC
import Derived.Test.YtldhbjmillfjgaaGreatDoorPartB
import Derived.Maps.OwnOps
import Derived.Test.YtldhbjmillfjgaaGreatDoorProg
import Derived.WalkKit
import Derived.WalkSpells
import Derived.WalkLawsBesides
import Derived.LaidEql
import Derived.Stop.Asserts
import Derived.RowKitTokens
import Derived.Deep.QuietTactic
import Derived.BigQuiet
import Derived.Test.YtldhbjmillfjgaaGreatDoorPartA
namespace Go.Proofs.YtldhbjmillfjgaaGreatDoor
open Go.RowKit
set_option linter.unusedVariables false
attribute [local go_sem] Oper.semAt_some yieldsUpon okUpon

theorem C1_zero {rs : List Nat} (h : C1 rs ≤ 0) : rs = [] := by
  have := (C3_le rs).2
  unfold C3 at this
  cases rs with
  | nil => rfl
  | cons a l => simp only [List.length_cons] at this; omega
theorem cutL {ra rb l c r : List Nat} (h : ra ++ rb = l ++ c ++ r) (hc : C1 ra ≤ C1 l) : ∃ a', l = ra ++ a' ∧ rb = a' ++ c ++ r := by
  rw [List.append_assoc] at h
  rcases List.append_eq_append_iff.1 h with ⟨a', h1, h2⟩ | ⟨a', h1, h2⟩
  · exact ⟨a', h1, by rw [h2, List.append_assoc]⟩
  · have : a' = [] := C1_zero (by rw [h1, C1_append] at hc; omega)
    subst this
    exact ⟨[], by simpa using h1.symm, by simpa using h2.symm⟩
theorem cutR {ra rb l c r : List Nat} (h : ra ++ rb = l ++ c ++ r) (hc : C1 l + C1 c ≤ C1 ra) : ∃ a', ra = l ++ c ++ a' ∧ r = a' ++ rb := by
  rcases List.append_eq_append_iff.1 h with ⟨a', h1, h2⟩ | ⟨a', h1, h2⟩
  · have : a' = [] := C1_zero (by rw [← C1_append, h1, C1_append] at hc; omega)
    subst this
    exact ⟨[], by simpa using h1.symm, by simpa using h2.symm⟩
  · exact ⟨a', h1, h2⟩
theorem cutM {ra rb l c r : List Nat} (h : ra ++ rb = l ++ c ++ r) (h1 : C1 l < C1 ra) (h2 : C1 ra < C1 l + C1 c) : ∃ x y, ra = l ++ x ∧ c = x ++ y ∧ rb = y ++ r ∧ x ≠ [] ∧ y ≠ [] := by
  rw [List.append_assoc] at h
  rcases List.append_eq_append_iff.1 h with ⟨a', e1, e2⟩ | ⟨a', e1, e2⟩
  · rw [e1, C1_append] at h1
    have := C1_pos a'
    omega
  · rcases List.append_eq_append_iff.1 e2 with ⟨b', d1, d2⟩ | ⟨b', d1, d2⟩
    · rw [e1, d1, C1_append, C1_append] at h2
      have := C1_pos b'
      omega
    · refine ⟨a', b', e1, d1, d2, fun e => ?_, fun e => ?_⟩
      · rw [e1, e, C1_append] at h1
        have : C1 [] = 0 := rfl
        omega
      · rw [e1, d1, e, C1_append, C1_append] at h2
        have : C1 [] = 0 := rfl
        omega

theorem field0 (a b c d : Int) (w : World) : (Instr.field 29 (.agg #[.int .i64 a, .int .i64 b, .int .i64 c, .int .i64 d]) 0).run Tryz.prog w = .ok (.int .i64 a) w := by kernel_rfl
theorem field3 (a b c d : Int) (w : World) : (Instr.field 29 (.agg #[.int .i64 a, .int .i64 b, .int .i64 c, .int .i64 d]) 3).run Tryz.prog w = .ok (.int .i64 d) w := by kernel_rfl
attribute [local go_sem] field0 field3

/-- What split answers. -/
def parted (w : World) (ra rb : List Nat) (e : Ending) (w' : World) : Prop :=
  ∃ qa ta qb tb, e = .returned (.tuple #[.pointer qa, .pointer qb]) ∧ (isTree w' qa ta ∧ okT ta ∧ ta.runes = ra) ∧ (isTree w' qb tb ∧ okT tb ∧ tb.runes = rb) ∧ Below w.heap.size w w'

theorem parted_of {w w5 w6 : World} {qa qb : Option Addr} {ta tb : T} {ra rb : List Nat} (h5 : Below w.heap.size w w5) (h6 : Below w5.heap.size w5 w6) (ha : isTree w5 qa ta) (ha' : okT ta ∧ ta.runes = ra) (hb : isTree w5 qb tb) (hb' : okT tb ∧ tb.runes = rb) :
    parted w ra rb (.returned (.tuple #[.pointer qa, .pointer qb])) w6 :=
  ⟨qa, ta, qb, tb, rfl, ⟨isTree_below h6 ha, ha'⟩, ⟨isTree_below h6 hb, hb'⟩, h5.trans (h6.mono h5.size)⟩

set_option maxRecDepth 100000 in
set_option maxHeartbeats 2000000 in
theorem split_L (p : Option Addr) (l r : T) (c ra a' : List Nat) (w : World) (hT : Lib.Utf8Tabs 2 3 w) (ht : isTree w p (.node l c r)) (hol : okT l) (hor : okT r) (hx : okChunk c) (hla : l.runes = ra ++ a') (hz : C1 (l.runes ++ c ++ r.runes) ≤ 100000000)
    (ih : ∀ (p : Option Addr) (w : World), Lib.Utf8Tabs 2 3 w → isTree w p l → Calls Tryz.prog 38 #[.pointer p, .int .i64 (C1 ra)] w (parted w ra a')) :
    Calls Tryz.prog 38 #[.pointer p, .int .i64 (C1 ra)] w (parted w ra (a' ++ c ++ r.runes)) := by
  obtain ⟨b1, pl, pr, rfl, ⟨c0, c1, c2, c3, c4⟩, ⟨c5, c6⟩, _, _, hl, hr⟩ := ht
  have cC := fun wx (hb : Below w.heap.size w wx) => ncounts_any pl l wx (isTree_below hb hl)
  have cI := fun wx (hb : Below w.heap.size w wx) => ih pl wx (Go.Proofs.Utf8Tabs_below hT hb) (isTree_below hb hl)
  have HR : Hid (isTree w pr r) := hr
  have HO : Hid (okT r ∧ okChunk c) := ⟨hor, hx⟩
  have HZ : Hid (C1 (a' ++ c ++ r.runes) ≤ 100000000) := by
    show _ ≤ _
    rw [hla] at hz
    simp only [C1_append] at hz ⊢
    have := C1_pos ra
    omega
  have e1 : C1 ra ≤ C1 l.runes := by rw [hla, C1_append]; have := C1_pos a'; omega
  have e2 : C1 l.runes ≤ 100000000 := C1_left (C1_left hz)
  have e3 := C1_pos ra
  have e4 : C1 ra - C1 l.runes ≤ 0 := by omega
  have hB0 := Below.refl w.heap.size w
  clear ih hl hr hla hz hol hor hx
  unfold parted
  go_enter Tryz.func38, Tryz.ntmps38
  go_wp2_with (first
    | (go_at_call 36; refine (cC _ hB0).mono ?_; rintro e w1 ⟨rfl, hb1⟩; have d0 := cell_on hb1 c0; have d1 := cell_on hb1 c1; have d2 := cell_on hb1 c2; have d3 := cell_on hb1 c3; have d4 := cell_on hb1 c4; have d5 := cell_on hb1 c5; have d6 := cell_on hb1 c6)
    | (go_at_call 38; refine (cI _ hb1).mono ?_; rintro e w2 ⟨qa, ta, qb, tb, rfl, hta, htb, hb2⟩; have HA : Hid _ := hta; have HBT : Hid _ := htb; clear hta htb)
    | fail)
  have hb12 := hb1.trans (hb2.mono hb1.size)
  refine wp_region_rel 13 13 (by kernel_rfl) rfl ?_
  intro w3 hb3
  have hb13 := hb12.trans (hb3.mono hb12.size)
  obtain ⟨G, hG⟩ := exists_growth w3
  have g0 := hG.cell (cell_on hb13 c0)
  have g1 := hG.cell (cell_on hb13 c1)
  have g2 := hG.cell (cell_on hb13 c2)
  have g3 := hG.cell (cell_on hb13 c3)
  have g4 := hG.cell (cell_on hb13 c4)
  have g6 := hG.cell (cell_on hb13 c6)
  have HHB : Hid (Below w.heap.size w w3) := hb13
  have HHR : Hid (isTree w pr r) := HR.out
  have HA3 : Hid _ := isTree_below hb3 HA.out.1
  have HB3 : Hid _ := isTree_below hb3 HBT.out.1
  clear c0 c1 c2 c3 c4 c5 c6 d0 d1 d2 d3 d4 d5 d6 cC cI hb1 hb2 hb12 hb3 hb13
  (refine anyG_step hG (i := 0) rfl (by kernel_rfl) (by kernel_rfl) (by kernel_rfl) (fun K hK => ?_); go_simp; refine hK _ ?_; clear hK K)
  (refine anyG_step hG (i := 1) rfl (by kernel_rfl) (by kernel_rfl) (by kernel_rfl) (fun K hK => ?_); go_simp; refine hK _ ?_; clear hK K)
  (refine anyG_step hG (i := 2) rfl (by kernel_rfl) (by kernel_rfl) (by kernel_rfl) (fun K hK => ?_); go_simp; refine hK _ ?_; clear hK K)
  (refine anyG_step hG (i := 3) rfl (by kernel_rfl) (by kernel_rfl) (by kernel_rfl) (fun K hK => ?_); go_simp; refine hK _ ?_; clear hK K)
  (refine anyG_step hG (i := 4) rfl (by kernel_rfl) (by kernel_rfl) (by kernel_rfl) (fun K hK => ?_); go_simp; refine hK _ ?_; clear hK K)
  (refine anyG_step hG (i := 5) rfl (by kernel_rfl) (by kernel_rfl) (by kernel_rfl) (fun K hK => ?_); go_simp; refine hK _ ?_; clear hK K)
  (refine anyG_step hG (i := 6) rfl (by kernel_rfl) (by kernel_rfl) (by kernel_rfl) (fun K hK => ?_); go_simp; refine hK _ ?_; clear hK K)
  (refine anyG_step hG (i := 7) rfl (by kernel_rfl) (by kernel_rfl) (by kernel_rfl) (fun K hK => ?_); go_simp; refine hK _ ?_; clear hK K)
  (refine anyG_step hG (i := 8) rfl (by kernel_rfl) (by kernel_rfl) (by kernel_rfl) (fun K hK => ?_); go_simp; refine hK _ ?_; clear hK K)
  (refine anyG_step hG (i := 9) rfl (by kernel_rfl) (by kernel_rfl) (by kernel_rfl) (fun K hK => ?_); go_simp; refine hK _ ?_; clear hK K)
  clear g0 g1 g2 g3 g4 g6 hG
  refine anyG_one (i := 10) rfl (by kernel_rfl) ?_
  intro w4 hb4 K hK
  have hb14 := HHB.out.trans (hb4.mono HHB.out.size)
  have ck := join_any _ qb pr tb r c w4 (Nat.le_refl _) (isTree_below hb4 HB3.out) (isTree_below hb14 HHR.out) (big_three HBT.out.2.1 HO.out.1 HO.out.2 (by rw [HBT.out.2.2]; exact HZ.out)) HBT.out.2.1.1 HO.out.1.1
  unfold chunkV at ck
  go_simp
  refine ck.mono ?_
  rintro e w5 ⟨q5, t5, rfl, ht5, hj5, hb5⟩
  have hb15 := hb14.trans (hb5.mono hb14.size)
  have hA5 := isTree_below (hb4.trans (hb5.mono hb4.size)) HA3.out
  have hj := joined_ok hj5 HBT.out.2.1 HO.out.1 HO.out.2
  refine ⟨_, rfl, hK _ _ hb5 ?_⟩
  clear hK K ck
  obtain ⟨G, hG⟩ := exists_growth w5
  (refine anyG_step hG (i := 11) rfl (by kernel_rfl) (by kernel_rfl) (by kernel_rfl) (fun K hK => ?_); go_simp; refine hK _ ?_; clear hK K)
  (refine anyG_step hG (i := 12) rfl (by kernel_rfl) (by kernel_rfl) (by kernel_rfl) (fun K hK => ?_); go_simp; refine hK _ ?_; clear hK K)
  refine anyG_end (by kernel_rfl) ?_
  intro w6 hb6
  have HE : Hid _ := parted_of (ra := ra) hb15 hb6 hA5 HA.out.2 ht5 ⟨hj.1, hj.2.trans (by rw [HBT.out.2.2])⟩
  clear hb4 hb14 hb5 hb15 hb6 hA5 ht5 hj5 hj hG
  go_wp2
  exact bodyPost_ret (v := .tuple #[.pointer qa, .pointer q5]) (by simp [results, Tryz.results38, go_sem]) rfl HE.out
end Go.Proofs.YtldhbjmillfjgaaGreatDoor

namespace Go.Proofs.YtldhbjmillfjgaaGreatDoor
open Go.RowKit
set_option linter.unusedVariables false
attribute [local go_sem] Oper.semAt_some yieldsUpon okUpon field0 field3

theorem extract_left (x y : List Nat) : (bytesOf (x ++ y)).extract 0 (encs x).length = bytesOf x := by
  apply ByteArray.ext
  apply Array.toList_inj.1
  rw [Lib.extract_data, List.drop_zero, Nat.sub_zero, bytesOf_list, bytesOf_list, encs_append]
  simp
theorem extract_right (x y : List Nat) : (bytesOf (x ++ y)).extract (encs x).length (bytesOf (x ++ y)).size = bytesOf y := by
  apply ByteArray.ext
  apply Array.toList_inj.1
  rw [Lib.extract_to_end, bytesOf_list, bytesOf_list, encs_append]
  simp

set_option maxRecDepth 100000 in
set_option maxHeartbeats 2000000 in
theorem split_R (p : Option Addr) (l r : T) (c a' rb : List Nat) (w : World) (hT : Lib.Utf8Tabs 2 3 w) (ht : isTree w p (.node l c r)) (hol : okT l) (hor : okT r) (hx : okChunk c) (hra : r.runes = a' ++ rb) (hz : C1 (l.runes ++ c ++ r.runes) ≤ 100000000)
    (ih : ∀ (p : Option Addr) (w : World), Lib.Utf8Tabs 2 3 w → isTree w p r → Calls Tryz.prog 38 #[.pointer p, .int .i64 (C1 a')] w (parted w a' rb)) :
    Calls Tryz.prog 38 #[.pointer p, .int .i64 (C1 l.runes + C1 c + C1 a')] w (parted w (l.runes ++ c ++ a') rb) := by
  obtain ⟨b1, pl, pr, rfl, ⟨c0, c1, c2, c3, c4⟩, ⟨c5, c6⟩, _, _, hl, hr⟩ := ht
  have cC := fun wx (hb : Below w.heap.size w wx) => ncounts_any pl l wx (isTree_below hb hl)
  have HI : Hid (∀ wx, Below w.heap.size w wx → Calls Tryz.prog 38 #[.pointer pr, .int .i64 (C1 a')] wx (parted wx a' rb)) := fun wx (hb : Below w.heap.size w wx) => ih pr wx (Go.Proofs.Utf8Tabs_below hT hb) (isTree_below hb hr)
  have HL : Hid (isTree w pl l) := hl
  have HO : Hid (okT l ∧ okChunk c) := ⟨hol, hx⟩
  rw [hra] at hz
  have HZ : Hid (C1 (l.runes ++ c ++ a') ≤ 100000000) := by
    show _ ≤ _
    rw [← List.append_assoc] at hz
    exact C1_left hz
  have e2 : C1 l.runes ≤ 100000000 := C1_left (C1_left hz)
  have e3 := C1_pos l.runes
  have e5 := C1_pos a'
  have e6 : C1 a' ≤ 100000000 := C1_left (C1_right hz)
  have e7 : ((bytesOf c).size : Int) = C1 c := by rw [bytesOf_size, C1_len]
  have e8 : (bytesOf c).size ≤ 32 := by rw [bytesOf_size]; exact hx.2.1
  have e9 : 1 ≤ C1 c := by
    have := C1_pos c
    have h0 : ¬ C1 c ≤ 0 := fun h => hx.1 (C1_zero h)
    omega
  rw [← e7] at e9 ⊢
  have HE7 : Hid (((bytesOf c).size : Int) = C1 c) := e7
  have hB0 := Below.refl w.heap.size w
  clear ih hl hr hra hz hol hor hx e7
  unfold parted
  generalize hcn : (bytesOf c).size = n at *
  generalize hm : C1 l.runes = m at *
  have HM : Hid (C1 l.runes = m) := hm
  generalize hk : C1 a' = k at *
  have HK : Hid (C1 a' = k) := hk
  have k1 : m + n + k - m = n + k := by omega
  have k2 : ¬ (n : Int) + k ≤ 0 := by omega
  have k3 : (n : Int) ≤ n + k := by omega
  have k4 : (n : Int) + k - n = k := by omega
  have k5 : IntKind.i64.wrap k = k := by rw [IntKind.wrap_i64]; omega
  clear hm hk
  go_enter Tryz.func38, Tryz.ntmps38
  go_wp2_with (first
    | (go_at_call 36; refine (cC _ hB0).mono ?_; rintro e w1 ⟨rfl, hb1⟩; have d0 := cell_on hb1 c0; have d1 := cell_on hb1 c1; have d2 := cell_on hb1 c2; have d3 := cell_on hb1 c3; have d4 := cell_on hb1 c4; have d5 := cell_on hb1 c5; have d6 := cell_on hb1 c6)
    | fail)
  clear cC
  refine wp_region_rel 18 18 (by kernel_rfl) rfl ?_
  intro w2 hb2
  have hb12 := hb1.trans (hb2.mono hb1.size)
  obtain ⟨G, hG⟩ := exists_growth w2
  have g0 := hG.cell (cell_on hb12 c0)
  have g6 := hG.cell (cell_on hb12 c6)
  clear d0 d1 d2 d3 d4 d5 d6 hb1 hb2
  (refine anyG_step hG (i := 0) rfl (by kernel_rfl) (by kernel_rfl) (by kernel_rfl) (fun K hK => ?_); go_simp; refine hK _ ?_; clear hK K)
  (refine anyG_step hG (i := 1) rfl (by kernel_rfl) (by kernel_rfl) (by kernel_rfl) (fun K hK => ?_); go_simp; refine hK _ ?_; clear hK K)
  (refine anyG_step hG (i := 2) rfl (by kernel_rfl) (by kernel_rfl) (by kernel_rfl) (fun K hK => ?_); go_simp; refine hK _ ?_; clear hK K)
  (refine anyG_step hG (i := 3) rfl (by kernel_rfl) (by kernel_rfl) (by kernel_rfl) (fun K hK => ?_); go_simp; refine hK _ ?_; clear hK K)
  (refine anyG_step hG (i := 4) rfl (by kernel_rfl) (by kernel_rfl) (by kernel_rfl) (fun K hK => ?_); go_simp; refine hK _ ?_; clear hK K)
  (refine anyG_step hG (i := 5) rfl (by kernel_rfl) (by kernel_rfl) (by kernel_rfl) (fun K hK => ?_); go_simp; refine hK _ ?_; clear hK K)
  (refine anyG_step hG (i := 6) rfl (by kernel_rfl) (by kernel_rfl) (by kernel_rfl) (fun K hK => ?_); go_simp; refine hK _ ?_; clear hK K)
  (refine anyG_step hG (i := 7) rfl (by kernel_rfl) (by kernel_rfl) (by kernel_rfl) (fun K hK => ?_); go_simp; refine hK _ ?_; clear hK K)
  (refine anyG_step hG (i := 8) rfl (by kernel_rfl) (by kernel_rfl) (by kernel_rfl) (fun K hK => ?_); go_simp; refine hK _ ?_; clear hK K)
  (refine anyG_step hG (i := 9) rfl (by kernel_rfl) (by kernel_rfl) (by kernel_rfl) (fun K hK => ?_); go_simp; refine hK _ ?_; clear hK K)
  (refine anyG_step hG (i := 10) rfl (by kernel_rfl) (by kernel_rfl) (by kernel_rfl) (fun K hK => ?_); go_simp; refine hK _ ?_; clear hK K)
  (refine anyG_step hG (i := 11) rfl (by kernel_rfl) (by kernel_rfl) (by kernel_rfl) (fun K hK => ?_); go_simp; refine hK _ ?_; clear hK K)
  clear g0 g6 hG
  refine anyG_one (i := 12) rfl (by kernel_rfl) ?_
  intro w3 hb3 K hK
  have hb13 := hb12.trans (hb3.mono hb12.size)
  have ck := HI.out w3 hb13
  go_simp
  refine ck.mono ?_
  rintro e w4 ⟨qa, ta, qb, tb, rfl, hta, htb, hb4⟩
  have hb14 := hb13.trans (hb4.mono hb13.size)
  refine ⟨_, rfl, hK _ _ hb4 ?_⟩
  clear hK K ck hb3 hb13 hb4 hb12
  obtain ⟨G, hG⟩ := exists_growth w4
  (refine anyG_step hG (i := 13) rfl (by kernel_rfl) (by kernel_rfl) (by kernel_rfl) (fun K hK => ?_); go_simp; refine hK _ ?_; clear hK K)
  (refine anyG_step hG (i := 14) rfl (by kernel_rfl) (by kernel_rfl) (by kernel_rfl) (fun K hK => ?_); go_simp; refine hK _ ?_; clear hK K)
  (refine anyG_step hG (i := 15) rfl (by kernel_rfl) (by kernel_rfl) (by kernel_rfl) (fun K hK => ?_); go_simp; refine hK _ ?_; clear hK K)
  (refine anyG_step hG (i := 16) rfl (by kernel_rfl) (by kernel_rfl) (by kernel_rfl) (fun K hK => ?_); go_simp; refine hK _ ?_; clear hK K)
  (refine anyG_step hG (i := 17) rfl (by kernel_rfl) (by kernel_rfl) (by kernel_rfl) (fun K hK => ?_); go_simp; refine hK _ ?_; clear hK K)
  refine anyG_end (by kernel_rfl) ?_
  intro w5 hb5
  have hb15 := hb14.trans (hb5.mono hb14.size)
  have HTA : Hid (isTree w5 qa ta ∧ okT ta ∧ ta.runes = a') := ⟨isTree_below hb5 hta.1, hta.2⟩
  have HTB : Hid (isTree w5 qb tb ∧ okT tb ∧ tb.runes = rb) := ⟨isTree_below hb5 htb.1, htb.2⟩
  have HB5 : Hid _ := hb15
  clear hG hta htb hb14 hb5 hb15
  go_wp2_with (first | (go_at_call 9999) | fail)
  refine wp_region_rel 13 13 (by kernel_rfl) rfl ?_
  intro w6 hb6
  have hb16 := HB5.out.trans (hb6.mono HB5.out.size)
  obtain ⟨G, hG⟩ := exists_growth w6
  have g0 := hG.cell (cell_on hb16 c0)
  have g1 := hG.cell (cell_on hb16 c1)
  have g2 := hG.cell (cell_on hb16 c2)
  have g3 := hG.cell (cell_on hb16 c3)
  have g4 := hG.cell (cell_on hb16 c4)
  have g5 := hG.cell (cell_on hb16 c5)
  have HTA6 : Hid _ := isTree_below hb6 HTA.out.1
  have HTB6 : Hid _ := isTree_below hb6 HTB.out.1
  have HB6 : Hid (Below w.heap.size w w6) := hb16
  clear hb6 hb16
  (refine anyG_step hG (i := 0) rfl (by kernel_rfl) (by kernel_rfl) (by kernel_rfl) (fun K hK => ?_); go_simp; refine hK _ ?_; clear hK K)
  (refine anyG_step hG (i := 1) rfl (by kernel_rfl) (by kernel_rfl) (by kernel_rfl) (fun K hK => ?_); go_simp; refine hK _ ?_; clear hK K)
  (refine anyG_step hG (i := 2) rfl (by kernel_rfl) (by kernel_rfl) (by kernel_rfl) (fun K hK => ?_); go_simp; refine hK _ ?_; clear hK K)
  (refine anyG_step hG (i := 3) rfl (by kernel_rfl) (by kernel_rfl) (by kernel_rfl) (fun K hK => ?_); go_simp; refine hK _ ?_; clear hK K)
  (refine anyG_step hG (i := 4) rfl (by kernel_rfl) (by kernel_rfl) (by kernel_rfl) (fun K hK => ?_); go_simp; refine hK _ ?_; clear hK K)
  (refine anyG_step hG (i := 5) rfl (by kernel_rfl) (by kernel_rfl) (by kernel_rfl) (fun K hK => ?_); go_simp; refine hK _ ?_; clear hK K)
  (refine anyG_step hG (i := 6) rfl (by kernel_rfl) (by kernel_rfl) (by kernel_rfl) (fun K hK => ?_); go_simp; refine hK _ ?_; clear hK K)
  (refine anyG_step hG (i := 7) rfl (by kernel_rfl) (by kernel_rfl) (by kernel_rfl) (fun K hK => ?_); go_simp; refine hK _ ?_; clear hK K)
  (refine anyG_step hG (i := 8) rfl (by kernel_rfl) (by kernel_rfl) (by kernel_rfl) (fun K hK => ?_); go_simp; refine hK _ ?_; clear hK K)
  (refine anyG_step hG (i := 10) rfl (by kernel_rfl) (by kernel_rfl) (by kernel_rfl) (fun K hK => ?_); go_simp; refine hK _ ?_; clear hK K)
  clear g0 g1 g2 g3 g4 g5 hG
  refine anyG_one (i := 9) rfl (by kernel_rfl) ?_
  intro w7 hb7 K hK
  have hb17 := HB6.out.trans (hb7.mono HB6.out.size)
  have ck := join_any _ pl qa l ta c w7 (Nat.le_refl _) (isTree_below hb17 HL.out) (isTree_below hb7 HTA6.out) (big_three HO.out.1 HTA.out.2.1 HO.out.2 (by rw [HTA.out.2.2]; exact HZ.out)) HO.out.1.1 HTA.out.2.1.1
  unfold chunkV at ck
  go_simp
  refine ck.mono ?_
  rintro e w8 ⟨q8, t8, rfl, ht8, hj8, hb8⟩
  have hb18 := hb17.trans (hb8.mono hb17.size)
  have hB8 := isTree_below (hb7.trans (hb8.mono hb7.size)) HTB6.out
  have hj := joined_ok hj8 HO.out.1 HTA.out.2.1 HO.out.2
  refine ⟨_, rfl, hK _ _ hb8 ?_⟩
  clear hK K ck
  obtain ⟨G, hG⟩ := exists_growth w8
  (refine anyG_step hG (i := 11) rfl (by kernel_rfl) (by kernel_rfl) (by kernel_rfl) (fun K hK => ?_); go_simp; refine hK _ ?_; clear hK K)
  (refine anyG_step hG (i := 12) rfl (by kernel_rfl) (by kernel_rfl) (by kernel_rfl) (fun K hK => ?_); go_simp; refine hK _ ?_; clear hK K)
  refine anyG_end (by kernel_rfl) ?_
  intro w9 hb9
  have HE : Hid _ := parted_of (rb := rb) (ra := l.runes ++ c ++ a') hb18 hb9 ht8 ⟨hj.1, hj.2.trans (by rw [HTA.out.2.2])⟩ hB8 HTB.out.2
  clear hb7 hb17 hb8 hb18 hb9 hB8 ht8 hj8 hj hG
  go_wp2
  exact bodyPost_ret (v := .tuple #[.pointer q8, .pointer qb]) (by simp [results, Tryz.results38, go_sem]) rfl HE.out
end Go.Proofs.YtldhbjmillfjgaaGreatDoor

namespace Go.Proofs.YtldhbjmillfjgaaGreatDoor
open Go.RowKit
set_option linter.unusedVariables false
attribute [local go_sem] Oper.semAt_some yieldsUpon okUpon field0 field3

set_option maxRecDepth 100000 in
set_option maxHeartbeats 2000000 in
theorem split_M (p : Option Addr) (l r : T) (x y : List Nat) (w : World) (hT : Lib.Utf8Tabs 2 3 w) (ht : isTree w p (.node l (x ++ y) r)) (hol : okT l) (hor : okT r) (hx : okChunk (x ++ y)) (hx0 : x ≠ []) (hy0 : y ≠ []) (hz : C1 (l.runes ++ (x ++ y) ++ r.runes) ≤ 100000000) :
    Calls Tryz.prog 38 #[.pointer p, .int .i64 (C1 l.runes + C1 x)] w (parted w (l.runes ++ x) (y ++ r.runes)) := by
  obtain ⟨b1, pl, pr, rfl, ⟨c0, c1, c2, c3, c4⟩, ⟨c5, c6⟩, _, _, hl, hr⟩ := ht
  have cC := fun wx (hb : Below w.heap.size w wx) => ncounts_any pl l wx (isTree_below hb hl)
  have HL : Hid (isTree w pl l) := hl
  have HR : Hid (isTree w pr r) := hr
  have hcl : (encs x).length + (encs y).length ≤ 32 := by have := hx.2.1; rwa [encs_append, List.length_append] at this
  have hxk : okChunk x := ⟨hx0, by omega, fun q hq => hx.2.2 q (by simp [hq])⟩
  have hyk : okChunk y := ⟨hy0, by omega, fun q hq => hx.2.2 q (by simp [hq])⟩
  have HO : Hid (okT l ∧ okT r ∧ okChunk x ∧ okChunk y) := ⟨hol, hor, hxk, hyk⟩
  have HZ1 : Hid (C1 (l.runes ++ x ++ T.nil.runes) ≤ 100000000) := by
    show _ ≤ _
    have := C1_left (C1_left (a := l.runes ++ x) (b := y) (by have := C1_left hz; rwa [← List.append_assoc] at this) |> fun h => (by simpa [T.runes] using h : C1 (l.runes ++ x ++ T.nil.runes ++ []) ≤ 100000000))
    exact this
  have HZ2 : Hid (C1 (T.nil.runes ++ y ++ r.runes) ≤ 100000000) := by
    show _ ≤ _
    simp only [C1_append] at hz ⊢
    have := C1_pos l.runes
    have := C1_pos x
    have : C1 T.nil.runes = 0 := rfl
    omega
  have hcx : C1 x ≤ 300000000 ∧ C1 y ≤ 300000000 := by rw [C1_len, C1_len]; omega
  have e2 : C1 l.runes ≤ 100000000 := C1_left (C1_left hz)
  have e3 := C1_pos l.runes
  have e7 : (bytesOf (x ++ y)).size = (encs x).length + (encs y).length := by rw [bytesOf_size, encs_append, List.length_append]
  have e8 : 1 ≤ C1 x ∧ 1 ≤ C1 y := by
    have h1 : ¬ C1 x ≤ 0 := fun h => hx0 (C1_zero h)
    have h2 : ¬ C1 y ≤ 0 := fun h => hy0 (C1_zero h)
    omega
  rw [C1_len, C1_len] at e8
  have HKX : Hid (∀ wx, Below w.heap.size w wx → Calls Tryz.prog 62 #[.string ((bytesOf (x ++ y)).extract 0 (encs x).length)] wx fun e w' => e = .returned (chunkV x) ∧ Below wx.heap.size wx w') := fun wx hb => by
    rw [extract_left]; exact chunkOf_any x hxk.2.2 hcx.1 wx (Go.Proofs.Utf8Tabs_below hT hb)
  have HKY : Hid (∀ wx, Below w.heap.size w wx → Calls Tryz.prog 62 #[.string ((bytesOf (x ++ y)).extract (encs x).length ((encs x).length + (encs y).length))] wx fun e w' => e = .returned (chunkV y) ∧ Below wx.heap.size wx w') := fun wx hb => by
    rw [← e7, extract_right]; exact chunkOf_any y hyk.2.2 hcx.2 wx (Go.Proofs.Utf8Tabs_below hT hb)
  rw [C1_len x]
  have hB0 := Below.refl w.heap.size w
  clear hl hr hz hol hor hx hxk hyk hx0 hy0 hcx
  unfold parted
  generalize hm : C1 l.runes = m at *
  generalize hj : (encs x).length = j at *
  generalize (encs y).length = jy at *
  have k1 : m + (j : Int) - m = j := by omega
  have k2 : ¬ (j : Int) ≤ 0 := by omega
  have k3 : ¬ (j : Int) + jy ≤ j := by omega
  have k4 : (j : Int) ≤ (j : Int) + jy := by omega
  have k6 : ¬ j = 0 := by omega
  have k7 : ¬ j + jy ≤ j := by omega
  have k8 : j ≤ j + jy := by omega
  clear hm hj
  go_enter Tryz.func38, Tryz.ntmps38
  go_wp2_with (first
    | (go_at_call 36; refine (cC _ hB0).mono ?_; rintro e w1 ⟨rfl, hb1⟩; have d0 := cell_on hb1 c0; have d1 := cell_on hb1 c1; have d2 := cell_on hb1 c2; have d3 := cell_on hb1 c3; have d4 := cell_on hb1 c4; have d5 := cell_on hb1 c5; have d6 := cell_on hb1 c6)
    | fail)
  clear cC
  refine wp_region_rel 28 28 (by kernel_rfl) rfl ?_
  intro w2 hb2
  have hb12 := hb1.trans (hb2.mono hb1.size)
  obtain ⟨G, hG⟩ := exists_growth w2
  have g0 := hG.cell (cell_on hb12 c0)
  have g5 := hG.cell (cell_on hb12 c5)
  have g6 := hG.cell (cell_on hb12 c6)
  have cX := fun x => HKX.out (G x) (hb12.trans ((hG.below x).mono hb12.size))
  unfold chunkV at cX
  clear d0 d1 d2 d3 d4 d5 d6 hb1 hb2
  (refine anyG_step hG (i := 0) rfl (by kernel_rfl) (by kernel_rfl) (by kernel_rfl) (fun K hK => ?_); go_simp; refine hK _ ?_; clear hK K)
  (refine anyG_step hG (i := 1) rfl (by kernel_rfl) (by kernel_rfl) (by kernel_rfl) (fun K hK => ?_); go_simp; refine hK _ ?_; clear hK K)
  (refine anyG_step hG (i := 2) rfl (by kernel_rfl) (by kernel_rfl) (by kernel_rfl) (fun K hK => ?_); go_simp; refine hK _ ?_; clear hK K)
  (refine anyG_step hG (i := 3) rfl (by kernel_rfl) (by kernel_rfl) (by kernel_rfl) (fun K hK => ?_); go_simp; refine hK _ ?_; clear hK K)
  (refine anyG_step hG (i := 4) rfl (by kernel_rfl) (by kernel_rfl) (by kernel_rfl) (fun K hK => ?_); go_simp; refine hK _ ?_; clear hK K)
  (refine anyG_step hG (i := 5) rfl (by kernel_rfl) (by kernel_rfl) (by kernel_rfl) (fun K hK => ?_); go_simp; refine hK _ ?_; clear hK K)
  (refine anyG_step hG (i := 6) rfl (by kernel_rfl) (by kernel_rfl) (by kernel_rfl) (fun K hK => ?_); go_simp; refine hK _ ?_; clear hK K)
  (refine anyG_step hG (i := 7) rfl (by kernel_rfl) (by kernel_rfl) (by kernel_rfl) (fun K hK => ?_); go_simp; refine hK _ ?_; clear hK K)
  (refine anyG_step hG (i := 8) rfl (by kernel_rfl) (by kernel_rfl) (by kernel_rfl) (fun K hK => ?_); go_simp; refine hK _ ?_; clear hK K)
  (refine anyG_step hG (i := 9) rfl (by kernel_rfl) (by kernel_rfl) (by kernel_rfl) (fun K hK => ?_); go_simp; refine hK _ ?_; clear hK K)
  (refine anyG_step hG (i := 10) rfl (by kernel_rfl) (by kernel_rfl) (by kernel_rfl) (fun K hK => ?_); go_simp; refine hK _ ?_; clear hK K)
  (refine anyG_step hG (i := 13) rfl (by kernel_rfl) (by kernel_rfl) (by kernel_rfl) (fun K hK => ?_); go_simp; refine hK _ ?_; clear hK K)
  (refine anyG_step hG (i := 14) rfl (by kernel_rfl) (by kernel_rfl) (by kernel_rfl) (fun K hK => ?_); go_simp; refine hK _ ?_; clear hK K)
  (refine anyG_step hG (i := 15) rfl (by kernel_rfl) (by kernel_rfl) (by kernel_rfl) (fun K hK => ?_); go_simp; refine hK _ ?_; clear hK K)
  (refine anyG_step hG (i := 16) rfl (by kernel_rfl) (by kernel_rfl) (by kernel_rfl) (fun K hK => ?_); go_simp; refine hK _ ?_; clear hK K)
  (refine anyG_step hG (i := 17) rfl (by kernel_rfl) (by kernel_rfl) (by kernel_rfl) (fun K hK => ?_); go_simp; refine hK _ ?_; clear hK K)
  (refine anyG_step hG (i := 18) rfl (by kernel_rfl) (by kernel_rfl) (by kernel_rfl) (fun K hK => ?_); go_simp; refine hK _ ?_; clear hK K)
  (refine anyG_step hG (i := 19) rfl (by kernel_rfl) (by kernel_rfl) (by kernel_rfl) (fun K hK => ?_); go_simp; refine hK _ ?_; clear hK K)
  (refine anyG_step hG (i := 21) rfl (by kernel_rfl) (by kernel_rfl) (by kernel_rfl) (fun K hK => ?_); go_simp; refine hK _ ?_; clear hK K)
  (refine anyG_step hG (i := 22) rfl (by kernel_rfl) (by kernel_rfl) (by kernel_rfl) (fun K hK => ?_); go_simp; refine hK _ ?_; clear hK K)
  (refine anyG_step hG (i := 23) rfl (by kernel_rfl) (by kernel_rfl) (by kernel_rfl) (fun K hK => ?_); go_simp; refine hK _ ?_; clear hK K)
  (refine anyG_step hG (i := 24) rfl (by kernel_rfl) (by kernel_rfl) (by kernel_rfl) (fun K hK => ?_); go_simp; refine hK _ ?_; clear hK K)
  (refine anyG_step hG (i := 11) rfl (by kernel_rfl) (by kernel_rfl) (by kernel_rfl) (fun K hK => ?_); go_simp; apply Exists.intro; refine ⟨fun _ => ?_, hK _ ?_⟩; exact cX _; clear hK K)
  clear g0 g5 g6 cX hG
  refine anyG_one (i := 12) rfl (by kernel_rfl) ?_
  intro w3 hb3 K hK
  have hb13 := hb12.trans (hb3.mono hb12.size)
  have ck := join_any _ pl none l .nil x w3 (Nat.le_refl _) (isTree_below hb13 HL.out) rfl (big_three HO.out.1 okT_nil HO.out.2.2.1 HZ1.out) HO.out.1.1 trivial
  unfold chunkV at ck
  go_simp
  refine ck.mono ?_
  rintro e w4 ⟨q4, t4, rfl, ht4, hj4, hb4⟩
  have hb14 := hb13.trans (hb4.mono hb13.size)
  have hja := joined_ok hj4 HO.out.1 okT_nil HO.out.2.2.1
  refine ⟨_, rfl, hK _ _ hb4 ?_⟩
  clear hK K ck hb3 hb13 hb4 hb12
  obtain ⟨G, hG⟩ := exists_growth w4
  have cY := fun x => HKY.out (G x) (hb14.trans ((hG.below x).mono hb14.size))
  unfold chunkV at cY
  (refine anyG_step hG (i := 20) rfl (by kernel_rfl) (by kernel_rfl) (by kernel_rfl) (fun K hK => ?_); go_simp; apply Exists.intro; refine ⟨fun _ => ?_, hK _ ?_⟩; exact cY _; clear hK K)
  clear cY hG
  refine anyG_one (i := 25) rfl (by kernel_rfl) ?_
  intro w5 hb5 K hK
  have hb15 := hb14.trans (hb5.mono hb14.size)
  have ck := join_any _ none pr .nil r y w5 (Nat.le_refl _) rfl (isTree_below hb15 HR.out) (big_three okT_nil HO.out.2.1 HO.out.2.2.2 HZ2.out) trivial HO.out.2.1.1
  unfold chunkV at ck
  go_simp
  refine ck.mono ?_
  rintro e w6 ⟨q6, t6, rfl, ht6, hj6, hb6⟩
  have hb16 := hb15.trans (hb6.mono hb15.size)
  have hjb := joined_ok hj6 okT_nil HO.out.2.1 HO.out.2.2.2
  have hA6 := isTree_below (hb5.trans (hb6.mono hb5.size)) ht4
  refine ⟨_, rfl, hK _ _ hb6 ?_⟩
  clear hK K ck
  obtain ⟨G, hG⟩ := exists_growth w6
  (refine anyG_step hG (i := 26) rfl (by kernel_rfl) (by kernel_rfl) (by kernel_rfl) (fun K hK => ?_); go_simp; refine hK _ ?_; clear hK K)
  (refine anyG_step hG (i := 27) rfl (by kernel_rfl) (by kernel_rfl) (by kernel_rfl) (fun K hK => ?_); go_simp; refine hK _ ?_; clear hK K)
  refine anyG_end (by kernel_rfl) ?_
  intro w9 hb9
  have HE : Hid _ := parted_of (ra := l.runes ++ x) (rb := y ++ r.runes) hb16 hb9 hA6 ⟨hja.1, hja.2.trans (by simp [T.runes])⟩ ht6 ⟨hjb.1, hjb.2.trans (by simp [T.runes])⟩
  clear hb14 hb5 hb15 hb6 hb16 hb9 hA6 ht4 ht6 hj4 hj6 hja hjb hG
  go_wp2
  exact bodyPost_ret (v := .tuple #[.pointer q4, .pointer q6]) (by simp [results, Tryz.results38, go_sem]) rfl HE.out

set_option maxRecDepth 100000 in
set_option maxHeartbeats 2000000 in
theorem split_nil (k : Int) (w : World) : Calls Tryz.prog 38 #[.pointer none, .int .i64 k] w (parted w [] []) := by
  unfold parted
  go_enter Tryz.func38, Tryz.ntmps38
  go_wp2
  exact bodyPost_ret (v := .tuple #[.pointer none, .pointer none]) (by simp [results, Tryz.results38, go_sem]) rfl ⟨none, .nil, none, .nil, rfl, ⟨rfl, okT_nil, rfl⟩, ⟨rfl, okT_nil, rfl⟩, Below.refl _ _⟩

theorem okT_node {l r : T} {c : List Nat} (h : okT (.node l c r)) : okT l ∧ okT r ∧ okChunk c := by
  obtain ⟨⟨b1, b2, _, _⟩, h2⟩ := h
  exact ⟨⟨b1, fun x hx => h2 x (by simp [T.chunks, hx])⟩, ⟨b2, fun x hx => h2 x (by simp [T.chunks, hx])⟩, h2 c (by simp [T.chunks])⟩

theorem split_any : ∀ (t : T) (p : Option Addr) (ra rb : List Nat) (w : World), Lib.Utf8Tabs 2 3 w → isTree w p t → okT t → t.runes = ra ++ rb → C1 t.runes ≤ 100000000 →
    Calls Tryz.prog 38 #[.pointer p, .int .i64 (C1 ra)] w (parted w ra rb)
  | .nil, p, ra, rb, w, hT, ht, ho, he, hz => by
    obtain rfl : p = none := ht
    have he' : ra ++ rb = [] := he.symm
    obtain ⟨rfl, rfl⟩ := List.append_eq_nil_iff.1 he'
    exact split_nil _ w
  | .node l c r, p, ra, rb, w, hT, ht, ho, he, hz => by
    obtain ⟨hol, hor, hc⟩ := okT_node ho
    have e : (T.node l c r).runes = l.runes ++ c ++ r.runes := by simp [T.runes]
    rw [e] at he hz
    by_cases h1 : C1 ra ≤ C1 l.runes
    · obtain ⟨a', h2, rfl⟩ := cutL he.symm h1
      exact split_L p l r c ra a' w hT ht hol hor hc h2 hz fun p w hT h => split_any l p ra a' w hT h hol h2 (C1_left (C1_left hz))
    · by_cases h3 : C1 l.runes + C1 c ≤ C1 ra
      · obtain ⟨a', rfl, h2⟩ := cutR he.symm h3
        rw [C1_append, C1_append]
        exact split_R p l r c a' rb w hT ht hol hor hc h2 hz fun p w hT h => split_any r p a' rb w hT h hor h2 (C1_right hz)
      · obtain ⟨x, y, rfl, rfl, rfl, hx0, hy0⟩ := cutM he.symm (by omega) (by omega)
        rw [C1_append]
        exact split_M p l r x y w hT ht hol hor hc hx0 hy0 hz
end Go.Proofs.YtldhbjmillfjgaaGreatDoor

namespace Go.Proofs.YtldhbjmillfjgaaGreatDoor
open Go.RowKit
set_option linter.unusedVariables false
attribute [local go_sem] Oper.semAt_some yieldsUpon okUpon

/-- What is enough stays so with more. -/
def rising (f : List Nat → Bool) : Prop := ∀ a b, f a = true → f (a ++ b) = true
/-- The least beginning, of pre or more, that is enough; all, if none is. -/
def find (f : List Nat → Bool) (pre rs : List Nat) : List Nat := if f pre then pre else (seek f pre rs).getD (pre ++ rs)
theorem seek_low {f : List Nat → Bool} (hf : rising f) : ∀ (rs pre : List Nat), f (pre ++ rs) = false → seek f pre rs = none
  | [], pre, _ => rfl
  | r :: rs, pre, h => by
    have h1 : f ((pre ++ [r]) ++ rs) = false := by rw [List.append_assoc]; exact h
    have h2 : f (pre ++ [r]) = false := by
      cases e : f (pre ++ [r]) with
      | false => rfl
      | true => rw [hf _ rs e] at h1; cases h1
    rw [seek, h2, if_neg (by simp), seek_low hf rs _ h1]
theorem seek_more {f : List Nat → Bool} {x : List Nat} : ∀ (a pre b : List Nat), seek f pre a = some x → seek f pre (a ++ b) = some x
  | [], _, _, h => by cases h
  | r :: a, pre, b, h => by
    rw [List.cons_append]
    simp only [seek] at h ⊢
    split at h
    · rename_i hr; rw [if_pos hr]; exact h
    · rename_i hr; rw [if_neg hr]; exact seek_more a _ b h
theorem seek_top {f : List Nat → Bool} : ∀ (rs pre : List Nat), f pre = false → f (pre ++ rs) = true → ∃ x, seek f pre rs = some x
  | [], pre, h0, h => by rw [List.append_nil, h0] at h; cases h
  | r :: rs, pre, h0, h => by
    cases e : f (pre ++ [r]) with
    | true => exact ⟨_, by rw [seek, e]; rfl⟩
    | false =>
      obtain ⟨x, hx⟩ := seek_top rs (pre ++ [r]) e (by rw [List.append_assoc]; exact h)
      exact ⟨x, by rw [seek, e]; exact hx⟩
theorem low_of {f : List Nat → Bool} (hf : rising f) {a b : List Nat} (h : f (a ++ b) = false) : f a = false := by
  cases e : f a with
  | false => rfl
  | true => rw [hf a b e] at h; cases h
theorem find_left {f : List Nat → Bool} {pre l m : List Nat} (h : f (pre ++ l) = true) : find f pre (l ++ m) = find f pre l := by
  unfold find
  cases e : f pre with
  | true => rfl
  | false =>
    obtain ⟨x, hx⟩ := seek_top l pre e h
    rw [seek_more l pre m hx, hx]
    rfl
theorem find_here {f : List Nat → Bool} (hf : rising f) {pre l c r : List Nat} (h1 : f (pre ++ l) = false) (h2 : f (pre ++ l ++ c) = true) : find f pre (l ++ c ++ r) = (seek f (pre ++ l) c).getD (pre ++ l) := by
  unfold find
  obtain ⟨x, hx⟩ := seek_top c (pre ++ l) h1 h2
  rw [low_of hf h1, List.append_assoc l, seek_none f l pre (c ++ r) (seek_low hf l pre h1), seek_more c _ r hx, hx]
  rfl
theorem find_right {f : List Nat → Bool} (hf : rising f) {pre m r : List Nat} (h : f (pre ++ m) = false) : find f pre (m ++ r) = find f (pre ++ m) r := by
  unfold find
  rw [low_of hf h, h, seek_none f m pre r (seek_low hf m pre h), List.append_assoc]
  rfl

theorem asks_below {W W' : World} {F : Nat} {cap : Array Value} {f : List Nat → Bool} (h : asks W F cap f) (hb : Below W.heap.size W W') : asks W' F cap f :=
  ⟨h.1, fun rs wx hz hb' => h.2 rs wx hz (hb.trans (hb'.mono hb.size))⟩
theorem counted_on {A B : World} {a : Nat} {n1 n2 n3 n4 : Int} (h : B.heap[a]? = A.heap[a]?) (hc : counted A a n1 n2 n3 n4) : counted B a n1 n2 n3 n4 := by
  obtain ⟨⟨a0, a1, a2, a3⟩, b0, b1, b2, b3⟩ := hc
  exact ⟨⟨(cellOn h 0).trans a0, (cellOn h 1).trans a1, (cellOn h 2).trans a2, (cellOn h 3).trans a3⟩, (frozenOn h 0).trans b0, (frozenOn h 1).trans b1, (frozenOn h 2).trans b2, (frozenOn h 3).trans b3⟩
/-- How many chunks there are, as the tree's first node has it. -/
def sizeAt (v : Value) (W : World) : Nat := match v with | .pointer (some p) => (match W.cell? ⟨p.block, 12, none⟩ with | some (.int _ n) => n.toNat | _ => 0) | _ => 0
theorem sizeAt_tree {W : World} {q : Option Addr} {t : T} (h : isTree W q t) : sizeAt (.pointer q) W = t.size := by
  cases t with
  | nil => obtain rfl : q = none := h; rfl
  | node l c r =>
    obtain ⟨b, _, _, rfl, _, _, _, ⟨_, h12⟩, _⟩ := h
    simp only [sizeAt, h12]
    omega

set_option maxRecDepth 100000 in
set_option maxHeartbeats 4000000 in
theorem until_any (f : List Nat → Bool) (hf : rising f) (F : Nat) (cap : Array Value) (p : Option Addr) (t : T) (w : World) (hT : Lib.Utf8Tabs 2 3 w) (ht : isTree w p t) (ho : okT t) (hz : C1 t.runes ≤ 100000000) (hE : asks w F cap f) :
    Calls Tryz.prog 47 #[.pointer p, .func (.func F) #[] cap] w fun e w' => e = .returned (cntV (find f [] t.runes)) ∧ Below w.heap.size w w' := by
  have hent := hE.1
  have HE : Hid (asks w F cap f) := hE
  have HT : Hid (Lib.Utf8Tabs 2 3 w) := hT
  have HI : Hid (isTree w p t ∧ okT t ∧ C1 t.runes ≤ 100000000) := ⟨ht, ho, hz⟩
  clear hE hT ht ho hz
  go_enter Tryz.func47, Tryz.ntmps47
  go_wp2
  go_loopw [0, 6, 7] (fun v _ _ wr => ∃ q tt pre, v = .pointer q ∧ isTree wr q tt ∧ okT tt ∧ counted wr (w.heap.size + 1) (C1 pre) (C2 pre) (C3 pre) (C4 pre) ∧ counted wr w.heap.size 0 0 0 0 ∧ Below w.heap.size w wr ∧ C1 (pre ++ tt.runes) ≤ 100000000 ∧ find f [] t.runes = find f pre tt.runes ∧ wr.cell? ⟨w.heap.size + 1, 5, none⟩ = none) (fun v _ _ wr => sizeAt v wr)
  case atStart =>
    have hb2 : Below w.heap.size w ((w.alloc (.cells #[.int .i64 0, .int .i64 0, .int .i64 0, .int .i64 0] 29)).alloc (.cells #[.int .i64 0, .int .i64 0, .int .i64 0, .int .i64 0] 29)) := ((Below.refl _ w).alloc (Nat.le_refl _) _).alloc (by simp) _
    refine ⟨p, t, [], rfl, isTree_below hb2 HI.out.1, HI.out.2.1, ?_, counted_below (counted_new w 0 0 0 0 _) ((Below.refl _ _).alloc (Nat.le_refl _) _), hb2, HI.out.2.2, rfl, by simp [go_sem]⟩
    have := counted_new (w.alloc (.cells #[.int .i64 0, .int .i64 0, .int .i64 0, .int .i64 0] 29)) 0 0 0 0 29
    rwa [World.size_alloc] at this
  case round =>
    obtain ⟨q, tt, pre, rfl, hq, hok, hA, hR, hbw, hzz, hfd, hn5⟩ := hrel
    have HN5 : Hid (wr.cell? ⟨w.heap.size + 1, 5, none⟩ = none) := hn5
    clear hn5
    have HA : Hid _ := hA
    have HRR : Hid _ := hR
    have HBW : Hid _ := hbw
    have HQ : Hid _ := hq
    cases tt with
    | nil =>
      obtain rfl : q = none := hq
      have HF : Hid (find f [] t.runes = pre) := by
        show _ = _
        rw [hfd]
        unfold find
        simp only [T.runes, seek, Option.getD_none, List.append_nil]
        split <;> rfl
      clear hok hzz hfd
      obtain ⟨⟨a0, a1, a2, a3⟩, _⟩ := hA
      obtain ⟨⟨z0, z1, z2, z3⟩, y0, y1, y2, y3⟩ := hR
      go_wp2
      have hset := counted_set (m1 := C1 pre) (m2 := C2 pre) (m3 := C3 pre) (m4 := C4 pre) HRR.out
      obtain ⟨⟨x0, x1, x2, x3⟩, _⟩ := hset
      refine bodyPost_ret (v := cntV pre) (by simp [results, Tryz.results47, go_sem, x0, x1, x2, x3, cntV]) rfl ⟨by rw [HF.out], below_set4 HBW.out (Nat.le_refl _) _ _ _ _⟩
    | node l c r =>
      obtain ⟨b1, pl, pr, rfl, ⟨c0, c1, c2, c3, c4⟩, ⟨c5, c6⟩, _, _, hl, hr⟩ := hq
      obtain ⟨hol, hor, hx⟩ := okT_node hok
      have e0 : (T.node l c r).runes = l.runes ++ c ++ r.runes := by simp [T.runes]
      rw [e0] at hzz hfd
      go_wp2
      have hz1 : C1 (pre ++ l.runes) ≤ 200000000 := by rw [← List.append_assoc, ← List.append_assoc] at hzz; have := C1_left (C1_left hzz); omega
      have hz2 : C1 (pre ++ l.runes ++ c) ≤ 200000000 := by rw [← List.append_assoc, ← List.append_assoc] at hzz; have := C1_left hzz; omega
      have HZ : Hid (C1 (pre ++ (l.runes ++ c ++ r.runes)) ≤ 100000000) := hzz
      have HO : Hid (okT l ∧ okT r ∧ okChunk c) := ⟨hol, hor, hx⟩
      have HL : Hid (isTree wr pl l) := hl
      have hne1 : b1 ≠ w.heap.size + 1 := fun e => by rw [e, HA.out.1.1] at c0; cases c0
      have HRT : Hid (isTree wr pr r) := hr
      have HFD : Hid (find f [] t.runes = find f pre (l.runes ++ c ++ r.runes)) := hfd
      clear hl hr hol hor hx hzz hfd hok e0 hR
      refine wp_region_rel 8 9 (by kernel_rfl) rfl ?_
      intro w11 hb11
      obtain ⟨G, hG⟩ := exists_growth w11
      have a11 := counted_below hA hb11
      obtain ⟨⟨a0, a1, a2, a3⟩, _⟩ := a11
      have ga0 := hG.cell a0
      have ga1 := hG.cell a1
      have ga2 := hG.cell a2
      have ga3 := hG.cell a3
      have g5 := hG.cell (cell_on hb11 c5)
      have cC := fun x => ncounts_any pl l (G x) (isTree_below (hb11.trans ((hG.below x).mono hb11.size)) HL.out)
      have cP := fun x => plus_cnt pre l.runes hz1 (G x)
      unfold cntV at cP
      clear a0 a1 a2 a3
      (refine anyG_step hG (i := 0) rfl (by kernel_rfl) (by kernel_rfl) (by kernel_rfl) (fun K hK => ?_); go_simp; refine hK _ ?_; clear hK K)
      (refine anyG_step hG (i := 1) rfl (by kernel_rfl) (by kernel_rfl) (by kernel_rfl) (fun K hK => ?_); go_simp; refine hK _ ?_; clear hK K)
      (refine anyG_step hG (i := 2) rfl (by kernel_rfl) (by kernel_rfl) (by kernel_rfl) (fun K hK => ?_); go_simp; refine hK _ ?_; clear hK K)
      (refine anyG_step hG (i := 3) rfl (by kernel_rfl) (by kernel_rfl) (by kernel_rfl) (fun K hK => ?_); go_simp; refine hK _ ?_; clear hK K)
      (refine anyG_step hG (i := 4) rfl (by kernel_rfl) (by kernel_rfl) (by kernel_rfl) (fun K hK => ?_); go_simp; refine hK _ ?_; clear hK K)
      (refine anyG_step hG (i := 5) rfl (by kernel_rfl) (by kernel_rfl) (by kernel_rfl) (fun K hK => ?_); go_simp; apply Exists.intro; refine ⟨fun _ => ?_, hK _ ?_⟩; exact cC _; clear hK K)
      (refine anyG_step hG (i := 6) rfl (by kernel_rfl) (by kernel_rfl) (by kernel_rfl) (fun K hK => ?_); go_simp; apply Exists.intro; refine ⟨fun _ => ?_, hK _ ?_⟩; exact cP _; clear hK K)
      clear ga0 ga1 ga2 ga3 g5 cC cP hG
      refine anyG_one (i := 7) rfl (by kernel_rfl) ?_
      intro w12 hb12 K hK
      go_simp
      have hb1a : Below w12.heap.size w12 (w12.alloc (.cells #[.int .i64 0, .int .i64 0, .int .i64 0, .int .i64 0] 29)) := (Below.refl _ w12).alloc (Nat.le_refl _) _
      refine hK _ _ hb1a ?_
      clear hK K
      refine anyG_late (i := 8) rfl (by kernel_rfl) (by kernel_rfl) ?_
      intro w13 hb13 K hK
      have hh := counted_below (counted_new w12 0 0 0 0 29) hb13
      have HH : Hid _ := hh
      obtain ⟨⟨h0, h1, h2, h3⟩, k0, k1, k2, k3⟩ := hh
      go_simp
      refine hK _ _ ?_
      clear hK K
      refine anyG_end (by kernel_rfl) ?_
      intro w14 hb14
      have hx1 := hb11.trans (hb12.mono hb11.size)
      have hx2 := hx1.trans (hb1a.mono hx1.size)
      have hx3 := hx2.trans (hb13.mono hx2.size)
      have hx4 := below_set4 hx3 (B := w12.heap.size) hx1.size (.int .i64 (C1 (pre ++ l.runes))) (.int .i64 (C2 (pre ++ l.runes))) (.int .i64 (C3 (pre ++ l.runes))) (.int .i64 (C4 (pre ++ l.runes)))
      have hB1 := hx4.trans (hb14.mono hx4.size)
      have hC1 := counted_below (counted_set (m1 := C1 (pre ++ l.runes)) (m2 := C2 (pre ++ l.runes)) (m3 := C3 (pre ++ l.runes)) (m4 := C4 (pre ++ l.runes)) HH.out) hb14
      clear hb11 hb12 hb1a hb13 hb14 hx1 hx2 hx3 hx4 HH h0 h1 h2 h3 k0 k1 k2 k3
      generalize w12.heap.size = B1 at *
      have d0 := cell_on hB1 c0
      have d1 := cell_on hB1 c1
      have d2 := cell_on hB1 c2
      have d3 := cell_on hB1 c3
      have d4 := cell_on hB1 c4
      go_wp2
      refine wp_region_rel 8 9 (by kernel_rfl) rfl ?_
      intro w21 hb21
      obtain ⟨G, hG⟩ := exists_growth w21
      have a21 := counted_below hC1 hb21
      obtain ⟨⟨a0, a1, a2, a3⟩, _⟩ := a21
      have ga0 := hG.cell a0
      have ga1 := hG.cell a1
      have ga2 := hG.cell a2
      have ga3 := hG.cell a3
      have g1 := hG.cell (cell_on hb21 d1)
      have g2 := hG.cell (cell_on hb21 d2)
      have g3 := hG.cell (cell_on hb21 d3)
      have g4 := hG.cell (cell_on hb21 d4)
      have cP := fun x => plus_cnt (pre ++ l.runes) c hz2 (G x)
      unfold cntV at cP
      clear a0 a1 a2 a3
      (refine anyG_step hG (i := 0) rfl (by kernel_rfl) (by kernel_rfl) (by kernel_rfl) (fun K hK => ?_); go_simp; refine hK _ ?_; clear hK K)
      (refine anyG_step hG (i := 1) rfl (by kernel_rfl) (by kernel_rfl) (by kernel_rfl) (fun K hK => ?_); go_simp; refine hK _ ?_; clear hK K)
      (refine anyG_step hG (i := 2) rfl (by kernel_rfl) (by kernel_rfl) (by kernel_rfl) (fun K hK => ?_); go_simp; refine hK _ ?_; clear hK K)
      (refine anyG_step hG (i := 3) rfl (by kernel_rfl) (by kernel_rfl) (by kernel_rfl) (fun K hK => ?_); go_simp; refine hK _ ?_; clear hK K)
      (refine anyG_step hG (i := 4) rfl (by kernel_rfl) (by kernel_rfl) (by kernel_rfl) (fun K hK => ?_); go_simp; refine hK _ ?_; clear hK K)
      (refine anyG_step hG (i := 5) rfl (by kernel_rfl) (by kernel_rfl) (by kernel_rfl) (fun K hK => ?_); go_simp; refine hK _ ?_; clear hK K)
      (refine anyG_step hG (i := 6) rfl (by kernel_rfl) (by kernel_rfl) (by kernel_rfl) (fun K hK => ?_); go_simp; apply Exists.intro; refine ⟨fun _ => ?_, hK _ ?_⟩; exact cP _; clear hK K)
      clear ga0 ga1 ga2 ga3 g1 g2 g3 g4 cP hG d0 d1 d2 d3 d4
      refine anyG_one (i := 7) rfl (by kernel_rfl) ?_
      intro w22 hb22 K hK
      go_simp
      have hb2a : Below w22.heap.size w22 (w22.alloc (.cells #[.int .i64 0, .int .i64 0, .int .i64 0, .int .i64 0] 29)) := (Below.refl _ w22).alloc (Nat.le_refl _) _
      refine hK _ _ hb2a ?_
      clear hK K
      refine anyG_late (i := 8) rfl (by kernel_rfl) (by kernel_rfl) ?_
      intro w23 hb23 K hK
      have hh := counted_below (counted_new w22 0 0 0 0 29) hb23
      have HH : Hid _ := hh
      obtain ⟨⟨h0, h1, h2, h3⟩, k0, k1, k2, k3⟩ := hh
      go_simp
      refine hK _ _ ?_
      clear hK K
      refine anyG_end (by kernel_rfl) ?_
      intro w24 hb24
      have hx1 := hb21.trans (hb22.mono hb21.size)
      have hne2 : w22.heap.size ≠ w.heap.size + 1 := by have := hx1.size; have := hB1.size; have := counted_lt HA.out; omega
      have hx2 := hx1.trans (hb2a.mono hx1.size)
      have hx3 := hx2.trans (hb23.mono hx2.size)
      have hx4 := below_set4 hx3 (B := w22.heap.size) hx1.size (.int .i64 (C1 (pre ++ (l.runes ++ c)))) (.int .i64 (C2 (pre ++ (l.runes ++ c)))) (.int .i64 (C3 (pre ++ (l.runes ++ c)))) (.int .i64 (C4 (pre ++ (l.runes ++ c))))
      have hB2 := hx4.trans (hb24.mono hx4.size)
      have hC2 := counted_below (counted_set (m1 := C1 (pre ++ (l.runes ++ c))) (m2 := C2 (pre ++ (l.runes ++ c))) (m3 := C3 (pre ++ (l.runes ++ c))) (m4 := C4 (pre ++ (l.runes ++ c))) HH.out) hb24
      clear hb21 hb22 hb2a hb23 hb24 hx1 hx2 hx3 hx4 HH h0 h1 h2 h3 k0 k1 k2 k3
      generalize w22.heap.size = B2 at *
      have hB12 := hB1.trans (hB2.mono hB1.size)
      have hF := counted_below hC1 hB2
      have HF : Hid _ := hF
      have HH2 : Hid _ := hC2
      have hbw2 := hbw.trans (hB12.mono hbw.size)
      obtain ⟨⟨f0, f1, f2, f3⟩, _⟩ := hF
      go_wp2
      have hq1 := HE.out.2 (pre ++ l.runes) w24 hz1 hbw2
      refine hq1.mono ?_
      rintro e w31 ⟨rfl, hb31⟩
      have hB13 := hB12.trans (hb31.mono hB12.size)
      have hF3 := counted_below HF.out hb31
      have hH3 := counted_below HH2.out hb31
      have hbw3 := hbw.trans (hB13.mono hbw.size)
      have e0 := cell_on hB13 c0
      have e5 := cell_on hB13 c5
      have e6 := cell_on hB13 c6
      have HF3 : Hid _ := hF3
      have HH3 : Hid _ := hH3
      have HB13 : Hid _ := hB13
      have HBW3 : Hid _ := hbw3
      clear f0 f1 f2 f3 hq1 hb31 hC1 hC2 hB1 hB2 hB12 hbw2 c0 c1 c2 c3 c4 c5 c6 hB13 hbw3 hbw hA
      obtain ⟨⟨f0, f1, f2, f3⟩, _⟩ := hF3
      obtain ⟨⟨h0, h1, h2, h3⟩, _⟩ := hH3
      cases hf1 : f (pre ++ l.runes) with
      | true =>
        clear h0 h1 h2 h3 f0 f1 f2 f3
        go_wp2
        go_roundw
        case rel => exact ⟨pl, l, pre, rfl, isTree_below HB13.out HL.out, HO.out.1, counted_below HA.out HB13.out, counted_below HRR.out HB13.out, HBW3.out, (by have := HZ.out; rw [List.append_assoc l.runes, ← List.append_assoc] at this; exact C1_left this), by rw [HFD.out, List.append_assoc, find_left hf1], (cellOn (HB13.out.block (w.heap.size + 1) (counted_lt HA.out)) 5).trans HN5.out⟩
        case measure =>
          show sizeAt _ _ < sizeAt _ _
          rw [sizeAt_tree (isTree_below HB13.out HL.out), sizeAt_tree HQ.out]
          simp only [T.size]
          omega
      | false =>
        go_wp2
        have hq2 := HE.out.2 (pre ++ (l.runes ++ c)) w31 (by rw [← List.append_assoc]; exact hz2) HBW3.out
        refine hq2.mono ?_
        rintro e w41 ⟨rfl, hb41⟩
        have hF4 := counted_below HF3.out hb41
        have hH4 := counted_below HH3.out hb41
        have hB14 := HB13.out.trans (hb41.mono HB13.out.size)
        have hbw4 := HBW3.out.trans (hb41.mono HBW3.out.size)
        have i0 := cell_on hb41 e0
        have i6 := cell_on hb41 e6
        have HB14 : Hid _ := hB14
        have HBW4 : Hid _ := hbw4
        have HF4 : Hid _ := hF4
        have HH4 : Hid _ := hH4
        clear hq2 hb41 f0 f1 f2 f3 h0 h1 h2 h3 e0 e5 e6
        obtain ⟨⟨f0, f1, f2, f3⟩, _⟩ := hF4
        obtain ⟨⟨h0, h1, h2, h3⟩, _⟩ := hH4
        cases hf2 : f (pre ++ (l.runes ++ c)) with
        | true =>
          go_wp2
          refine wp_region_rel 8 9 (by kernel_rfl) rfl ?_
          intro w51 hb51
          obtain ⟨G, hG⟩ := exists_growth w51
          have ga0 := hG.cell (cell_on hb51 f0)
          have ga1 := hG.cell (cell_on hb51 f1)
          have ga2 := hG.cell (cell_on hb51 f2)
          have ga3 := hG.cell (cell_on hb51 f3)
          have g0 := hG.cell (cell_on hb51 i0)
          have hbw5 := hbw4.trans (hb51.mono hbw4.size)
          have cW := fun x => within_any f F cap (pre ++ l.runes) c HO.out.2.2.2.2 (by have := HZ.out; rw [← List.append_assoc, ← List.append_assoc] at this; exact C1_left this) (G x) (Go.Proofs.Utf8Tabs_below HT.out (hbw5.trans ((hG.below x).mono hbw5.size))) (asks_below HE.out (hbw5.trans ((hG.below x).mono hbw5.size)))
          have HN : Hid (find f [] t.runes = (seek f (pre ++ l.runes) c).getD (pre ++ l.runes)) := by
            show _ = _
            rw [HFD.out, find_here hf hf1 (by rw [List.append_assoc]; exact hf2)]
          generalize (seek f (pre ++ l.runes) c).getD (pre ++ l.runes) = X at *
          unfold cntV at cW
          (refine anyG_step hG (i := 0) rfl (by kernel_rfl) (by kernel_rfl) (by kernel_rfl) (fun K hK => ?_); go_simp; refine hK _ ?_; clear hK K)
          (refine anyG_step hG (i := 1) rfl (by kernel_rfl) (by kernel_rfl) (by kernel_rfl) (fun K hK => ?_); go_simp; refine hK _ ?_; clear hK K)
          (refine anyG_step hG (i := 2) rfl (by kernel_rfl) (by kernel_rfl) (by kernel_rfl) (fun K hK => ?_); go_simp; refine hK _ ?_; clear hK K)
          (refine anyG_step hG (i := 3) rfl (by kernel_rfl) (by kernel_rfl) (by kernel_rfl) (fun K hK => ?_); go_simp; refine hK _ ?_; clear hK K)
          (refine anyG_step hG (i := 4) rfl (by kernel_rfl) (by kernel_rfl) (by kernel_rfl) (fun K hK => ?_); go_simp; refine hK _ ?_; clear hK K)
          (refine anyG_step hG (i := 5) rfl (by kernel_rfl) (by kernel_rfl) (by kernel_rfl) (fun K hK => ?_); go_simp; refine hK _ ?_; clear hK K)
          (refine anyG_step hG (i := 6) rfl (by kernel_rfl) (by kernel_rfl) (by kernel_rfl) (fun K hK => ?_); go_simp; refine hK _ ?_; clear hK K)
          (refine anyG_step hG (i := 7) rfl (by kernel_rfl) (by kernel_rfl) (by kernel_rfl) (fun K hK => ?_); go_simp; apply Exists.intro; refine ⟨fun _ => ?_, hK _ ?_⟩; exact cW _; clear hK K)
          clear ga0 ga1 ga2 ga3 g0 cW hG f0 f1 f2 f3 h0 h1 h2 h3 i0 i6
          refine anyG_late (i := 8) rfl (by kernel_rfl) (by kernel_rfl) ?_
          intro w53 hb53 K hK
          have hbw6 := hbw5.trans (hb53.mono hbw5.size)
          have hr6 := counted_below HRR.out (HB14.out.trans ((hb51.trans (hb53.mono hb51.size)).mono HB14.out.size))
          have HR6 : Hid _ := hr6
          obtain ⟨⟨z0, z1, z2, z3⟩, y0, y1, y2, y3⟩ := hr6
          go_simp
          refine hK _ _ ?_
          clear hK K
          refine anyG_end (by kernel_rfl) ?_
          intro w54 hb54
          have hset := counted_below (counted_set (m1 := C1 X) (m2 := C2 X) (m3 := C3 X) (m4 := C4 X) HR6.out) hb54
          have hbw7 := below_set4 hbw6 (Nat.le_refl _) (.int .i64 (C1 X)) (.int .i64 (C2 X)) (.int .i64 (C3 X)) (.int .i64 (C4 X))
          have hbw8 := hbw7.trans (hb54.mono hbw7.size)
          clear z0 z1 z2 z3 y0 y1 y2 y3 hb54
          obtain ⟨⟨x0, x1, x2, x3⟩, _⟩ := hset
          go_wp2
          refine bodyPost_ret (v := cntV X) (by simp [results, Tryz.results47, go_sem, x0, x1, x2, x3, cntV]) rfl ⟨by rw [HN.out], hbw8⟩
        | false =>
          go_wp2
          refine wp_region_but (w.heap.size + 1) 7 7 (by kernel_rfl) rfl ?_
          intro w51 hb51
          obtain ⟨G, hG⟩ := exists_growB (w.heap.size + 1) w51
          have hw0 := But.refl (w.heap.size + 1) w51
          have ga0 := hG.cell hne2 (cell_on hb51 h0)
          have ga1 := hG.cell hne2 (cell_on hb51 h1)
          have ga2 := hG.cell hne2 (cell_on hb51 h2)
          have ga3 := hG.cell hne2 (cell_on hb51 h3)
          have g6 := hG.cell hne1 (cell_on hb51 i6)
          (refine anyB_step hG hw0 (i := 0) rfl (by kernel_rfl) (by kernel_rfl) (by kernel_rfl) (fun K hK => ?_); go_simp; refine hK _ ?_; clear hK K)
          (refine anyB_step hG hw0 (i := 1) rfl (by kernel_rfl) (by kernel_rfl) (by kernel_rfl) (fun K hK => ?_); go_simp; refine hK _ ?_; clear hK K)
          (refine anyB_step hG hw0 (i := 2) rfl (by kernel_rfl) (by kernel_rfl) (by kernel_rfl) (fun K hK => ?_); go_simp; refine hK _ ?_; clear hK K)
          (refine anyB_step hG hw0 (i := 3) rfl (by kernel_rfl) (by kernel_rfl) (by kernel_rfl) (fun K hK => ?_); go_simp; refine hK _ ?_; clear hK K)
          (refine anyB_step hG hw0 (i := 4) rfl (by kernel_rfl) (by kernel_rfl) (by kernel_rfl) (fun K hK => ?_); go_simp; refine hK _ ?_; clear hK K)
          clear ga0 ga1 ga2 ga3 g6 hG f0 f1 f2 f3 h0 h1 h2 h3 i0 i6
          refine anyB_one (i := 5) (by kernel_rfl) ⟨_, rfl, ?_⟩
          intro w53 hb53 K hK
          have hb43 := hb51.trans (hb53.mono hb51.size)
          have hB15 := HB14.out.trans (hb43.mono HB14.out.size)
          have ha6 := counted_below HA.out hB15
          have HA6 : Hid _ := ha6
          have HB15 : Hid _ := hB15
          obtain ⟨⟨z0, z1, z2, z3⟩, y0, y1, y2, y3⟩ := ha6
          go_simp
          refine hK _ _ (fun h => (((h.setCell rfl _).setCell rfl _).setCell rfl _).setCell rfl _) ?_
          clear hK K z0 z1 z2 z3 y0 y1 y2 y3
          refine anyB_one (i := 6) (by kernel_rfl) ⟨_, rfl, ?_⟩
          intro w55 hb55 K hK
          go_simp
          refine hK _ _ (fun h => h) ?_
          clear hK K
          refine anyB_end (by kernel_rfl) ?_
          intro w56 hb56
          have hb57 := hb55.trans (hb56.mono hb55.size)
          have HN6 : Hid (w53.cell? ⟨w.heap.size + 1, 5, none⟩ = none) := (cellOn (HB15.out.block (w.heap.size + 1) (counted_lt HA.out)) 5).trans HN5.out
          have HBU : Hid _ := ((((But.refl (w.heap.size + 1) w53).setCell (p := ⟨w.heap.size + 1, 0, none⟩) rfl (.int .i64 (C1 (pre ++ (l.runes ++ c))))).setCell (p := ⟨w.heap.size + 1, 1, none⟩) rfl (.int .i64 (C2 (pre ++ (l.runes ++ c))))).setCell (p := ⟨w.heap.size + 1, 2, none⟩) rfl (.int .i64 (C3 (pre ++ (l.runes ++ c))))).setCell (p := ⟨w.heap.size + 1, 3, none⟩) rfl (.int .i64 (C4 (pre ++ (l.runes ++ c))))
          have hT6 := isTree_below hb57 (isTree_but HBU.out HN6.out (isTree_below HB15.out HRT.out))
          have hA7 := counted_below (counted_set (m1 := C1 (pre ++ (l.runes ++ c))) (m2 := C2 (pre ++ (l.runes ++ c))) (m3 := C3 (pre ++ (l.runes ++ c))) (m4 := C4 (pre ++ (l.runes ++ c))) HA6.out) hb57
          have hbw5 : Below w.heap.size w w53 := HBW4.out.trans (hb43.mono HBW4.out.size)
          have hbw6 := below_set4 hbw5 (B := w.heap.size + 1) (Nat.le_succ _) (.int .i64 (C1 (pre ++ (l.runes ++ c)))) (.int .i64 (C2 (pre ++ (l.runes ++ c)))) (.int .i64 (C3 (pre ++ (l.runes ++ c)))) (.int .i64 (C4 (pre ++ (l.runes ++ c))))
          have hbw7 := hbw6.trans (hb57.mono hbw6.size)
          have hR5 := counted_below HRR.out HB15.out
          have hR7 := counted_below (counted_on (HBU.out.block w.heap.size (counted_lt hR5) (by omega)) hR5) hb57
          have hlt5 : w.heap.size + 1 < w53.heap.size := Nat.lt_of_lt_of_le (counted_lt HA.out) HB15.out.size
          have hn7 := (cellOn (hb57.block (w.heap.size + 1) (by simpa [World.setCell] using hlt5)) 5).trans ((World.cell?_setCell_other _ _ ⟨w.heap.size + 1, 5, none⟩ _ (by simp)).trans ((World.cell?_setCell_other _ _ ⟨w.heap.size + 1, 5, none⟩ _ (by simp)).trans ((World.cell?_setCell_other _ _ ⟨w.heap.size + 1, 5, none⟩ _ (by simp)).trans ((World.cell?_setCell_other _ _ ⟨w.heap.size + 1, 5, none⟩ _ (by simp)).trans HN6.out))))
          have HG : Hid (find f [] t.runes = find f (pre ++ (l.runes ++ c)) r.runes) := by
            show _ = _
            rw [HFD.out, find_right hf hf2]
          clear hb43 hb51 hb53 hb55 hb56 hB14 hbw4 hbw5 hbw6 hB15 hR5 hlt5
          go_wp2
          go_roundw
          case rel => exact ⟨pr, r, pre ++ (l.runes ++ c), rfl, hT6, HO.out.2.1, hA7, hR7, hbw7, (by have := HZ.out; rwa [← List.append_assoc] at this), HG.out, hn7⟩
          case measure =>
            show sizeAt _ _ < sizeAt _ _
            rw [sizeAt_tree hT6, sizeAt_tree HQ.out]
            simp only [T.size]
            omega
end Go.Proofs.YtldhbjmillfjgaaGreatDoor

namespace Go.Proofs.YtldhbjmillfjgaaGreatDoor
open Go.RowKit
set_option linter.unusedVariables false
attribute [local go_sem] Oper.semAt_some yieldsUpon okUpon field0

def reaches (at_ : Int) (rs : List Nat) : Bool := decide (at_ ≤ C1 rs)
theorem reaches_rising (at_ : Int) : rising (reaches at_) := fun a b h => by
  have h1 : at_ ≤ C1 a := of_decide_eq_true h
  have := C1_pos b
  exact decide_eq_true (by rw [C1_append]; omega)

set_option maxRecDepth 100000 in
set_option maxHeartbeats 2000000 in
theorem whole1_asks (at_ : Int) (b : Nat) (W : World) (hb : W.cell? ⟨b, 0, none⟩ = some (.int .i64 at_)) : asks W 69 #[.pointer (some ⟨b, 0, none⟩)] (reaches at_) := by
  refine ⟨enters_of Tryz.func69 (by kernel_rfl) rfl, fun rs wx _ hbx => ?_⟩
  have h0 := cell_on hbx hb
  have hbw : Below wx.heap.size wx (wx.alloc (.cells #[.int .i64 (C1 rs), .int .i64 (C2 rs), .int .i64 (C3 rs), .int .i64 (C4 rs)] 29)) := (Below.refl _ _).alloc (Nat.le_refl _) _
  have h1 := cell_on hbw h0
  unfold cntV reaches
  go_enter Tryz.func69, Tryz.ntmps69
  go_wp2
  go_ret
  exact ⟨by simp, hbw⟩

set_option maxRecDepth 100000 in
set_option maxHeartbeats 2000000 in
theorem whole_any (p : Option Addr) (t : T) (at_ : Int) (w : World) (hT : Lib.Utf8Tabs 2 3 w) (ht : isTree w p t) (ho : okT t) (hz : C1 t.runes ≤ 100000000) :
    Calls Tryz.prog 37 #[.pointer p, .int .i64 at_] w fun e w' => e = .returned (.bool (decide (C1 (find (reaches at_) [] t.runes) = at_))) ∧ Below w.heap.size w w' := by
  have hbw : Below w.heap.size w (w.alloc (.cells #[.int .i64 at_] 3)) := (Below.refl _ _).alloc (Nat.le_refl _) _
  have h1 : (w.alloc (.cells #[.int .i64 at_] 3)).cell? ⟨w.heap.size, 0, none⟩ = some (.int .i64 at_) := by simp [go_sem]
  have hU := fun wx (hb : Below (w.alloc (.cells #[.int .i64 at_] 3)).heap.size (w.alloc (.cells #[.int .i64 at_] 3)) wx) => until_any (reaches at_) (reaches_rising at_) 69 #[.pointer (some ⟨w.heap.size, 0, none⟩)] p t wx (Go.Proofs.Utf8Tabs_below (Go.Proofs.Utf8Tabs_below hT hbw) hb) (isTree_below hb (isTree_below hbw ht)) ho hz (whole1_asks at_ w.heap.size _ (cell_on hb h1))
  unfold cntV at hU
  clear ht ho hz hT
  go_enter Tryz.func37, Tryz.ntmps37
  go_wp2_with (first | (go_at_call 9999) | fail)
  refine wp_region_rel 7 7 (by kernel_rfl) rfl ?_
  intro w1 hb1
  obtain ⟨G, hG⟩ := exists_growth w1
  have g0 := hG.cell (cell_on hb1 h1)
  have cU := fun x => hU (G x) (hb1.trans ((hG.below x).mono hb1.size))
  (refine anyG_step hG (i := 0) rfl (by kernel_rfl) (by kernel_rfl) (by kernel_rfl) (fun K hK => ?_); go_simp; refine hK _ ?_; clear hK K)
  (refine anyG_step hG (i := 1) rfl (by kernel_rfl) (by kernel_rfl) (by kernel_rfl) (fun K hK => ?_); go_simp; refine hK _ ?_; clear hK K)
  (refine anyG_step hG (i := 2) rfl (by kernel_rfl) (by kernel_rfl) (by kernel_rfl) (fun K hK => ?_); go_simp; apply Exists.intro; refine ⟨fun _ => ?_, hK _ ?_⟩; exact cU _; clear hK K)
  (refine anyG_step hG (i := 3) rfl (by kernel_rfl) (by kernel_rfl) (by kernel_rfl) (fun K hK => ?_); go_simp; refine hK _ ?_; clear hK K)
  (refine anyG_step hG (i := 4) rfl (by kernel_rfl) (by kernel_rfl) (by kernel_rfl) (fun K hK => ?_); go_simp; refine hK _ ?_; clear hK K)
  (refine anyG_step hG (i := 5) rfl (by kernel_rfl) (by kernel_rfl) (by kernel_rfl) (fun K hK => ?_); go_simp; refine hK _ ?_; clear hK K)
  (refine anyG_step hG (i := 6) rfl (by kernel_rfl) (by kernel_rfl) (by kernel_rfl) (fun K hK => ?_); go_simp; refine hK _ ?_; clear hK K)
  clear g0 cU hG hU h1
  refine anyG_end (by kernel_rfl) ?_
  intro w2 hb2
  have hb3 := hb1.trans (hb2.mono hb1.size)
  have hb4 := hbw.trans (hb3.mono hbw.size)
  clear hb1 hb2 hb3
  go_wp2
  go_ret
  have he : (C1 (find (reaches at_) [] t.runes) == at_) = decide (C1 (find (reaches at_) [] t.runes) = at_) := by rw [Bool.eq_iff_iff]; simp
  exact ⟨by simp [he], hb4⟩
end Go.Proofs.YtldhbjmillfjgaaGreatDoor

namespace Go.Proofs.YtldhbjmillfjgaaGreatDoor
open Go.RowKit
set_option linter.unusedVariables false
attribute [local go_sem] Oper.semAt_some yieldsUpon okUpon field0 field3

/-- How many of a unit. -/
def by_ (u : Int) (rs : List Nat) : Int := if u = 1 then C1 rs else if u = 2 then C2 rs else if u = 3 then C3 rs else 0
theorem by_append (u : Int) (a b : List Nat) : by_ u (a ++ b) = by_ u a + by_ u b := by
  unfold by_
  split
  · exact C1_append a b
  · split
    · exact C2_append a b
    · split
      · exact C3_append a b
      · rfl
theorem by_pos (u : Int) (a : List Nat) : 0 ≤ by_ u a := by
  unfold by_
  split
  · exact C1_pos a
  · split
    · exact (C2_le a).1
    · split
      · exact (C3_le a).1
      · omega

set_option maxRecDepth 100000 in
set_option maxHeartbeats 2000000 in
theorem In_any (u : Int) (rs : List Nat) (w : World) : Calls Tryz.prog 46 #[cntV rs, .int .i64 u] w fun e w' => e = .returned (.int .i64 (by_ u rs)) ∧ Below w.heap.size w w' := by
  have hbw : Below w.heap.size w (w.alloc (.cells #[.int .i64 (C1 rs), .int .i64 (C2 rs), .int .i64 (C3 rs), .int .i64 (C4 rs)] 29)) := (Below.refl _ _).alloc (Nat.le_refl _) _
  unfold cntV by_
  by_cases h1 : u = 1
  · subst h1
    go_enter Tryz.func46, Tryz.ntmps46
    go_wp2
    go_ret
    exact ⟨rfl, hbw⟩
  · have k1 : (u == 1) = false := beq_eq_false_iff_ne.2 h1
    rw [if_neg h1]
    by_cases h2 : u = 2
    · subst h2
      go_enter Tryz.func46, Tryz.ntmps46
      go_wp2
      go_ret
      exact ⟨rfl, hbw⟩
    · have k2 : (u == 2) = false := beq_eq_false_iff_ne.2 h2
      rw [if_neg h2]
      by_cases h3 : u = 3
      · subst h3
        go_enter Tryz.func46, Tryz.ntmps46
        go_wp2
        go_ret
        exact ⟨rfl, hbw⟩
      · have k3 : (u == 3) = false := beq_eq_false_iff_ne.2 h3
        rw [if_neg h3]
        clear h1 h2 h3
        go_enter Tryz.func46, Tryz.ntmps46
        go_wp2
        go_ret
        exact ⟨rfl, hbw⟩

def reachesBy (u at_ : Int) (rs : List Nat) : Bool := decide (at_ ≤ by_ u rs)
theorem reachesBy_rising (u at_ : Int) : rising (reachesBy u at_) := fun a b h => by
  have h1 : at_ ≤ by_ u a := of_decide_eq_true h
  have := by_pos u b
  exact decide_eq_true (by rw [by_append]; omega)
def reachesLine (line : Int) (rs : List Nat) : Bool := decide (line ≤ C4 rs)
theorem reachesLine_rising (line : Int) : rising (reachesLine line) := fun a b h => by
  have h1 : line ≤ C4 a := of_decide_eq_true h
  have := (C4_le b).1
  exact decide_eq_true (by rw [C4_append]; omega)

set_option maxRecDepth 100000 in
set_option maxHeartbeats 2000000 in
theorem line1_asks (line : Int) (b : Nat) (W : World) (hb : W.cell? ⟨b, 0, none⟩ = some (.int .i64 line)) : asks W 50 #[.pointer (some ⟨b, 0, none⟩)] (reachesLine line) := by
  refine ⟨enters_of Tryz.func50 (by kernel_rfl) rfl, fun rs wx _ hbx => ?_⟩
  have h0 := cell_on hbx hb
  have hbw : Below wx.heap.size wx (wx.alloc (.cells #[.int .i64 (C1 rs), .int .i64 (C2 rs), .int .i64 (C3 rs), .int .i64 (C4 rs)] 29)) := (Below.refl _ _).alloc (Nat.le_refl _) _
  have h1 := cell_on hbw h0
  unfold cntV reachesLine
  go_enter Tryz.func50, Tryz.ntmps50
  go_wp2
  go_ret
  exact ⟨by simp, hbw⟩
end Go.Proofs.YtldhbjmillfjgaaGreatDoor

namespace Go.Proofs.YtldhbjmillfjgaaGreatDoor
open Go.RowKit
set_option linter.unusedVariables false

/-- What Count tells of a sound text. -/
theorem refCount_of (s : ByteArray) (rs : List Nat) (hr : ∀ r ∈ rs, isRune r) (he : encs rs = s.data.toList) (hs : s.size < 100000000) (w : World) :
    Calls Tryz.prog 6 #[.string s] w fun e w' => e = .returned (.tuple #[cntV rs, .agg #[.int .i64 0, .int .i64 (-1)]]) ∧ Below w.heap.size w w' := by
  have hsc := scan_encs rs hr
  rw [he] at hsc
  have hro : runesOf s.data.toList = rs := by
    unfold runesOf
    rw [hsc]
    simp [wide, List.map_map, Function.comp_def]
  refine (refCount_good s hs w (by rw [hsc])).mono fun e w' h => ⟨?_, h.1⟩
  rw [h.2, hro]
  have h1 : (s.size : Int) = C1 rs := by rw [C1_len, he, ← Lib.size_eq]
  have h2 : ((halRow rs).length : Int) = C2 rs := by unfold C2; rw [sum2_wide]
  have h4 : (Lib.countByte s.data.toList 10 : Int) = C4 rs := by unfold C4; rw [sum4_wide hr, he]
  unfold cnt cntV
  rw [h1, h2, h4]
  rfl
end Go.Proofs.YtldhbjmillfjgaaGreatDoor

namespace Go.Proofs.YtldhbjmillfjgaaGreatDoor
open Go.RowKit
open Go.Maps (Keyed int_keyed keyOf_int_mk)
set_option linter.unusedVariables false

theorem keyed_int : Keyed Tryz.prog 3 := int_keyed Tryz.underlying3
theorem zero_int (w : World) : (zeroValue 3).run Tryz.prog w = .ok (.int .i64 0) w := by kernel_rfl
def inC (u a b c : Int) : Int := if u = 1 then a else if u = 2 then b else if u = 3 then c else 0
theorem at_in (u a b c : Int) : (((((DataW.map (H := Unit) []).put (.int .i64 1) (.lit (.int .i64 a))).put (.int .i64 2) (.lit (.int .i64 b))).put (.int .i64 3) (.lit (.int .i64 c))).atKey (.int .i64 u) (.lit (.int .i64 0))) = .lit (.int .i64 (inC u a b c)) := by
  simp [DataW.put, DataW.insert, DataW.atKey, Lit.sameKey, Lit.before, inC]
  by_cases h1 : u = 1
  · subst h1; rfl
  by_cases h2 : u = 2
  · subst h2; rfl
  by_cases h3 : u = 3
  · subst h3; rfl
  simp [List.find?, h1, h2, h3, Ne.symm h1, Ne.symm h2, Ne.symm h3]

set_option maxHeartbeats 1000000 in
theorem refinc_any (a1 a2 a3 a4 u : Int) (v1 : (Lit.int .i64 a1).wf = true) (v2 : (Lit.int .i64 a2).wf = true) (v3 : (Lit.int .i64 a3).wf = true) (vu : (Lit.int .i64 u).wf = true) (w : World) :
    Calls Tryz.prog 20 #[.agg #[.int .i64 a1, .int .i64 a2, .int .i64 a3, .int .i64 a4], .int .i64 u] w
      fun e w' => e = .returned (.int .i64 (inC u a1 a2 a3)) ∧ Below w.heap.size w w' := by
  have wf1 : (Lit.int .i64 1).wf = true := by decide
  have wf2 : (Lit.int .i64 2).wf = true := by decide
  have wf3 : (Lit.int .i64 3).wf = true := by decide
  have hb0 : Below (w.heap.size + 1) (w.alloc (.cells #[.int .i64 a1, .int .i64 a2, .int .i64 a3, .int .i64 a4] 29)) ((w.alloc (.cells #[.int .i64 a1, .int .i64 a2, .int .i64 a3, .int .i64 a4] 29)).alloc (.map #[] 0)) :=
    (Below.refl _ _).alloc (by simp) _
  have h0 := World.ownsMap_made (H := Unit) (w.alloc (.cells #[.int .i64 a1, .int .i64 a2, .int .i64 a3, .int .i64 a4] 29)) Tryz.prog 3 (plainElem Tryz.prog 3)
  rw [World.size_alloc] at h0
  obtain ⟨w1, r1, h1, g1⟩ := h0.update keyed_int Tryz.underlying98 (by unfold maxLen; omega) (keyOf_int_mk Tryz.underlying3 wf1) (plainElem_int Tryz.underlying3 v1)
  have hb1 := hb0.grown g1 (by simp) (by intro k hk; cases hk; omega)
  obtain ⟨w2, r2, h2, g2⟩ := h1.update keyed_int Tryz.underlying98 (by unfold maxLen; omega) (keyOf_int_mk Tryz.underlying3 wf2) (plainElem_int Tryz.underlying3 v2)
  have hb2 := hb1.grown g2 (by have := hb1.size; simp at this; omega) (by intro k hk; cases hk; omega)
  obtain ⟨w3, r3, h3, g3⟩ := h2.update keyed_int Tryz.underlying98 (by unfold maxLen; omega) (keyOf_int_mk Tryz.underlying3 wf3) (plainElem_int Tryz.underlying3 v3)
  have hb3 := hb2.grown g3 (by have := hb2.size; simp at this; omega) (by intro k hk; cases hk; omega)
  obtain ⟨c, r4, h4, _⟩ := h3.lookup_int keyed_int Tryz.underlying98 Tryz.underlying3 (zero_int _) (keyOf_int_mk Tryz.underlying3 vu)
  rw [at_in] at h4
  injection h4 with h4; injection h4 with _ h4
  have c1 : w1.cell? ⟨w.heap.size, 1, none⟩ = some (.int .i64 a2) := by rw [hb1.cell (p := ⟨w.heap.size, 1, none⟩) (by simp)]; simp [go_sem]
  have c2 : w2.cell? ⟨w.heap.size, 2, none⟩ = some (.int .i64 a3) := by rw [hb2.cell (p := ⟨w.heap.size, 2, none⟩) (by simp)]; simp [go_sem]
  have hb : Below w.heap.size w w3 := (((Below.refl _ w).alloc (Nat.le_refl _) _)).trans (hb3.mono (by omega))
  clear hb0 hb1 hb2 hb3 h0 h1 h2 h3 g1 g2 g3
  subst h4
  have hmm := @run_makeMap Tryz.prog
  go_enter Tryz.func20, Tryz.ntmps20
  go_wp2
  go_ret
  exact ⟨rfl, hb⟩
theorem wf_small {n : Int} (h0 : -9223372036854775808 ≤ n) (h1 : n < 9223372036854775808) : (Lit.int .i64 n).wf = true := by
  simp [Lit.wf, IntKind.min, IntKind.max, IntKind.signed, IntKind.bits]; omega
/-- How many of a unit. -/
theorem refIn_any (u : Int) (rs : List Nat) (hu0 : -9223372036854775808 ≤ u) (hu1 : u < 9223372036854775808) (hz : C1 rs ≤ 100000000) (w : World) :
    Calls Tryz.prog 20 #[cntV rs, .int .i64 u] w fun e w' => e = .returned (.int .i64 (by_ u rs)) ∧ Below w.heap.size w w' := by
  have h1 := C1_pos rs
  have h2 := C2_le rs
  have h3 := C3_le rs
  exact refinc_any (C1 rs) (C2 rs) (C3 rs) (C4 rs) u (wf_small (by omega) (by omega)) (wf_small (by omega) (by omega)) (wf_small (by omega) (by omega)) (wf_small hu0 hu1) w

/-- The places as the program counts them. -/
theorem edge_cnt {rs : List Nat} (hr : ∀ r ∈ rs, isRune r) {i : Nat} (hi : i ≤ rs.length) : edge rs i = [.int .i64 (C1 (rs.take i)), .int .i64 (C2 (rs.take i)), .int .i64 (C3 (rs.take i)), .int .i64 (C4 (rs.take i))] := by
  have h1 : edge1 rs i = C1 (rs.take i) := by unfold edge1; rw [C1_len]
  have h2 : edge2 rs i = C2 (rs.take i) := by unfold edge2 C2; rw [sum2_wide]
  have h3 : C3 (rs.take i) = (i : Int) := by show ((rs.take i).length : Int) = _; rw [List.length_take]; omega
  have h4 : edge4 rs i = C4 (rs.take i) := by unfold edge4 C4; rw [sum4_wide fun r h => hr r (List.mem_of_mem_take h)]
  unfold edge
  rw [h1, h2, h3, h4]
end Go.Proofs.YtldhbjmillfjgaaGreatDoor

namespace Go.Proofs.YtldhbjmillfjgaaGreatDoor
open Go.RowKit
set_option linter.unusedVariables false
attribute [local go_sem] Oper.semAt_some yieldsUpon okUpon field0 field3

set_option maxRecDepth 100000 in
set_option maxHeartbeats 2000000 in
theorem ahead1_asks (u at_ : Int) (b1 b2 : Nat) (W : World) (hu : W.cell? ⟨b1, 0, none⟩ = some (.int .i64 u)) (ha : W.cell? ⟨b2, 0, none⟩ = some (.int .i64 at_)) : asks W 48 #[.pointer (some ⟨b1, 0, none⟩), .pointer (some ⟨b2, 0, none⟩)] (reachesBy u at_) := by
  refine ⟨enters_of Tryz.func48 (by kernel_rfl) rfl, fun rs wx _ hbx => ?_⟩
  have h0 := cell_on hbx hu
  have h1 := cell_on hbx ha
  have hbw : Below wx.heap.size wx (wx.alloc (.cells #[.int .i64 (C1 rs), .int .i64 (C2 rs), .int .i64 (C3 rs), .int .i64 (C4 rs)] 29)) := (Below.refl _ _).alloc (Nat.le_refl _) _
  have hc := counted_new wx (C1 rs) (C2 rs) (C3 rs) (C4 rs) 29
  have k0 := cell_on hbw h0
  have k1 := cell_on hbw h1
  have cI := fun wy => In_any u rs wy
  unfold cntV at cI ⊢
  unfold reachesBy
  generalize by_ u rs = n at *
  go_enter Tryz.func48, Tryz.ntmps48
  go_wp2_with (first | (go_at_call 9999) | fail)
  refine wp_region_rel 6 6 (by kernel_rfl) rfl ?_
  intro w1 hb1
  obtain ⟨G, hG⟩ := exists_growth w1
  have hc1 := counted_below hc hb1
  obtain ⟨⟨a0, a1, a2, a3⟩, _⟩ := hc1
  have g0 := hG.cell a0
  have g1 := hG.cell a1
  have g2 := hG.cell a2
  have g3 := hG.cell a3
  have gu := hG.cell (cell_on hb1 k0)
  have ga := hG.cell (cell_on hb1 k1)
  have cG := fun x => cI (G x)
  (refine anyG_step hG (i := 0) rfl (by kernel_rfl) (by kernel_rfl) (by kernel_rfl) (fun K hK => ?_); go_simp; refine hK _ ?_; clear hK K)
  (refine anyG_step hG (i := 1) rfl (by kernel_rfl) (by kernel_rfl) (by kernel_rfl) (fun K hK => ?_); go_simp; refine hK _ ?_; clear hK K)
  (refine anyG_step hG (i := 2) rfl (by kernel_rfl) (by kernel_rfl) (by kernel_rfl) (fun K hK => ?_); go_simp; apply Exists.intro; refine ⟨fun _ => ?_, hK _ ?_⟩; exact cG _; clear hK K)
  (refine anyG_step hG (i := 3) rfl (by kernel_rfl) (by kernel_rfl) (by kernel_rfl) (fun K hK => ?_); go_simp; refine hK _ ?_; clear hK K)
  (refine anyG_step hG (i := 4) rfl (by kernel_rfl) (by kernel_rfl) (by kernel_rfl) (fun K hK => ?_); go_simp; refine hK _ ?_; clear hK K)
  (refine anyG_step hG (i := 5) rfl (by kernel_rfl) (by kernel_rfl) (by kernel_rfl) (fun K hK => ?_); go_simp; refine hK _ ?_; clear hK K)
  clear g0 g1 g2 g3 gu ga cG hG
  refine anyG_end (by kernel_rfl) ?_
  intro w2 hb2
  have hb4 := hbw.trans ((hb1.trans (hb2.mono hb1.size)).mono hbw.size)
  clear hb1 hb2 a0 a1 a2 a3 k0 k1 hc
  go_wp2
  go_ret
  exact ⟨by simp, hb4⟩

set_option maxRecDepth 100000 in
set_option maxHeartbeats 2000000 in
theorem line_any (b : Nat) (rs : List Nat) (line : Int) (hl0 : 0 ≤ line) (hl1 : line ≤ C4 rs) (w : World) (hT : Lib.Utf8Tabs 2 3 w) (h : isRope w b rs) (hz : C1 rs ≤ 100000000) :
    Calls Tryz.prog 18 #[.pointer (some ⟨b, 0, none⟩), .int .i64 line] w fun e w' => e = .returned (.tuple #[cntV (find (reachesLine line) [] rs), .nilIface]) ∧ Below w.heap.size w w' := by
  obtain ⟨q, t, h1, _, _, h4, ho, rfl⟩ := h
  have hb2 : Below w.heap.size w ((w.alloc (.cells #[.int .i64 line] 3)).alloc (.cells #[.int .i64 0, .int .i64 0, .int .i64 0, .int .i64 0] 29)) := ((Below.refl _ w).alloc (Nat.le_refl _) _).alloc (by simp) _
  have hl : ((w.alloc (.cells #[.int .i64 line] 3)).alloc (.cells #[.int .i64 0, .int .i64 0, .int .i64 0, .int .i64 0] 29)).cell? ⟨w.heap.size, 0, none⟩ = some (.int .i64 line) := by simp [go_sem]
  have hr := counted_new (w.alloc (.cells #[.int .i64 line] 3)) 0 0 0 0 29
  rw [World.size_alloc] at hr
  have cT := fun wx (hb : Below w.heap.size w wx) => ropetree_any b q wx (cell_on hb h1)
  have cC := fun wx (hb : Below w.heap.size w wx) => ncounts_any q t wx (isTree_below hb h4)
  have cU := fun wx (hb : Below w.heap.size w wx) (hc : wx.cell? ⟨w.heap.size, 0, none⟩ = some (.int .i64 line)) => until_any (reachesLine line) (reachesLine_rising line) 50 #[.pointer (some ⟨w.heap.size, 0, none⟩)] q t wx (Go.Proofs.Utf8Tabs_below hT hb) (isTree_below hb h4) ho hz (line1_asks line w.heap.size wx hc)
  unfold cntV at cU ⊢
  generalize find (reachesLine line) [] t.runes = X at *
  generalize C1 t.runes = x1 at *
  generalize C2 t.runes = x2 at *
  generalize C3 t.runes = x3 at *
  generalize C4 t.runes = x4 at *
  have n0 : ¬ line < 0 := by omega
  have n1 : ¬ x4 < line := by omega
  clear h4 ho hT
  go_enter Tryz.func18, Tryz.ntmps18
  go_wp2_with (first
    | (go_at_call 35; refine (cT _ hb2).mono ?_; rintro e w1 ⟨rfl, hw1⟩; obtain rfl := hw1.symm)
    | fail)
  obtain ⟨W2, hW2⟩ : ∃ W2, ((w.alloc (.cells #[.int .i64 line] 3)).alloc (.cells #[.int .i64 0, .int .i64 0, .int .i64 0, .int .i64 0] 29)) = W2 := ⟨_, rfl⟩
  rw [hW2] at hb2 hl hr ⊢
  clear hW2
  refine wp_region_rel 9 9 (by kernel_rfl) rfl ?_
  intro w3 hb3
  have hb23 := hb2.trans (hb3.mono hb2.size)
  obtain ⟨G, hG⟩ := exists_growth w3
  have gl := hG.cell (cell_on hb3 hl)
  have cG := fun x => cC (G x) (hb23.trans ((hG.below x).mono hb23.size))
  (refine anyG_step hG (i := 0) rfl (by kernel_rfl) (by kernel_rfl) (by kernel_rfl) (fun K hK => ?_); go_simp; refine hK _ ?_; clear hK K)
  (refine anyG_step hG (i := 1) rfl (by kernel_rfl) (by kernel_rfl) (by kernel_rfl) (fun K hK => ?_); go_simp; refine hK _ ?_; clear hK K)
  (refine anyG_step hG (i := 2) rfl (by kernel_rfl) (by kernel_rfl) (by kernel_rfl) (fun K hK => ?_); go_simp; refine hK _ ?_; clear hK K)
  (refine anyG_step hG (i := 3) rfl (by kernel_rfl) (by kernel_rfl) (by kernel_rfl) (fun K hK => ?_); go_simp; refine hK _ ?_; clear hK K)
  (refine anyG_step hG (i := 4) rfl (by kernel_rfl) (by kernel_rfl) (by kernel_rfl) (fun K hK => ?_); go_simp; refine hK _ ?_; clear hK K)
  (refine anyG_step hG (i := 5) rfl (by kernel_rfl) (by kernel_rfl) (by kernel_rfl) (fun K hK => ?_); go_simp; apply Exists.intro; refine ⟨fun _ => ?_, hK _ ?_⟩; exact cG _; clear hK K)
  (refine anyG_step hG (i := 6) rfl (by kernel_rfl) (by kernel_rfl) (by kernel_rfl) (fun K hK => ?_); go_simp; refine hK _ ?_; clear hK K)
  (refine anyG_step hG (i := 7) rfl (by kernel_rfl) (by kernel_rfl) (by kernel_rfl) (fun K hK => ?_); go_simp; refine hK _ ?_; clear hK K)
  (refine anyG_step hG (i := 8) rfl (by kernel_rfl) (by kernel_rfl) (by kernel_rfl) (fun K hK => ?_); go_simp; refine hK _ ?_; clear hK K)
  clear gl cG hG
  refine anyG_end (by kernel_rfl) ?_
  intro w4 hb4
  have hb34 := hb3.trans (hb4.mono hb3.size)
  have hb24 := hb2.trans (hb34.mono hb2.size)
  have hl4 := cell_on hb34 hl
  have hr4 := counted_below hr hb34
  have cU4 := cU w4 hb24 hl4
  clear hb3 hb4 hb34 hb23 cU cC cT hl hr
  go_wp2_with (first
    | (go_at_call 47; refine cU4.mono ?_; rintro e w5 ⟨rfl, hb5⟩; have hr5 := counted_below hr4 hb5; have HR5 : Hid _ := hr5; obtain ⟨⟨z0, z1, z2, z3⟩, y0, y1, y2, y3⟩ := hr5)
    | fail)
  have hset := counted_set (m1 := C1 X) (m2 := C2 X) (m3 := C3 X) (m4 := C4 X) HR5.out
  obtain ⟨⟨s0, s1, s2, s3⟩, _⟩ := hset
  have hb25 := hb24.trans (hb5.mono hb24.size)
  refine bodyPost_ret (v := .tuple #[.agg #[.int .i64 (C1 X), .int .i64 (C2 X), .int .i64 (C3 X), .int .i64 (C4 X)], .nilIface]) (by simp [results, Tryz.results18, go_sem, s0, s1, s2, s3]) rfl ⟨rfl, below_set4 hb25 (Nat.le_succ _) _ _ _ _⟩
end Go.Proofs.YtldhbjmillfjgaaGreatDoor

namespace Go.Proofs.YtldhbjmillfjgaaGreatDoor
open Go.RowKit
set_option linter.unusedVariables false
attribute [local go_sem] Oper.semAt_some yieldsUpon okUpon field0 field3

set_option maxRecDepth 100000 in
set_option maxHeartbeats 2000000 in
theorem isUnit_good (u : Int) (hu : u = 1 ∨ u = 2 ∨ u = 3) (w : World) : Calls Tryz.prog 45 #[.int .i64 u] w fun e w' => e = .returned (.bool true) ∧ w' = w := by
  rcases hu with rfl | rfl | rfl
  · go_enter Tryz.func45, Tryz.ntmps45
    go_wp2
    go_ret
    exact ⟨rfl, rfl⟩
  · go_enter Tryz.func45, Tryz.ntmps45
    go_wp2
    go_ret
    exact ⟨rfl, rfl⟩
  · go_enter Tryz.func45, Tryz.ntmps45
    go_wp2
    go_ret
    exact ⟨rfl, rfl⟩

set_option maxRecDepth 100000 in
set_option maxHeartbeats 2000000 in
theorem ahead_any (b : Nat) (rs : List Nat) (u at_ : Int) (hu : u = 1 ∨ u = 2 ∨ u = 3) (hl0 : 0 ≤ at_) (hl1 : at_ ≤ by_ u rs) (w : World) (hT : Lib.Utf8Tabs 2 3 w) (h : isRope w b rs) (hz : C1 rs ≤ 100000000) :
    Calls Tryz.prog 16 #[.pointer (some ⟨b, 0, none⟩), .int .i64 u, .int .i64 at_] w fun e w' => e = .returned (.tuple (if by_ u (find (reachesBy u at_) [] rs) = at_ then #[cntV (find (reachesBy u at_) [] rs), .nilIface] else #[cntV [], .iface 30 (.int .i64 10)])) ∧ Below w.heap.size w w' := by
  obtain ⟨q, t, h1, _, _, h4, ho, rfl⟩ := h
  have hb2 : Below w.heap.size w (((w.alloc (.cells #[.int .i64 u] 3)).alloc (.cells #[.int .i64 at_] 3)).alloc (.cells #[.int .i64 0, .int .i64 0, .int .i64 0, .int .i64 0] 29)) := (((Below.refl _ w).alloc (Nat.le_refl _) _).alloc (by simp) _).alloc (by simp; omega) _
  have hlu : (((w.alloc (.cells #[.int .i64 u] 3)).alloc (.cells #[.int .i64 at_] 3)).alloc (.cells #[.int .i64 0, .int .i64 0, .int .i64 0, .int .i64 0] 29)).cell? ⟨w.heap.size, 0, none⟩ = some (.int .i64 u) := by simp [go_sem]
  have hla : (((w.alloc (.cells #[.int .i64 u] 3)).alloc (.cells #[.int .i64 at_] 3)).alloc (.cells #[.int .i64 0, .int .i64 0, .int .i64 0, .int .i64 0] 29)).cell? ⟨w.heap.size + 1, 0, none⟩ = some (.int .i64 at_) := by simp [go_sem]
  have hr := counted_new ((w.alloc (.cells #[.int .i64 u] 3)).alloc (.cells #[.int .i64 at_] 3)) 0 0 0 0 29
  rw [World.size_alloc, World.size_alloc] at hr
  have cT := fun wx (hb : Below w.heap.size w wx) => ropetree_any b q wx (cell_on hb h1)
  have cC := fun wx (hb : Below w.heap.size w wx) => ncounts_any q t wx (isTree_below hb h4)
  have cN := fun wx => isUnit_good u hu wx
  have cI := fun wx => In_any u t.runes wx
  have HU : Hid (∀ wx, Below w.heap.size w wx → wx.cell? ⟨w.heap.size, 0, none⟩ = some (.int .i64 u) → wx.cell? ⟨w.heap.size + 1, 0, none⟩ = some (.int .i64 at_) → Calls Tryz.prog 47 #[.pointer q, .func (.func 48) #[] #[.pointer (some ⟨w.heap.size, 0, none⟩), .pointer (some ⟨w.heap.size + 1, 0, none⟩)]] wx fun e w' => e = .returned (cntV (find (reachesBy u at_) [] t.runes)) ∧ Below wx.heap.size wx w') :=
    fun wx (hb : Below w.heap.size w wx) h1 h2 => until_any (reachesBy u at_) (reachesBy_rising u at_) _ _ q t wx (Go.Proofs.Utf8Tabs_below hT hb) (isTree_below hb h4) ho hz (ahead1_asks u at_ w.heap.size (w.heap.size + 1) wx h1 h2)
  have HX : Hid (∀ wx, Calls Tryz.prog 46 #[cntV (find (reachesBy u at_) [] t.runes), .int .i64 u] wx fun e w' => e = .returned (.int .i64 (by_ u (find (reachesBy u at_) [] t.runes))) ∧ Below wx.heap.size wx w') := fun wx => In_any u _ wx
  generalize find (reachesBy u at_) [] t.runes = X at *
  generalize by_ u t.runes = n at *
  generalize by_ u X = nx at *
  have n0 : ¬ at_ < 0 := by omega
  have n1 : ¬ n < at_ := by omega
  clear h4 ho hT hu hz
  unfold cntV at cI HU HX ⊢
  go_enter Tryz.func16, Tryz.ntmps16
  go_wp2_with (first
    | (go_at_call 45; refine (cN _).mono ?_; rintro e w1 ⟨rfl, hw1⟩; obtain rfl := hw1.symm)
    | (go_at_call 35; refine (cT _ hb2).mono ?_; rintro e w1 ⟨rfl, hw1⟩; obtain rfl := hw1.symm)
    | fail)
  obtain ⟨W2, hW2⟩ : ∃ W2, (((w.alloc (.cells #[.int .i64 u] 3)).alloc (.cells #[.int .i64 at_] 3)).alloc (.cells #[.int .i64 0, .int .i64 0, .int .i64 0, .int .i64 0] 29)) = W2 := ⟨_, rfl⟩
  rw [hW2] at hb2 hlu hla hr ⊢
  clear hW2
  refine wp_region_rel 10 10 (by kernel_rfl) rfl ?_
  intro w3 hb3
  have hb23 := hb2.trans (hb3.mono hb2.size)
  obtain ⟨G, hG⟩ := exists_growth w3
  have gl := hG.cell (cell_on hb3 hla)
  have gu := hG.cell (cell_on hb3 hlu)
  have cG := fun x => cC (G x) (hb23.trans ((hG.below x).mono hb23.size))
  have cJ := fun x => cI (G x)
  (refine anyG_step hG (i := 0) rfl (by kernel_rfl) (by kernel_rfl) (by kernel_rfl) (fun K hK => ?_); go_simp; refine hK _ ?_; clear hK K)
  (refine anyG_step hG (i := 1) rfl (by kernel_rfl) (by kernel_rfl) (by kernel_rfl) (fun K hK => ?_); go_simp; refine hK _ ?_; clear hK K)
  (refine anyG_step hG (i := 2) rfl (by kernel_rfl) (by kernel_rfl) (by kernel_rfl) (fun K hK => ?_); go_simp; refine hK _ ?_; clear hK K)
  (refine anyG_step hG (i := 3) rfl (by kernel_rfl) (by kernel_rfl) (by kernel_rfl) (fun K hK => ?_); go_simp; refine hK _ ?_; clear hK K)
  (refine anyG_step hG (i := 4) rfl (by kernel_rfl) (by kernel_rfl) (by kernel_rfl) (fun K hK => ?_); go_simp; refine hK _ ?_; clear hK K)
  (refine anyG_step hG (i := 5) rfl (by kernel_rfl) (by kernel_rfl) (by kernel_rfl) (fun K hK => ?_); go_simp; apply Exists.intro; refine ⟨fun _ => ?_, hK _ ?_⟩; exact cG _; clear hK K)
  (refine anyG_step hG (i := 6) rfl (by kernel_rfl) (by kernel_rfl) (by kernel_rfl) (fun K hK => ?_); go_simp; refine hK _ ?_; clear hK K)
  (refine anyG_step hG (i := 7) rfl (by kernel_rfl) (by kernel_rfl) (by kernel_rfl) (fun K hK => ?_); go_simp; apply Exists.intro; refine ⟨fun _ => ?_, hK _ ?_⟩; exact cJ _; clear hK K)
  (refine anyG_step hG (i := 8) rfl (by kernel_rfl) (by kernel_rfl) (by kernel_rfl) (fun K hK => ?_); go_simp; refine hK _ ?_; clear hK K)
  (refine anyG_step hG (i := 9) rfl (by kernel_rfl) (by kernel_rfl) (by kernel_rfl) (fun K hK => ?_); go_simp; refine hK _ ?_; clear hK K)
  clear gl gu cG cJ hG
  refine anyG_end (by kernel_rfl) ?_
  intro w4 hb4
  have hb34 := hb3.trans (hb4.mono hb3.size)
  have hb24 := hb2.trans (hb34.mono hb2.size)
  have hlu4 := cell_on hb34 hlu
  have hla4 := cell_on hb34 hla
  have hr4 := counted_below hr hb34
  have cU4 := HU.out w4 hb24 hlu4 hla4
  clear hb3 hb4 hb34 hb23 cC cT cI cN hlu hla hr
  go_wp2_with (first
    | (go_at_call 47; refine cU4.mono ?_; rintro e w5 ⟨rfl, hb5⟩)
    | fail)
  have hbx : Below w5.heap.size w5 (w5.alloc (.cells #[.int .i64 (C1 X), .int .i64 (C2 X), .int .i64 (C3 X), .int .i64 (C4 X)] 29)) := (Below.refl _ _).alloc (Nat.le_refl _) _
  have hb46 := hb5.trans (hbx.mono hb5.size)
  have hcX := counted_new w5 (C1 X) (C2 X) (C3 X) (C4 X) 29
  have hlu6 := cell_on hb46 hlu4
  have hla6 := cell_on hb46 hla4
  have hr6 := counted_below hr4 hb46
  have hb26 := hb24.trans (hb46.mono hb24.size)
  generalize (w5.alloc (.cells #[.int .i64 (C1 X), .int .i64 (C2 X), .int .i64 (C3 X), .int .i64 (C4 X)] 29)) = W6 at *
  generalize w5.heap.size = B5 at *
  clear hb5 hbx hb46 hlu4 hla4 hr4 hb24 cU4
  refine wp_region_rel 5 5 (by kernel_rfl) rfl ?_
  intro w7 hb7
  obtain ⟨G, hG⟩ := exists_growth w7
  have hc7 := counted_below hcX hb7
  obtain ⟨⟨a0, a1, a2, a3⟩, _⟩ := hc7
  have g0 := hG.cell a0
  have g1 := hG.cell a1
  have g2 := hG.cell a2
  have g3 := hG.cell a3
  have gu := hG.cell (cell_on hb7 hlu6)
  have ga := hG.cell (cell_on hb7 hla6)
  have cG := fun x => HX.out (G x)
  (refine anyG_step hG (i := 0) rfl (by kernel_rfl) (by kernel_rfl) (by kernel_rfl) (fun K hK => ?_); go_simp; refine hK _ ?_; clear hK K)
  (refine anyG_step hG (i := 1) rfl (by kernel_rfl) (by kernel_rfl) (by kernel_rfl) (fun K hK => ?_); go_simp; refine hK _ ?_; clear hK K)
  (refine anyG_step hG (i := 2) rfl (by kernel_rfl) (by kernel_rfl) (by kernel_rfl) (fun K hK => ?_); go_simp; apply Exists.intro; refine ⟨fun _ => ?_, hK _ ?_⟩; exact cG _; clear hK K)
  (refine anyG_step hG (i := 3) rfl (by kernel_rfl) (by kernel_rfl) (by kernel_rfl) (fun K hK => ?_); go_simp; refine hK _ ?_; clear hK K)
  (refine anyG_step hG (i := 4) rfl (by kernel_rfl) (by kernel_rfl) (by kernel_rfl) (fun K hK => ?_); go_simp; refine hK _ ?_; clear hK K)
  clear g0 g1 g2 g3 gu ga cG hG a0 a1 a2 a3
  refine anyG_end (by kernel_rfl) ?_
  intro w8 hb8
  have hb78 := hb7.trans (hb8.mono hb7.size)
  have hb28 := hb26.trans (hb78.mono hb26.size)
  have hc8 := counted_below hcX hb78
  have hr8 := counted_below hr6 hb78
  have HR8 : Hid _ := hr8
  obtain ⟨⟨a0, a1, a2, a3⟩, _⟩ := hc8
  obtain ⟨⟨z0, z1, z2, z3⟩, y0, y1, y2, y3⟩ := hr8
  clear hb7 hb8 hb78 hb26 hcX hr6 hlu6 hla6
  by_cases hx : nx = at_
  · subst hx
    go_wp2
    have hset := counted_set (m1 := C1 X) (m2 := C2 X) (m3 := C3 X) (m4 := C4 X) HR8.out
    obtain ⟨⟨s0, s1, s2, s3⟩, _⟩ := hset
    refine bodyPost_ret (v := .tuple #[.agg #[.int .i64 (C1 X), .int .i64 (C2 X), .int .i64 (C3 X), .int .i64 (C4 X)], .nilIface]) (by simp [results, Tryz.results16, go_sem, s0, s1, s2, s3]) rfl ⟨rfl, below_set4 hb28 (by omega) _ _ _ _⟩
  · have hx1 : (nx == at_) = false := beq_eq_false_iff_ne.2 hx
    go_wp2
    have hset := counted_set (m1 := 0) (m2 := 0) (m3 := 0) (m4 := 0) HR8.out
    obtain ⟨⟨s0, s1, s2, s3⟩, _⟩ := hset
    refine bodyPost_ret (v := .tuple #[.agg #[.int .i64 0, .int .i64 0, .int .i64 0, .int .i64 0], .iface 30 (.int .i64 10)]) (by simp [results, Tryz.results16, go_sem, s0, s1, s2, s3]) rfl ⟨rfl, below_set4 hb28 (by omega) _ _ _ _⟩
end Go.Proofs.YtldhbjmillfjgaaGreatDoor

namespace Go.Proofs.YtldhbjmillfjgaaGreatDoor
open Go.RowKit
set_option linter.unusedVariables false
attribute [local go_sem] Oper.semAt_some

theorem find_zero (u : Int) (rs : List Nat) : find (reachesBy u 0) [] rs = [] := by
  unfold find
  have : reachesBy u 0 [] = true := decide_eq_true (by_pos u [])
  rw [if_pos this]
theorem by_nil (u : Int) : by_ u [] = 0 := by
  unfold by_
  split
  · rfl
  · split
    · rfl
    · split <;> rfl
/-- By runes, each place is one. -/
theorem find_runes : ∀ (rs pre : List Nat) (at_ : Int), (pre.length : Int) ≤ at_ → at_ ≤ (pre.length : Int) + rs.length → find (reachesBy 3 at_) pre rs = pre ++ rs.take (at_ - pre.length).toNat := by
  have key : ∀ (x : List Nat) (at_ : Int), reachesBy 3 at_ x = decide (at_ ≤ (x.length : Int)) := fun x at_ => rfl
  intro rs
  induction rs with
  | nil =>
    intro pre at_ h1 h2
    have : reachesBy 3 at_ pre = true := by rw [key]; exact decide_eq_true (by simpa using h2)
    unfold find
    rw [if_pos this]; simp
  | cons r rs ih =>
    intro pre at_ h1 h2
    by_cases h : at_ ≤ (pre.length : Int)
    · have e : (at_ - pre.length).toNat = 0 := by omega
      unfold find
      rw [key, if_pos (decide_eq_true h), e]; simp
    · have h3 := ih (pre ++ [r]) at_ (by simp; omega) (by simp at h2 ⊢; omega)
      have e2 : (at_ - pre.length).toNat = (at_ - (pre ++ [r]).length).toNat + 1 := by simp; omega
      rw [e2, List.take_succ_cons]
      have e3 : pre ++ r :: rs.take (at_ - (pre ++ [r]).length).toNat = (pre ++ [r]) ++ rs.take (at_ - (pre ++ [r]).length).toNat := by simp
      rw [e3, ← h3]
      conv => lhs; unfold find
      rw [key, if_neg (by simpa using h), seek]
      conv => rhs; unfold find
      split
      · rfl
      · simp

set_option maxRecDepth 100000 in
set_option maxHeartbeats 2000000 in
theorem unitError_good (b : Nat) (rs : List Nat) (u : Int) (hu : u = 1 ∨ u = 2 ∨ u = 3) (w : World) (hT : Lib.Utf8Tabs 2 3 w) (h : isRope w b rs) (hz : C1 rs ≤ 100000000) :
    Calls Tryz.prog 51 #[.pointer (some ⟨b, 0, none⟩), .int .i64 u] w fun e w' => e = .returned .nilIface ∧ Below w.heap.size w w' := by
  have cA := ahead_any b rs u 0 hu (Int.le_refl _) (by_pos u rs) w hT h hz
  rw [find_zero, by_nil, if_pos rfl] at cA
  have HA : Hid _ := cA
  unfold cntV at HA
  clear cA hT h hu hz
  go_enter Tryz.func51, Tryz.ntmps51
  go_wp2_with (first
    | (go_at_call 16; refine Calls.mono HA.out ?_; rintro e w1 ⟨rfl, hb1⟩)
    | fail)
  go_ret
  exact ⟨rfl, hb1.alloc hb1.size _⟩

/-- A place by u as one by v. -/
theorem convert_any (b : Nat) (rs : List Nat) (u v at_ : Int) (hu : u = 1 ∨ u = 2 ∨ u = 3) (hv : v = 1 ∨ v = 2 ∨ v = 3) (hl0 : 0 ≤ at_) (hl1 : at_ ≤ by_ u rs) (w : World) (hT : Lib.Utf8Tabs 2 3 w) (h : isRope w b rs) (hz : C1 rs ≤ 100000000) (X : List Nat) (hX : find (reachesBy u at_) [] rs = X) (hfine : by_ u X = at_) :
    Calls Tryz.prog 21 #[.pointer (some ⟨b, 0, none⟩), .int .i64 u, .int .i64 v, .int .i64 at_] w fun e w' => e = .returned (.tuple #[.int .i64 (by_ v X), .nilIface]) ∧ Below w.heap.size w w' := by
  have cU : Hid _ := unitError_good b rs v hv w hT h hz
  have cA : Hid (∀ wx, Below w.heap.size w wx → Calls Tryz.prog 16 #[.pointer (some ⟨b, 0, none⟩), .int .i64 u, .int .i64 at_] wx fun e w' => e = .returned (.tuple #[cntV X, .nilIface]) ∧ Below wx.heap.size wx w') := fun wx hb => by
    have := ahead_any b rs u at_ hu hl0 hl1 wx (Go.Proofs.Utf8Tabs_below hT hb) (isRope_below h hb) hz
    rw [hX, if_pos hfine] at this
    exact this
  have cI : Hid (∀ wx, Calls Tryz.prog 46 #[cntV X, .int .i64 v] wx fun e w' => e = .returned (.int .i64 (by_ v X)) ∧ Below wx.heap.size wx w') := fun wx => In_any v X wx
  unfold cntV at cA cI
  clear hT h hu hz hv hl0 hl1 hX hfine
  generalize by_ v X = nx at *
  go_enter Tryz.func21, Tryz.ntmps21
  go_wp2_with (first
    | (go_at_call 51; refine Calls.mono cU.out ?_; rintro e w1 ⟨rfl, hb1⟩; have HB1 : Hid (Below w.heap.size w w1) := hb1; clear hb1)
    | (go_at_call 16; refine (cA.out _ HB1.out).mono ?_; rintro e w2 ⟨rfl, hb2⟩; have HB2 : Hid (Below w.heap.size w w2) := HB1.out.trans (hb2.mono HB1.out.size); clear hb2)
    | (go_at_call 46; refine (cI.out _).mono ?_; rintro e w3 ⟨rfl, hb3⟩)
    | fail)
  go_ret2
  have hb2' := HB2.out.alloc HB2.out.size (.cells #[.int .i64 (C1 X), .int .i64 (C2 X), .int .i64 (C3 X), .int .i64 (C4 X)] 29)
  exact ⟨rfl, hb2'.trans (hb3.mono hb2'.size)⟩
end Go.Proofs.YtldhbjmillfjgaaGreatDoor

namespace Go.Proofs.YtldhbjmillfjgaaGreatDoor
open Go.RowKit Go.Extern.Stop Go.Stop Go.Extern

theorem as_nil (t : Value) (w : World) :
    Calls Tryz.prog 86 #[.nilIface, t] w fun e w' => e = .returned (.bool false) ∧ w' = w := by
  go_enter Tryz.func86, Tryz.ntmps86
  go_wp2
  go_ret
  exact ⟨rfl, rfl⟩

theorem as_valueOf (t : Addr) (w : World) : (ReflectliteValue.unpack (.iface 137 (.pointer (some t)))).run Tryz.prog w
    = .ok (.agg #[.pointer (some ⟨4, 137, none⟩), .pointer (some ⟨w.heap.size, 0, none⟩), .int .u64 150]) (w.alloc (.cells #[.pointer (some t)] 137)) := by kernel_rfl
theorem as_type (a : Addr) (w : World) : (ReflectliteValue.methodAny (ReflectliteValue.valueError "reflectlite.Value.Type" 0) (fun t _ _ _ => ReflectliteType.toType t) #[.agg #[.pointer (some ⟨4, 137, none⟩), .pointer (some a), .int .u64 150]]).run Tryz.prog w
    = .ok (.iface 165 (.agg #[.pointer (some ⟨4, 137, none⟩)])) w := by kernel_rfl
theorem as_methodKind (h : Value) (w : World) : (Go.method 301 165 (.agg #[h]) "Kind").run Tryz.prog w = .ok (120, h) w := by kernel_rfl
theorem as_kindP (w : World) : ((ReflectliteType.abiMethod fun t => (fun a : Nat => Value.int IntKind.u8 (a : Int)) <$> Rtype.kind t) #[.pointer (some ⟨4, 137, none⟩)]).run Tryz.prog w = .ok (.int .u8 22) w := by kernel_rfl
theorem as_kindE (w : World) : ((ReflectliteType.abiMethod fun t => (fun a : Nat => Value.int IntKind.u8 (a : Int)) <$> Rtype.kind t) #[.pointer (some ⟨4, 30, none⟩)]).run Tryz.prog w = .ok (.int .u8 2) w := by kernel_rfl

theorem as_rlm (z : Sem Value) (f : TypeId → Addr → Nat → Nat → Sem Value) (v : Value) :
    ReflectliteValue.method z f #[v] = (do match ← ReflectliteValue.parts v with | none => z | some (t, a, fl) => f t a fl (fl % 32)) := rfl
theorem as_partsP (a : Addr) (w : World) : (ReflectliteValue.parts (.agg #[.pointer (some ⟨4, 137, none⟩), .pointer (some a), .int .u64 150])).run Tryz.prog w = .ok (some (137, a, 150)) w := by kernel_rfl
theorem as_isNil (a p : Addr) (W : World) (ha : W.cell? a = some (.pointer (some p))) :
    (ReflectliteValue.method (ReflectliteValue.valueError "reflectlite.Value.IsNil" 0) ReflectliteValue.isNil #[.agg #[.pointer (some ⟨4, 137, none⟩), .pointer (some a), .int .u64 150]]).run Tryz.prog W = .ok (.bool false) W := by
  rw [as_rlm]
  simp only [Sem.run_bind, as_partsP, Result.andThen]
  simp [ReflectliteValue.isNil, loadVar, isAgg, underlying, Tryz.underlying137, ha, Result.andThen]
theorem as_methodElem (h : Value) (w : World) : (Go.method 301 165 (.agg #[h]) "Elem").run Tryz.prog w = .ok (133, .agg #[h]) w := by kernel_rfl
theorem as_methodImplements (h : Value) (w : World) : (Go.method 301 165 (.agg #[h]) "Implements").run Tryz.prog w = .ok (134, .agg #[h]) w := by kernel_rfl
theorem as_methodAssignableTo (h : Value) (w : World) : (Go.method 301 165 (.agg #[h]) "AssignableTo").run Tryz.prog w = .ok (131, .agg #[h]) w := by kernel_rfl
theorem as_elem (w : World) : (ReflectliteType.method ReflectliteType.elem #[.agg #[.pointer (some ⟨4, 137, none⟩)]]).run Tryz.prog w = .ok (.iface 165 (.agg #[.pointer (some ⟨4, 30, none⟩)])) w := by kernel_rfl
theorem as_implements (w : World) : (ReflectliteType.relation "Implements" ReflectliteType.implements_ #[.agg #[.pointer (some ⟨4, 30, none⟩)], .iface 165 (.agg #[.pointer (some ⟨4, 25, none⟩)])]).run Tryz.prog w = .ok (.bool true) w := by kernel_rfl
theorem as_typeOfE (v : Value) (w : World) : (ReflectliteType.typeOf #[.iface 30 v]).run Tryz.prog w = .ok (.iface 165 (.agg #[.pointer (some ⟨4, 30, none⟩)])) w := by kernel_rfl
theorem as_typeOfA (v : Value) (w : World) : (ReflectliteType.typeOf #[.iface 118 v]).run Tryz.prog w = .ok (.iface 165 (.agg #[.pointer (some ⟨4, 118, none⟩)])) w := by kernel_rfl
theorem as_assignE (w : World) : (ReflectliteType.relation "AssignableTo" ReflectliteType.assignableTo #[.agg #[.pointer (some ⟨4, 30, none⟩)], .iface 165 (.agg #[.pointer (some ⟨4, 30, none⟩)])]).run Tryz.prog w = .ok (.bool true) w := by kernel_rfl
theorem as_assignA (w : World) : (ReflectliteType.relation "AssignableTo" ReflectliteType.assignableTo #[.agg #[.pointer (some ⟨4, 118, none⟩)], .iface 165 (.agg #[.pointer (some ⟨4, 30, none⟩)])]).run Tryz.prog w = .ok (.bool false) w := by kernel_rfl
theorem as_valueOfE (n : Int) (w : World) : (ReflectliteValue.unpack (.iface 30 (.int .i64 n))).run Tryz.prog w
    = .ok (.agg #[.pointer (some ⟨4, 30, none⟩), .pointer (some ⟨w.heap.size, 0, none⟩), .int .u64 130]) (w.alloc (.cells #[.int .i64 n] 30)) := by kernel_rfl
theorem as_elemOf (w : World) : (Rtype.elem? 137).run Tryz.prog w = .ok (some 30) w := by kernel_rfl
theorem as_mk (p : Addr) (w : World) : (ReflectliteValue.mk 30 p ReflectliteValue.flagAddr).run Tryz.prog w = .ok (.agg #[.pointer (some ⟨4, 30, none⟩), .pointer (some p), .int .u64 386]) w := by kernel_rfl
theorem as_elemV (a p : Addr) (W : World) (ha : W.cell? a = some (.pointer (some p))) :
    (ReflectliteValue.method (ReflectliteValue.valueError "reflectlite.Value.Elem" 0) ReflectliteValue.elem #[.agg #[.pointer (some ⟨4, 137, none⟩), .pointer (some a), .int .u64 150]]).run Tryz.prog W
      = .ok (.agg #[.pointer (some ⟨4, 30, none⟩), .pointer (some p), .int .u64 386]) W := by
  rw [as_rlm]
  simp only [Sem.run_bind, as_partsP, Result.andThen]
  simp [ReflectliteValue.elem, loadVar, isAgg, underlying, Tryz.underlying137, ha, Result.andThen, as_elemOf, as_mk]
theorem as_rls (v x : Value) : ReflectliteValue.set #[v, x] = (do
    let (some (dst, a, fl), some (src, b, _)) := (← ReflectliteValue.parts v, ← ReflectliteValue.parts x)
      | unsupported (.noEntry "extern/(internal/reflectlite.Value).Set.zeroValue")
    if fl / ReflectliteValue.flagAddr % 2 == 0 then unsupported (.noEntry "extern/(internal/reflectlite.Value).Set.unaddressable")
    let val ← loadVar src b
    if ← Rtype.directlyAssignable dst src then storeVar dst a val
    else if ← Rtype.implements dst src then
      if (← Rtype.kind src) == 20 then
        match val with
        | .nilIface => unsupported (.noEntry "extern/reflectlite: a nil value of one interface type handed on as a value of another")
        | _ => storeVar dst a val
      else storeVar dst a (.iface src val)
    else panicString ("reflectlite.Set: value of type " ++ (← Rtype.spelt src) ++ " is not assignable to type " ++ (← Rtype.spelt dst))
    pure (.tuple #[])) := rfl
theorem as_partsD (a : Addr) (w : World) : (ReflectliteValue.parts (.agg #[.pointer (some ⟨4, 30, none⟩), .pointer (some a), .int .u64 386])).run Tryz.prog w = .ok (some (30, a, 386)) w := by kernel_rfl
theorem as_partsE (a : Addr) (w : World) : (ReflectliteValue.parts (.agg #[.pointer (some ⟨4, 30, none⟩), .pointer (some a), .int .u64 130])).run Tryz.prog w = .ok (some (30, a, 130)) w := by kernel_rfl
theorem as_direct (w : World) : (Rtype.directlyAssignable 30 30).run Tryz.prog w = .ok true w := by kernel_rfl
theorem as_set (ta b : Addr) (n : Int) (old : Value) (W : World) (hb : W.cell? b = some (.int .i64 n)) (ht : W.cell? ta = some old) (hf : W.frozen? ta = false) :
    (ReflectliteValue.set #[.agg #[.pointer (some ⟨4, 30, none⟩), .pointer (some ta), .int .u64 386], .agg #[.pointer (some ⟨4, 30, none⟩), .pointer (some b), .int .u64 130]]).run Tryz.prog W
      = .ok (.tuple #[]) (W.setCell ta (.int .i64 n)) := by
  rw [as_rls]
  simp only [Sem.run_bind, as_partsD, as_partsE, Result.andThen]
  simp [ReflectliteValue.flagAddr, loadVar, isAgg, underlying, Tryz.underlying30, hb, Result.andThen, as_direct, storeVar, Value.cells, storeCells, Addr.add]
  rw [run_store Tryz.prog W ta _ _ (by rfl)]
  simp [ht, hf]
theorem as_noAs (v : Value) (xT : TypeId) (w : World) : (Instr.typeAssert (.iface 118 v) xT 170 true).run Tryz.prog w = .ok (.tuple #[.nilIface, .bool false]) w := run_typeAssert_lacksB Tryz.underlying170 (by kernel_rfl) (by kernel_rfl) v xT w
theorem as_hasUnwrap (v : Value) (xT : TypeId) (w : World) : (Instr.typeAssert (.iface 118 v) xT 121 true).run Tryz.prog w = .ok (.tuple #[.iface 118 v, .bool true]) w := run_typeAssert_hasB Tryz.underlying121 (by kernel_rfl) v xT w
theorem as_unwrapAhead (a : Addr) (w : World) : (nilAhead 301 118 (.pointer (some a)) "Unwrap").run Tryz.prog w = .ok (some false) w := by kernel_rfl
theorem as_methodUnwrap (a : Addr) (w : World) : (Go.method 301 118 (.pointer (some a)) "Unwrap").run Tryz.prog w = .ok (126, .pointer (some a)) w := by kernel_rfl

set_option maxHeartbeats 400000 in
theorem unwrap_any (a : Nat) (n : Int) (w : World) (h : w.cell? ⟨a, 0, none⟩ = some (.int .i64 n)) :
    Calls Tryz.prog 126 #[.pointer (some ⟨a, 0, none⟩)] w fun e w' => e = .returned (.iface 30 (.int .i64 n)) ∧ w' = w := by
  go_enter Tryz.func126, Tryz.ntmps126
  go_wp2
  go_ret
  exact ⟨rfl, rfl⟩

/-- What the walks of errors.As want of the library's variable. -/
def asLaid (w : World) : Prop := w.cell? ⟨1, 0, none⟩ = some (.iface 165 (.agg #[.pointer (some ⟨4, 25, none⟩)]))

/-- errors.as at the number itself: the target's variable is set. -/
def target (q : Nat) : Value := .agg #[.pointer (some ⟨4, 137, none⟩), .pointer (some ⟨q, 0, none⟩), .int .u64 150]

end Go.Proofs.YtldhbjmillfjgaaGreatDoor

namespace Go.Proofs.YtldhbjmillfjgaaGreatDoor
open Go.RowKit Go.Extern.Stop Go.Stop Go.Extern

theorem set_below {w : World} {t : Nat} {n : Int} {old : Value} (ht : w.cell? ⟨t, 0, none⟩ = some old) (o1 o2 : Obj) :
    (((w.setCell ⟨t, 0, none⟩ (.int .i64 n)).alloc o1).alloc o2).cell? ⟨t, 0, none⟩ = some (.int .i64 n) ∧ Below t w (((w.setCell ⟨t, 0, none⟩ (.int .i64 n)).alloc o1).alloc o2) := by
  have htl := World.block_lt_of_cell? w _ ht
  have hz : (w.setCell ⟨t, 0, none⟩ (.int .i64 n)).heap.size = w.heap.size := by simp
  have h1 : t < (w.setCell ⟨t, 0, none⟩ (.int .i64 n)).heap.size := by rw [hz]; exact htl
  refine ⟨?_, ?_⟩
  · rw [World.cell?_alloc_lt _ _ ⟨t, 0, none⟩ (by rw [World.size_alloc]; exact Nat.lt_succ_of_lt h1), World.cell?_alloc_lt _ _ ⟨t, 0, none⟩ h1]
    exact World.cell?_setCell_same _ _ _ ht
  · exact ((((Below.refl t w).setCell (p := ⟨t, 0, none⟩) (Nat.le_refl _) _)).alloc (Nat.le_of_lt h1) _).alloc (by rw [World.size_alloc]; exact Nat.le_succ_of_le (Nat.le_of_lt h1)) _

set_option maxRecDepth 100000 in
set_option maxHeartbeats 4000000 in
theorem as_number (n : Int) (t q : Nat) (old : Value) (w : World) (hq : w.cell? ⟨q, 0, none⟩ = some (.pointer (some ⟨t, 0, none⟩))) (ht : w.cell? ⟨t, 0, none⟩ = some old) (hf : w.frozen? ⟨t, 0, none⟩ = false) :
    Calls Tryz.prog 99 #[.iface 30 (.int .i64 n), .iface 137 (.pointer (some ⟨t, 0, none⟩)), target q, .iface 165 (.agg #[.pointer (some ⟨4, 30, none⟩)])] w
      fun e w' => e = .returned (.bool true) ∧ w'.cell? ⟨t, 0, none⟩ = some (.int .i64 n) ∧ Below t w w' := by
  have hTO := @run_callFunc_extern Tryz.prog 103 _ ReflectliteType.typeOf Tryz.func103 (by kernel_rfl) (by kernel_rfl) (by kernel_rfl) (by kernel_rfl)
  have hAT := @run_callFunc_extern Tryz.prog 131 _ (ReflectliteType.relation "AssignableTo" ReflectliteType.assignableTo) Tryz.func131 (by kernel_rfl) (by kernel_rfl) (by kernel_rfl) (by kernel_rfl)
  have hVE := @run_callFunc_extern Tryz.prog 104 _ (ReflectliteValue.method (ReflectliteValue.valueError "reflectlite.Value.Elem" 0) ReflectliteValue.elem) Tryz.func104 (by kernel_rfl) (by kernel_rfl) (by kernel_rfl) (by kernel_rfl)
  have hVS := @run_callFunc_extern Tryz.prog 105 _ ReflectliteValue.set Tryz.func105 (by kernel_rfl) (by kernel_rfl) (by kernel_rfl) (by kernel_rfl)
  have hVO := @run_callFunc_extern Tryz.prog 96 _ (fun args => ReflectliteValue.unpack (args.getD 0 (.tuple #[]))) Tryz.func96 (by kernel_rfl) (by kernel_rfl) (by kernel_rfl) (by kernel_rfl)
  have tE := as_typeOfE
  have tA := as_typeOfA
  have mA := as_methodAssignableTo
  have aE := as_assignE
  have aA := as_assignA
  have vE := as_valueOfE
  have nA := as_noAs
  have hU := as_hasUnwrap
  have uA := as_unwrapAhead
  have mU := as_methodUnwrap
  have htl := World.block_lt_of_cell? w _ ht
  have hql := World.block_lt_of_cell? w _ hq
  have hq2 : (w.alloc (.cells #[.pointer (some ⟨4, 137, none⟩), .pointer (some ⟨q, 0, none⟩), .int .u64 150] 146)).cell? ⟨q, 0, none⟩ = some (.pointer (some ⟨t, 0, none⟩)) := by
    rw [World.cell?_alloc_lt _ _ ⟨q, 0, none⟩ hql]; exact hq
  have el := as_elemV ⟨q, 0, none⟩ ⟨t, 0, none⟩ (w.alloc (.cells #[.pointer (some ⟨4, 137, none⟩), .pointer (some ⟨q, 0, none⟩), .int .u64 150] 146)) hq2
  have st := as_set ⟨t, 0, none⟩ ⟨w.heap.size + 1, 0, none⟩ n old ((w.alloc (.cells #[.pointer (some ⟨4, 137, none⟩), .pointer (some ⟨q, 0, none⟩), .int .u64 150] 146)).alloc (.cells #[.int .i64 n] 30))
    (by rw [World.cell?_alloc_at _ _ _ _ (by simp)]; rfl)
    (by rw [World.cell?_alloc_lt _ _ ⟨t, 0, none⟩ (by rw [World.size_alloc]; exact Nat.lt_succ_of_lt htl), World.cell?_alloc_lt _ _ ⟨t, 0, none⟩ htl]; exact ht)
    (by rw [World.frozen?_alloc_old _ _ ⟨t, 0, none⟩ (by rw [World.size_alloc]; exact Nat.ne_of_lt (Nat.lt_succ_of_lt htl)), World.frozen?_alloc_old _ _ ⟨t, 0, none⟩ (Nat.ne_of_lt htl)]; exact hf)
  have fin := fun o1 o2 => @set_below w t n old ht o1 o2
  have HF : Hid (∀ o1 o2, _ ∧ _) := fin
  clear fin
  clear hq ht hf hq2
  unfold target
  go_enter Tryz.func99, Tryz.ntmps99
  go_wp2
  refine wp_loop_rounds 1 ?_
  rw [rounds_succ]
  go_wp2
  go_ret
  exact ⟨rfl, HF.out _ _⟩

set_option maxRecDepth 100000 in
set_option maxHeartbeats 4000000 in
theorem as_place (a : Nat) (n : Int) (t q : Nat) (old : Value) (w : World) (ha : w.cell? ⟨a, 0, none⟩ = some (.int .i64 n)) (hq : w.cell? ⟨q, 0, none⟩ = some (.pointer (some ⟨t, 0, none⟩))) (ht : w.cell? ⟨t, 0, none⟩ = some old) (hf : w.frozen? ⟨t, 0, none⟩ = false) :
    Calls Tryz.prog 99 #[.iface 118 (.pointer (some ⟨a, 0, none⟩)), .iface 137 (.pointer (some ⟨t, 0, none⟩)), target q, .iface 165 (.agg #[.pointer (some ⟨4, 30, none⟩)])] w
      fun e w' => e = .returned (.bool true) ∧ w'.cell? ⟨t, 0, none⟩ = some (.int .i64 n) ∧ Below t w w' := by
  have hTO := @run_callFunc_extern Tryz.prog 103 _ ReflectliteType.typeOf Tryz.func103 (by kernel_rfl) (by kernel_rfl) (by kernel_rfl) (by kernel_rfl)
  have hAT := @run_callFunc_extern Tryz.prog 131 _ (ReflectliteType.relation "AssignableTo" ReflectliteType.assignableTo) Tryz.func131 (by kernel_rfl) (by kernel_rfl) (by kernel_rfl) (by kernel_rfl)
  have hVE := @run_callFunc_extern Tryz.prog 104 _ (ReflectliteValue.method (ReflectliteValue.valueError "reflectlite.Value.Elem" 0) ReflectliteValue.elem) Tryz.func104 (by kernel_rfl) (by kernel_rfl) (by kernel_rfl) (by kernel_rfl)
  have hVS := @run_callFunc_extern Tryz.prog 105 _ ReflectliteValue.set Tryz.func105 (by kernel_rfl) (by kernel_rfl) (by kernel_rfl) (by kernel_rfl)
  have hVO := @run_callFunc_extern Tryz.prog 96 _ (fun args => ReflectliteValue.unpack (args.getD 0 (.tuple #[]))) Tryz.func96 (by kernel_rfl) (by kernel_rfl) (by kernel_rfl) (by kernel_rfl)
  have tE := as_typeOfE
  have tA := as_typeOfA
  have mA := as_methodAssignableTo
  have aE := as_assignE
  have aA := as_assignA
  have vE := as_valueOfE
  have nA := as_noAs
  have hU := as_hasUnwrap
  have uA := as_unwrapAhead
  have mU := as_methodUnwrap
  have htl := World.block_lt_of_cell? w _ ht
  have hql := World.block_lt_of_cell? w _ hq
  have hq2 : (w.alloc (.cells #[.pointer (some ⟨4, 137, none⟩), .pointer (some ⟨q, 0, none⟩), .int .u64 150] 146)).cell? ⟨q, 0, none⟩ = some (.pointer (some ⟨t, 0, none⟩)) := by
    rw [World.cell?_alloc_lt _ _ ⟨q, 0, none⟩ hql]; exact hq
  have el := as_elemV ⟨q, 0, none⟩ ⟨t, 0, none⟩ (w.alloc (.cells #[.pointer (some ⟨4, 137, none⟩), .pointer (some ⟨q, 0, none⟩), .int .u64 150] 146)) hq2
  have st := as_set ⟨t, 0, none⟩ ⟨w.heap.size + 1, 0, none⟩ n old ((w.alloc (.cells #[.pointer (some ⟨4, 137, none⟩), .pointer (some ⟨q, 0, none⟩), .int .u64 150] 146)).alloc (.cells #[.int .i64 n] 30))
    (by rw [World.cell?_alloc_at _ _ _ _ (by simp)]; rfl)
    (by rw [World.cell?_alloc_lt _ _ ⟨t, 0, none⟩ (by rw [World.size_alloc]; exact Nat.lt_succ_of_lt htl), World.cell?_alloc_lt _ _ ⟨t, 0, none⟩ htl]; exact ht)
    (by rw [World.frozen?_alloc_old _ _ ⟨t, 0, none⟩ (by rw [World.size_alloc]; exact Nat.ne_of_lt (Nat.lt_succ_of_lt htl)), World.frozen?_alloc_old _ _ ⟨t, 0, none⟩ (Nat.ne_of_lt htl)]; exact hf)
  have fin := fun o1 o2 => @set_below w t n old ht o1 o2
  have HF : Hid (∀ o1 o2, _ ∧ _) := fin
  clear fin
  have hal := World.block_lt_of_cell? w _ ha
  have ha2 : (w.alloc (.cells #[.pointer (some ⟨4, 137, none⟩), .pointer (some ⟨q, 0, none⟩), .int .u64 150] 146)).cell? ⟨a, 0, none⟩ = some (.int .i64 n) := by
    rw [World.cell?_alloc_lt _ _ ⟨a, 0, none⟩ hal]; exact ha
  have cU := unwrap_any a n _ ha2
  clear hq ht hf hq2 ha ha2
  unfold target
  go_enter Tryz.func99, Tryz.ntmps99
  go_wp2
  refine wp_loop_rounds 2 ?_
  rw [rounds_succ]
  go_wp2_with (first | (go_at_call 126; refine cU.mono ?_; rintro e wx ⟨rfl, rfl⟩) | fail)
  rw [rounds_succ]
  go_wp2
  go_ret
  exact ⟨rfl, HF.out _ _⟩
end Go.Proofs.YtldhbjmillfjgaaGreatDoor

namespace Go.Proofs.YtldhbjmillfjgaaGreatDoor
open Go.RowKit Go.Extern.Stop Go.Stop Go.Extern

set_option maxRecDepth 100000 in
set_option maxHeartbeats 4000000 in
theorem As_place (a : Nat) (n : Int) (t : Nat) (old : Value) (w : World) (hg : asLaid w) (ha : w.cell? ⟨a, 0, none⟩ = some (.int .i64 n)) (ht : w.cell? ⟨t, 0, none⟩ = some old) (hf : w.frozen? ⟨t, 0, none⟩ = false) :
    Calls Tryz.prog 86 #[.iface 118 (.pointer (some ⟨a, 0, none⟩)), .iface 137 (.pointer (some ⟨t, 0, none⟩))] w
      fun e w' => e = .returned (.bool true) ∧ w'.cell? ⟨t, 0, none⟩ = some (.int .i64 n) ∧ Below t w w' := by
  have hVO := @run_callFunc_extern Tryz.prog 96 _ (fun args => ReflectliteValue.unpack (args.getD 0 (.tuple #[]))) Tryz.func96 (by kernel_rfl) (by kernel_rfl) (by kernel_rfl) (by kernel_rfl)
  have hTy := @run_callFunc_extern Tryz.prog 97 _ (ReflectliteValue.methodAny (ReflectliteValue.valueError "reflectlite.Value.Type" 0) (fun t _ _ _ => ReflectliteType.toType t)) Tryz.func97 (by kernel_rfl) (by kernel_rfl) (by kernel_rfl) (by kernel_rfl)
  have hIN := @run_callFunc_extern Tryz.prog 98 _ (ReflectliteValue.method (ReflectliteValue.valueError "reflectlite.Value.IsNil" 0) ReflectliteValue.isNil) Tryz.func98 (by kernel_rfl) (by kernel_rfl) (by kernel_rfl) (by kernel_rfl)
  have hKd := @run_callFunc_extern Tryz.prog 120 _ (ReflectliteType.abiMethod fun t => do pure (.int .u8 (← Rtype.kind t))) Tryz.func120 (by kernel_rfl) (by kernel_rfl) (by kernel_rfl) (by kernel_rfl)
  have hEl := @run_callFunc_extern Tryz.prog 133 _ (ReflectliteType.method ReflectliteType.elem) Tryz.func133 (by kernel_rfl) (by kernel_rfl) (by kernel_rfl) (by kernel_rfl)
  have hIm := @run_callFunc_extern Tryz.prog 134 _ (ReflectliteType.relation "Implements" ReflectliteType.implements_) Tryz.func134 (by kernel_rfl) (by kernel_rfl) (by kernel_rfl) (by kernel_rfl)
  have f6 := as_valueOf
  have f7 := as_type
  have mK := as_methodKind
  have mE := as_methodElem
  have mI := as_methodImplements
  have k92 := as_kindP
  have k23 := as_kindE
  have e92 := as_elem
  have i23 := as_implements
  have htl := World.block_lt_of_cell? w _ ht
  have hal := World.block_lt_of_cell? w _ ha
  have hgl := World.block_lt_of_cell? w _ hg
  obtain ⟨o1, ho1⟩ : ∃ o, o = Obj.cells #[.pointer (some ⟨t, 0, none⟩)] 137 := ⟨_, rfl⟩
  obtain ⟨o2, ho2⟩ : ∃ o, o = Obj.cells #[.pointer (some ⟨4, 137, none⟩), .pointer (some ⟨w.heap.size, 0, none⟩), .int .u64 150] 146 := ⟨_, rfl⟩
  have hn8 := as_isNil ⟨w.heap.size, 0, none⟩ ⟨t, 0, none⟩ ((w.alloc o1).alloc o2) (by rw [World.cell?_alloc_lt _ _ ⟨w.heap.size, 0, none⟩ (by rw [World.size_alloc]; exact Nat.lt_succ_self _), ho1]; simp [go_sem])
  have hg2 : ((w.alloc o1).alloc o2).cell? ⟨1, 0, none⟩ = some (.iface 165 (.agg #[.pointer (some ⟨4, 25, none⟩)])) := by
    rw [World.cell?_alloc_lt _ _ ⟨1, 0, none⟩ (by rw [World.size_alloc]; exact Nat.lt_succ_of_lt hgl), World.cell?_alloc_lt _ _ ⟨1, 0, none⟩ hgl]; exact hg
  have hb2 : Below w.heap.size w ((w.alloc o1).alloc o2) := ((Below.refl _ _).alloc (Nat.le_refl _) _).alloc (by rw [World.size_alloc]; exact Nat.le_succ _) _
  have cA := as_place a n t w.heap.size old ((w.alloc o1).alloc o2)
    (by rw [hb2.cell (p := ⟨a, 0, none⟩) hal]; exact ha)
    (by rw [World.cell?_alloc_lt _ _ ⟨w.heap.size, 0, none⟩ (by rw [World.size_alloc]; exact Nat.lt_succ_self _), ho1]; simp [go_sem])
    (by rw [hb2.cell (p := ⟨t, 0, none⟩) htl]; exact ht)
    (by rw [hb2.frozen (p := ⟨t, 0, none⟩) htl]; exact hf)
  unfold target at cA
  subst ho1 ho2
  have HB : Hid (Below t w _) := hb2.mono (Nat.le_of_lt htl)
  clear ha ht hf hg hb2
  go_enter Tryz.func86, Tryz.ntmps86
  go_wp2_with (first | (go_at_call 99; refine cA.mono ?_; rintro e wx ⟨rfl, hc, hbx⟩) | fail)
  go_ret
  exact ⟨rfl, hc, HB.out.trans hbx⟩

set_option maxHeartbeats 400000 in
theorem Tell_nil (w : World) : Calls Tryz.prog 68 #[.nilIface] w fun e w' => e = .returned (.int .i64 0) ∧ w' = w := by
  go_enter Tryz.func68, Tryz.ntmps68
  go_wp2
  go_ret
  exact ⟨rfl, rfl⟩

set_option maxRecDepth 100000 in
set_option maxHeartbeats 1000000 in
theorem Tell_place (a : Nat) (n : Int) (w : World) (hg : asLaid w) (ha : w.cell? ⟨a, 0, none⟩ = some (.int .i64 n)) :
    Calls Tryz.prog 68 #[.iface 118 (.pointer (some ⟨a, 0, none⟩))] w fun e w' => e = .returned (.int .i64 n) ∧ Below w.heap.size w w' := by
  have hal := World.block_lt_of_cell? w _ ha
  have hgl := World.block_lt_of_cell? w _ hg
  have hb1 : Below w.heap.size w (w.alloc (.cells #[.int .i64 0] 30)) := (Below.refl _ _).alloc (Nat.le_refl _) _
  have cA := As_place a n w.heap.size (.int .i64 0) (w.alloc (.cells #[.int .i64 0] 30)) (by unfold asLaid; rw [hb1.cell (p := ⟨1, 0, none⟩) hgl]; exact hg)
    (by rw [hb1.cell (p := ⟨a, 0, none⟩) hal]; exact ha) (by simp [go_sem]) (by simp [go_sem])
  clear hg ha
  go_enter Tryz.func68, Tryz.ntmps68
  go_wp2_with (first | (go_at_call 86; refine cA.mono ?_; rintro e wx ⟨rfl, hc, hbx⟩) | fail)
  go_ret
  exact ⟨rfl, hb1.trans hbx⟩

set_option maxRecDepth 100000 in
set_option maxHeartbeats 1000000 in
theorem Place_nil (w : World) : Calls Tryz.prog 31 #[.nilIface] w fun e w' => e = .returned (.tuple #[.int .i64 0, .int .i64 (-1)]) ∧ w' = w := by
  go_enter Tryz.func31, Tryz.ntmps31
  go_wp2_with (first | (go_at_call 68; refine (Tell_nil _).mono ?_; rintro e wx ⟨rfl, rfl⟩) | fail)
  refine wp_loop_rounds 1 ?_
  rw [rounds_succ]
  go_wp2
  go_ret2
  exact ⟨rfl, rfl⟩

theorem as_isPlace (a : Addr) (w : World) : (Instr.typeAssert (.iface 118 (.pointer (some a))) 25 118 true).run Tryz.prog w = .ok (.tuple #[.pointer (some a), .bool true]) w := by kernel_rfl

set_option maxRecDepth 100000 in
set_option maxHeartbeats 1000000 in
theorem Place_place (a : Nat) (n p : Int) (w : World) (hg : asLaid w) (ha : w.cell? ⟨a, 0, none⟩ = some (.int .i64 n)) (hp : w.cell? ⟨a, 1, none⟩ = some (.int .i64 p)) :
    Calls Tryz.prog 31 #[.iface 118 (.pointer (some ⟨a, 0, none⟩))] w fun e w' => e = .returned (.tuple #[.int .i64 n, .int .i64 p]) ∧ Below w.heap.size w w' := by
  have hal := World.block_lt_of_cell? w _ ha
  have cT := Tell_place a n w hg ha
  have iP := as_isPlace
  clear hg
  go_enter Tryz.func31, Tryz.ntmps31
  go_wp2_with (first | (go_at_call 68; refine cT.mono ?_; rintro e w1 ⟨rfl, hb1⟩; have hp1 := (hb1.cell (p := ⟨a, 1, none⟩) hal).trans hp) | fail)
  refine wp_loop_rounds 1 ?_
  rw [rounds_succ]
  go_wp2
  go_quiet (fail)
  go_wp2
  go_ret2
  exact ⟨rfl, below_drewN hb1 nq⟩

/-- What the law's 'is' is asked where it says yes. -/
theorem is_any_nil (w : World) : Calls Tryz.prog 7 #[.nilIface, .agg #[.int .i64 0, .int .i64 (-1)]] w fun e w' => e = .returned (.bool true) ∧ Below w.heap.size w w' := by
  go_enter Tryz.func7, Tryz.ntmps7
  go_wp2_with (first | (go_at_call 31; refine (Place_nil _).mono ?_; rintro e wx ⟨rfl, rfl⟩) | fail)
  go_ret
  exact ⟨rfl, (Below.refl _ _).alloc (Nat.le_refl _) _⟩

theorem is_any_place (a : Nat) (n p : Int) (w : World) (hg : asLaid w) (ha : w.cell? ⟨a, 0, none⟩ = some (.int .i64 n)) (hp : w.cell? ⟨a, 1, none⟩ = some (.int .i64 p)) :
    Calls Tryz.prog 7 #[.iface 118 (.pointer (some ⟨a, 0, none⟩)), .agg #[.int .i64 n, .int .i64 p]] w fun e w' => e = .returned (.bool true) ∧ Below w.heap.size w w' := by
  have hal := World.block_lt_of_cell? w _ ha
  have hgl := World.block_lt_of_cell? w _ hg
  have hb1 : Below w.heap.size w (w.alloc (.cells #[.int .i64 n, .int .i64 p] 32)) := (Below.refl _ _).alloc (Nat.le_refl _) _
  have cP := Place_place a n p (w.alloc (.cells #[.int .i64 n, .int .i64 p] 32)) (by unfold asLaid; rw [hb1.cell (p := ⟨1, 0, none⟩) hgl]; exact hg)
    (by rw [hb1.cell (p := ⟨a, 0, none⟩) hal]; exact ha) (by rw [hb1.cell (p := ⟨a, 1, none⟩) hal]; exact hp)
  clear hg ha hp
  go_enter Tryz.func7, Tryz.ntmps7
  go_wp2_with (first | (go_at_call 31; refine cP.mono ?_; rintro e w1 ⟨rfl, hb2⟩; have c0 : w1.cell? ⟨w.heap.size, 0, none⟩ = some (.int .i64 n) := (hb2.cell (p := ⟨w.heap.size, 0, none⟩) (by simp)).trans (by simp [go_sem]); have c1 : w1.cell? ⟨w.heap.size, 1, none⟩ = some (.int .i64 p) := (hb2.cell (p := ⟨w.heap.size, 1, none⟩) (by simp)).trans (by simp [go_sem])) | fail)
  go_ret
  exact ⟨rfl, hb1.trans (hb2.mono (by simp))⟩

/-- .. at the errors that utf returns. -/
theorem is_at {w0 w w2 : World} {v : Value} {p : Int} (hg : asLaid w) (h : isAt w0 w2 v p) (hb : Below w2.heap.size w2 w) :
    Calls Tryz.prog 7 #[v, .agg #[.int .i64 3, .int .i64 p]] w fun e w' => e = .returned (.bool true) ∧ Below w.heap.size w w' := by
  obtain ⟨b, rfl, _, h2, h3, h4⟩ := isAt_below h hb
  exact is_any_place b 3 p w hg h3 h4
theorem asLaid_below {w w' : World} (h : asLaid w) (hb : Below w.heap.size w w') : asLaid w' := by
  unfold asLaid
  rw [hb.cell (p := ⟨1, 0, none⟩) (World.block_lt_of_cell? w _ h)]
  exact h
end Go.Proofs.YtldhbjmillfjgaaGreatDoor

namespace Go.Proofs.YtldhbjmillfjgaaGreatDoor
open Go.RowKit Go.Extern.Stop Go.Stop Go.Extern

set_option maxRecDepth 100000 in
set_option maxHeartbeats 4000000 in
theorem As_number (n : Int) (t : Nat) (old : Value) (w : World) (hg : asLaid w) (ht : w.cell? ⟨t, 0, none⟩ = some old) (hf : w.frozen? ⟨t, 0, none⟩ = false) :
    Calls Tryz.prog 86 #[.iface 30 (.int .i64 n), .iface 137 (.pointer (some ⟨t, 0, none⟩))] w
      fun e w' => e = .returned (.bool true) ∧ w'.cell? ⟨t, 0, none⟩ = some (.int .i64 n) ∧ Below t w w' := by
  have hVO := @run_callFunc_extern Tryz.prog 96 _ (fun args => ReflectliteValue.unpack (args.getD 0 (.tuple #[]))) Tryz.func96 (by kernel_rfl) (by kernel_rfl) (by kernel_rfl) (by kernel_rfl)
  have hTy := @run_callFunc_extern Tryz.prog 97 _ (ReflectliteValue.methodAny (ReflectliteValue.valueError "reflectlite.Value.Type" 0) (fun t _ _ _ => ReflectliteType.toType t)) Tryz.func97 (by kernel_rfl) (by kernel_rfl) (by kernel_rfl) (by kernel_rfl)
  have hIN := @run_callFunc_extern Tryz.prog 98 _ (ReflectliteValue.method (ReflectliteValue.valueError "reflectlite.Value.IsNil" 0) ReflectliteValue.isNil) Tryz.func98 (by kernel_rfl) (by kernel_rfl) (by kernel_rfl) (by kernel_rfl)
  have hKd := @run_callFunc_extern Tryz.prog 120 _ (ReflectliteType.abiMethod fun t => do pure (.int .u8 (← Rtype.kind t))) Tryz.func120 (by kernel_rfl) (by kernel_rfl) (by kernel_rfl) (by kernel_rfl)
  have hEl := @run_callFunc_extern Tryz.prog 133 _ (ReflectliteType.method ReflectliteType.elem) Tryz.func133 (by kernel_rfl) (by kernel_rfl) (by kernel_rfl) (by kernel_rfl)
  have hIm := @run_callFunc_extern Tryz.prog 134 _ (ReflectliteType.relation "Implements" ReflectliteType.implements_) Tryz.func134 (by kernel_rfl) (by kernel_rfl) (by kernel_rfl) (by kernel_rfl)
  have f6 := as_valueOf
  have f7 := as_type
  have mK := as_methodKind
  have mE := as_methodElem
  have mI := as_methodImplements
  have k92 := as_kindP
  have k23 := as_kindE
  have e92 := as_elem
  have i23 := as_implements
  have htl := World.block_lt_of_cell? w _ ht
  have hgl := World.block_lt_of_cell? w _ hg
  obtain ⟨o1, ho1⟩ : ∃ o, o = Obj.cells #[.pointer (some ⟨t, 0, none⟩)] 137 := ⟨_, rfl⟩
  obtain ⟨o2, ho2⟩ : ∃ o, o = Obj.cells #[.pointer (some ⟨4, 137, none⟩), .pointer (some ⟨w.heap.size, 0, none⟩), .int .u64 150] 146 := ⟨_, rfl⟩
  have hn8 := as_isNil ⟨w.heap.size, 0, none⟩ ⟨t, 0, none⟩ ((w.alloc o1).alloc o2) (by rw [World.cell?_alloc_lt _ _ ⟨w.heap.size, 0, none⟩ (by rw [World.size_alloc]; exact Nat.lt_succ_self _), ho1]; simp [go_sem])
  have hg2 : ((w.alloc o1).alloc o2).cell? ⟨1, 0, none⟩ = some (.iface 165 (.agg #[.pointer (some ⟨4, 25, none⟩)])) := by
    rw [World.cell?_alloc_lt _ _ ⟨1, 0, none⟩ (by rw [World.size_alloc]; exact Nat.lt_succ_of_lt hgl), World.cell?_alloc_lt _ _ ⟨1, 0, none⟩ hgl]; exact hg
  have hb2 : Below w.heap.size w ((w.alloc o1).alloc o2) := ((Below.refl _ _).alloc (Nat.le_refl _) _).alloc (by rw [World.size_alloc]; exact Nat.le_succ _) _
  have cA := as_number n t w.heap.size old ((w.alloc o1).alloc o2)
    (by rw [World.cell?_alloc_lt _ _ ⟨w.heap.size, 0, none⟩ (by rw [World.size_alloc]; exact Nat.lt_succ_self _), ho1]; simp [go_sem])
    (by rw [hb2.cell (p := ⟨t, 0, none⟩) htl]; exact ht)
    (by rw [hb2.frozen (p := ⟨t, 0, none⟩) htl]; exact hf)
  unfold target at cA
  subst ho1 ho2
  have HB : Hid (Below t w _) := hb2.mono (Nat.le_of_lt htl)
  clear ht hf hg hb2
  go_enter Tryz.func86, Tryz.ntmps86
  go_wp2_with (first | (go_at_call 99; refine cA.mono ?_; rintro e wx ⟨rfl, hc, hbx⟩) | fail)
  go_ret
  exact ⟨rfl, hc, HB.out.trans hbx⟩

set_option maxRecDepth 100000 in
set_option maxHeartbeats 1000000 in
theorem Tell_number (n : Int) (w : World) (hg : asLaid w) :
    Calls Tryz.prog 68 #[.iface 30 (.int .i64 n)] w fun e w' => e = .returned (.int .i64 n) ∧ Below w.heap.size w w' := by
  have hgl := World.block_lt_of_cell? w _ hg
  have hb1 : Below w.heap.size w (w.alloc (.cells #[.int .i64 0] 30)) := (Below.refl _ _).alloc (Nat.le_refl _) _
  have cA := As_number n w.heap.size (.int .i64 0) (w.alloc (.cells #[.int .i64 0] 30)) (by unfold asLaid; rw [hb1.cell (p := ⟨1, 0, none⟩) hgl]; exact hg)
    (by simp [go_sem]) (by simp [go_sem])
  clear hg
  go_enter Tryz.func68, Tryz.ntmps68
  go_wp2_with (first | (go_at_call 86; refine cA.mono ?_; rintro e wx ⟨rfl, hc, hbx⟩) | fail)
  go_ret
  exact ⟨rfl, hb1.trans hbx⟩

theorem num_isPlace (n : Int) (w : World) : (Instr.typeAssert (.iface 30 (.int .i64 n)) 25 118 true).run Tryz.prog w = .ok (.tuple #[.pointer none, .bool false]) w := by kernel_rfl
theorem num_noUnwrap (v : Value) (xT : TypeId) (w : World) : (Instr.typeAssert (.iface 30 v) xT 121 true).run Tryz.prog w = .ok (.tuple #[.nilIface, .bool false]) w := run_typeAssert_lacksB Tryz.underlying121 (by kernel_rfl) (by kernel_rfl) v xT w

set_option maxRecDepth 100000 in
set_option maxHeartbeats 1000000 in
theorem Place_number (n : Int) (w : World) (hg : asLaid w) :
    Calls Tryz.prog 31 #[.iface 30 (.int .i64 n)] w fun e w' => e = .returned (.tuple #[.int .i64 n, .int .i64 (-1)]) ∧ Below w.heap.size w w' := by
  have cT := Tell_number n w hg
  have iP := num_isPlace
  have nU := num_noUnwrap
  clear hg
  go_enter Tryz.func31, Tryz.ntmps31
  go_wp2_with (first | (go_at_call 68; refine cT.mono ?_; rintro e w1 ⟨rfl, hb1⟩) | fail)
  refine wp_loop_rounds 1 ?_
  rw [rounds_succ]
  go_wp2
  go_ret2
  exact ⟨rfl, hb1⟩

theorem is_any_number (n : Int) (w : World) (hg : asLaid w) : Calls Tryz.prog 7 #[.iface 30 (.int .i64 n), .agg #[.int .i64 n, .int .i64 (-1)]] w fun e w' => e = .returned (.bool true) ∧ Below w.heap.size w w' := by
  have hb1 : Below w.heap.size w (w.alloc (.cells #[.int .i64 n, .int .i64 (-1)] 32)) := (Below.refl _ _).alloc (Nat.le_refl _) _
  have cP := Place_number n (w.alloc (.cells #[.int .i64 n, .int .i64 (-1)] 32)) (asLaid_below hg hb1)
  clear hg
  go_enter Tryz.func7, Tryz.ntmps7
  go_wp2_with (first | (go_at_call 31; refine cP.mono ?_; rintro e w1 ⟨rfl, hb2⟩; have c0 : w1.cell? ⟨w.heap.size, 0, none⟩ = some (.int .i64 n) := (hb2.cell (p := ⟨w.heap.size, 0, none⟩) (by simp)).trans (by simp [go_sem]); have c1 : w1.cell? ⟨w.heap.size, 1, none⟩ = some (.int .i64 (-1)) := (hb2.cell (p := ⟨w.heap.size, 1, none⟩) (by simp)).trans (by simp [go_sem])) | fail)
  go_ret
  exact ⟨rfl, hb1.trans (hb2.mono (by simp))⟩

/-- An error number, or none. -/
def errV (n : Int) : Value := if n = 0 then .nilIface else .iface 30 (.int .i64 n)

/-- The law's 'bare', where both tell the same. -/
theorem bare_any (n : Int) (w : World) (hg : asLaid w) : Calls Tryz.prog 19 #[errV n, .int .i64 n] w fun e w' => e = .returned (.bool true) ∧ Below w.heap.size w w' := by
  have cB := Bare_any n w
  unfold errV
  by_cases h : n = 0
  · subst h
    simp only [if_true]
    clear hg
    go_enter Tryz.func19, Tryz.ntmps19
    go_wp2_with (first | (go_at_call 33; refine cB.mono ?_; rintro e w1 ⟨rfl, hb1⟩) | (go_at_call 7; refine (is_any_nil _).mono ?_; rintro e w2 ⟨rfl, hb2⟩) | fail)
    go_ret
    exact ⟨rfl, hb1.trans (hb2.mono hb1.size)⟩
  · simp only [h, if_false]
    have HG : Hid (∀ wx, Below w.heap.size w wx → asLaid wx) := fun wx hb => asLaid_below hg hb
    clear hg
    go_enter Tryz.func19, Tryz.ntmps19
    go_wp2_with (first | (go_at_call 33; refine cB.mono ?_; rintro e w1 ⟨rfl, hb1⟩) | (go_at_call 7; refine (is_any_number n _ (HG.out _ hb1)).mono ?_; rintro e w2 ⟨rfl, hb2⟩) | fail)
    go_ret
    exact ⟨rfl, hb1.trans (hb2.mono hb1.size)⟩
end Go.Proofs.YtldhbjmillfjgaaGreatDoor

namespace Go.Proofs.YtldhbjmillfjgaaGreatDoor
open Go.RowKit
set_option linter.unusedVariables false
attribute [local go_sem] Oper.semAt_some

def unitOk (u : Int) : Prop := u = 1 ∨ u = 2 ∨ u = 3
theorem isUnit_bad (u : Int) (hu : ¬ unitOk u) (w : World) : Calls Tryz.prog 45 #[.int .i64 u] w fun e w' => e = .returned (.bool false) ∧ w' = w := by
  have k1 : (u == 1) = false := beq_eq_false_iff_ne.2 fun e => hu (.inl e)
  have k2 : (u == 2) = false := beq_eq_false_iff_ne.2 fun e => hu (.inr (.inl e))
  have k3 : (u == 3) = false := beq_eq_false_iff_ne.2 fun e => hu (.inr (.inr e))
  clear hu
  go_enter Tryz.func45, Tryz.ntmps45
  go_wp2
  go_ret
  exact ⟨rfl, rfl⟩
set_option maxRecDepth 100000 in
set_option maxHeartbeats 1000000 in
theorem ahead_bad (b : Nat) (u at_ : Int) (hu : ¬ unitOk u) (w : World) :
    Calls Tryz.prog 16 #[.pointer (some ⟨b, 0, none⟩), .int .i64 u, .int .i64 at_] w fun e w' => e = .returned (.tuple #[cntV [], errV 1]) ∧ Below w.heap.size w w' := by
  have cN := fun wx => isUnit_bad u hu wx
  have hb2 : Below w.heap.size w (((w.alloc (.cells #[.int .i64 u] 3)).alloc (.cells #[.int .i64 at_] 3)).alloc (.cells #[.int .i64 0, .int .i64 0, .int .i64 0, .int .i64 0] 29)) := (((Below.refl _ w).alloc (Nat.le_refl _) _).alloc (by simp) _).alloc (by simp; omega) _
  have HB2 : Hid _ := hb2
  have hV : errV 1 = .iface 30 (.int .i64 1) := rfl
  have hC : cntV [] = .agg #[.int .i64 0, .int .i64 0, .int .i64 0, .int .i64 0] := rfl
  rw [hV, hC]
  clear hu hb2 hV hC
  go_enter Tryz.func16, Tryz.ntmps16
  go_wp2_with (first
    | (go_at_call 45; refine (cN _).mono ?_; rintro e w1 ⟨rfl, hw1⟩; obtain rfl := hw1.symm)
    | fail)
  refine bodyPost_ret (v := .tuple #[.agg #[.int .i64 0, .int .i64 0, .int .i64 0, .int .i64 0], .iface 30 (.int .i64 1)]) (by simp [results, Tryz.results16, go_sem]) rfl ⟨rfl, HB2.out⟩
set_option maxHeartbeats 1000000 in
theorem unitError_bad (b : Nat) (u : Int) (hu : ¬ unitOk u) (w : World) :
    Calls Tryz.prog 51 #[.pointer (some ⟨b, 0, none⟩), .int .i64 u] w fun e w' => e = .returned (errV 1) ∧ Below w.heap.size w w' := by
  have cA : Hid _ := ahead_bad b u 0 hu w
  have hV : errV 1 = .iface 30 (.int .i64 1) := rfl
  have hC : cntV [] = .agg #[.int .i64 0, .int .i64 0, .int .i64 0, .int .i64 0] := rfl
  rw [hV] at cA ⊢
  rw [hC] at cA
  clear hu hV hC
  go_enter Tryz.func51, Tryz.ntmps51
  go_wp2_with (first
    | (go_at_call 16; refine Calls.mono cA.out ?_; rintro e w1 ⟨rfl, hb1⟩)
    | fail)
  go_ret
  exact ⟨rfl, hb1.alloc hb1.size _⟩
set_option maxHeartbeats 1000000 in
theorem convert_to (b : Nat) (u v at_ : Int) (hv : ¬ unitOk v) (w : World) :
    Calls Tryz.prog 21 #[.pointer (some ⟨b, 0, none⟩), .int .i64 u, .int .i64 v, .int .i64 at_] w fun e w' => e = .returned (.tuple #[.int .i64 0, errV 1]) ∧ Below w.heap.size w w' := by
  have cU : Hid _ := unitError_bad b v hv w
  have hV : errV 1 = .iface 30 (.int .i64 1) := rfl
  rw [hV] at cU ⊢
  clear hv hV
  go_enter Tryz.func21, Tryz.ntmps21
  go_wp2_with (first
    | (go_at_call 51; refine Calls.mono cU.out ?_; rintro e w1 ⟨rfl, hb1⟩)
    | fail)
  go_ret2
  exact ⟨rfl, hb1⟩
set_option maxHeartbeats 1000000 in
theorem convert_from (b : Nat) (rs : List Nat) (u v at_ : Int) (hv : unitOk v) (hu : ¬ unitOk u) (w : World) (hT : Lib.Utf8Tabs 2 3 w) (h : isRope w b rs) (hz : C1 rs ≤ 100000000) :
    Calls Tryz.prog 21 #[.pointer (some ⟨b, 0, none⟩), .int .i64 u, .int .i64 v, .int .i64 at_] w fun e w' => e = .returned (.tuple #[.int .i64 0, errV 1]) ∧ Below w.heap.size w w' := by
  have cU : Hid _ := unitError_good b rs v hv w hT h hz
  have cA : Hid (∀ wx, Calls Tryz.prog 16 #[.pointer (some ⟨b, 0, none⟩), .int .i64 u, .int .i64 at_] wx fun e w' => e = .returned (.tuple #[.agg #[.int .i64 0, .int .i64 0, .int .i64 0, .int .i64 0], .iface 30 (.int .i64 1)]) ∧ Below wx.heap.size wx w') := fun wx => ahead_bad b u at_ hu wx
  have hV : errV 1 = .iface 30 (.int .i64 1) := rfl
  rw [hV]
  clear hv hu hV hT h hz
  go_enter Tryz.func21, Tryz.ntmps21
  go_wp2_with (first
    | (go_at_call 51; refine Calls.mono cU.out ?_; rintro e w1 ⟨rfl, hb1⟩; have HB1 : Hid (Below w.heap.size w w1) := hb1; clear hb1)
    | (go_at_call 16; refine (cA.out _).mono ?_; rintro e w2 ⟨rfl, hb2⟩; have HB2 : Hid (Below w.heap.size w w2) := HB1.out.trans (hb2.mono HB1.out.size); clear hb2)
    | fail)
  go_ret2
  exact ⟨rfl, HB2.out.alloc HB2.out.size _⟩
set_option maxHeartbeats 1000000 in
theorem convert_ord (b : Nat) (rs : List Nat) (u v at_ : Int) (hu : unitOk u) (hv : unitOk v) (hl0 : 0 ≤ at_) (hl1 : at_ ≤ by_ u rs) (w : World) (hT : Lib.Utf8Tabs 2 3 w) (h : isRope w b rs) (hz : C1 rs ≤ 100000000) (X : List Nat) (hX : find (reachesBy u at_) [] rs = X) (hfine : by_ u X ≠ at_) :
    Calls Tryz.prog 21 #[.pointer (some ⟨b, 0, none⟩), .int .i64 u, .int .i64 v, .int .i64 at_] w fun e w' => e = .returned (.tuple #[.int .i64 0, errV 10]) ∧ Below w.heap.size w w' := by
  have cU : Hid _ := unitError_good b rs v hv w hT h hz
  have cA : Hid (∀ wx, Below w.heap.size w wx → Calls Tryz.prog 16 #[.pointer (some ⟨b, 0, none⟩), .int .i64 u, .int .i64 at_] wx fun e w' => e = .returned (.tuple #[.agg #[.int .i64 0, .int .i64 0, .int .i64 0, .int .i64 0], .iface 30 (.int .i64 10)]) ∧ Below wx.heap.size wx w') := fun wx hb => by
    have := ahead_any b rs u at_ hu hl0 hl1 wx (Go.Proofs.Utf8Tabs_below hT hb) (isRope_below h hb) hz
    rw [hX, if_neg hfine] at this
    exact this
  have hV : errV 10 = .iface 30 (.int .i64 10) := rfl
  rw [hV]
  clear hT h hu hz hv hl0 hl1 hX hfine hV
  go_enter Tryz.func21, Tryz.ntmps21
  go_wp2_with (first
    | (go_at_call 51; refine Calls.mono cU.out ?_; rintro e w1 ⟨rfl, hb1⟩; have HB1 : Hid (Below w.heap.size w w1) := hb1; clear hb1)
    | (go_at_call 16; refine (cA.out _ HB1.out).mono ?_; rintro e w2 ⟨rfl, hb2⟩; have HB2 : Hid (Below w.heap.size w w2) := HB1.out.trans (hb2.mono HB1.out.size); clear hb2)
    | fail)
  go_ret2
  exact ⟨rfl, HB2.out.alloc HB2.out.size _⟩
end Go.Proofs.YtldhbjmillfjgaaGreatDoor

namespace Go.Proofs.YtldhbjmillfjgaaGreatDoor

/-- A part of an operation. -/
structure Pt where
  keep : Int
  drop : Int
  put : List UInt8
deriving DecidableEq

/-- What a gathering keeps: what it told, what is put and dropped since. -/
structure NSt where
  out : List Pt
  put : List UInt8
  drop : Int
deriving DecidableEq

def tellP (s : NSt) : List Pt := s.out ++ ((if s.put = [] then [] else [⟨0, 0, s.put⟩]) ++ (if s.drop = 0 then [] else [⟨0, s.drop, []⟩]))
def lastKeeps (l : List Pt) : Bool := match l.getLast? with
  | some p => decide (0 < p.keep)
  | none => false
def pushKeep (l : List Pt) (k : Int) : List Pt := match l.getLast? with
  | some p => if 0 < p.keep then l.dropLast ++ [⟨p.keep + k, p.drop, p.put⟩] else l ++ [⟨k, 0, []⟩]
  | none => l ++ [⟨k, 0, []⟩]
def addP (s : NSt) (p : Pt) : NSt := if p.keep = 0 then ⟨s.out, s.put ++ p.put, s.drop + p.drop⟩ else ⟨pushKeep (tellP ⟨s.out, s.put ++ p.put, s.drop + p.drop⟩) p.keep, [], 0⟩
def nst0 : NSt := ⟨[], [], 0⟩
def normP (op : List Pt) : List Pt := tellP (op.foldl addP nst0)

theorem pushKeep_more (l : List Pt) (a b : Int) (ha : 0 < a) : pushKeep (pushKeep l a) b = pushKeep l (a + b) := by
  unfold pushKeep
  cases h : l.getLast? with
  | none => simp [ha]
  | some p =>
    by_cases hp : 0 < p.keep
    · have h2 : 0 < p.keep + a := by omega
      simp [hp, h2, Int.add_assoc]
    · simp [hp, ha]

theorem tellP_done (l : List Pt) : tellP ⟨l, [], 0⟩ = l := by simp [tellP]
theorem addP_none (s : NSt) : addP s ⟨0, 0, []⟩ = s := by simp [addP]
theorem addP_split (s : NSt) (k d : Int) (q : List UInt8) : addP s ⟨k, d, q⟩ = addP (addP (addP s ⟨0, 0, q⟩) ⟨0, d, []⟩) ⟨k, 0, []⟩ := by
  by_cases h : k = 0
  · subst h; simp [addP]
  · simp [addP, h]
theorem addP_drops (s : NSt) (a b : Int) : addP (addP s ⟨0, a, []⟩) ⟨0, b, []⟩ = addP s ⟨0, a + b, []⟩ := by simp [addP, Int.add_assoc]
theorem addP_puts (s : NSt) (a b : List UInt8) : addP (addP s ⟨0, 0, a⟩) ⟨0, 0, b⟩ = addP s ⟨0, 0, a ++ b⟩ := by simp [addP]
theorem addP_keeps (s : NSt) (a b : Int) (ha : 0 < a) (hb : 0 ≤ b) : addP (addP s ⟨a, 0, []⟩) ⟨b, 0, []⟩ = addP s ⟨a + b, 0, []⟩ := by
  have h1 : a ≠ 0 := by omega
  have h2 : a + b ≠ 0 := by omega
  by_cases h : b = 0
  · subst h; simp [addP, h1]
  · simp [addP, h, h1, h2, tellP_done, pushKeep_more _ a b ha]

/-- One byte of the text: dropped, or kept. -/
def unitP (d : Bool) : Pt := if d then ⟨0, 1, []⟩ else ⟨1, 0, []⟩

/-- Gaps so far: what is put ahead of each byte, and whether it is dropped; and what is put behind them. -/
abbrev GSt := List (List UInt8 × Bool) × List UInt8
def tick (d : Bool) (g : GSt) : GSt := (g.1 ++ [(g.2, d)], [])
def ticks (d : Bool) : Nat → GSt → GSt
  | 0, g => g
  | n + 1, g => ticks d n (tick d g)
def spreadP (g : GSt) (p : Pt) : GSt := ticks false p.keep.toNat (ticks true p.drop.toNat (g.1, g.2 ++ p.put))
def spreads (op : List Pt) : GSt := op.foldl spreadP ([], [])

theorem ticks_len (d : Bool) : ∀ (n : Nat) (g : GSt), (ticks d n g).1.length = g.1.length + n
  | 0, _ => rfl
  | n + 1, g => by rw [ticks, ticks_len d n, tick, List.length_append, List.length_singleton]; omega
theorem ticks_more (d : Bool) : ∀ (n : Nat) (g : GSt), ticks d (n + 1) g = tick d (ticks d n g)
  | 0, _ => rfl
  | n + 1, g => by rw [ticks, ticks_more d n, ticks]
def lenP (p : Pt) : Int := p.keep + p.drop
theorem spreadP_len (g : GSt) (p : Pt) (hk : 0 ≤ p.keep) (hd : 0 ≤ p.drop) : ((spreadP g p).1.length : Int) = g.1.length + lenP p := by
  unfold spreadP lenP
  rw [ticks_len, ticks_len]
  show ((g.1.length + _ + _ : Nat) : Int) = _
  omega

def gapAdd (s : NSt) (x : List UInt8 × Bool) : NSt := addP (addP s ⟨0, 0, x.1⟩) (unitP x.2)
def runG (g : GSt) : NSt := addP (g.1.foldl gapAdd nst0) ⟨0, 0, g.2⟩
theorem runG_tick (d : Bool) (g : GSt) : runG (tick d g) = addP (runG g) (unitP d) := by
  unfold runG tick
  rw [List.foldl_append]
  show addP (gapAdd _ _) ⟨0, 0, []⟩ = _
  rw [addP_none]
  rfl
theorem runG_drops : ∀ (n : Nat) (g : GSt), runG (ticks true n g) = addP (runG g) ⟨0, n, []⟩
  | 0, g => (addP_none _).symm
  | n + 1, g => by
    rw [ticks, runG_drops n, runG_tick]
    show addP (addP _ ⟨0, 1, []⟩) _ = _
    rw [addP_drops]
    congr 2
    omega
theorem runG_keeps : ∀ (n : Nat) (g : GSt), runG (ticks false n g) = addP (runG g) ⟨n, 0, []⟩
  | 0, g => (addP_none _).symm
  | n + 1, g => by
    rw [ticks, runG_keeps n, runG_tick]
    show addP (addP _ ⟨1, 0, []⟩) _ = _
    rw [addP_keeps _ _ _ (by omega) (by omega)]
    congr 2
    omega
theorem runG_spread (g : GSt) (p : Pt) (hk : 0 ≤ p.keep) (hd : 0 ≤ p.drop) : runG (spreadP g p) = addP (runG g) p := by
  obtain ⟨k, d, q⟩ := p
  unfold spreadP
  rw [runG_keeps, runG_drops]
  have : runG (g.1, g.2 ++ q) = addP (runG g) ⟨0, 0, q⟩ := by unfold runG; rw [addP_puts]
  rw [this, addP_split _ k d q]
  show addP (addP _ ⟨0, (d.toNat : Int), []⟩) ⟨(k.toNat : Int), 0, []⟩ = _
  rw [Int.toNat_of_nonneg hk, Int.toNat_of_nonneg hd]
theorem runG_spreads (op : List Pt) (h : ∀ p ∈ op, 0 ≤ p.keep ∧ 0 ≤ p.drop) : runG (spreads op) = op.foldl addP nst0 := by
  have key : ∀ (l : List Pt) (g : GSt), (∀ p ∈ l, 0 ≤ p.keep ∧ 0 ≤ p.drop) → runG (l.foldl spreadP g) = l.foldl addP (runG g) := by
    intro l
    induction l with
    | nil => intros; rfl
    | cons p l ih =>
      intro g h
      rw [List.foldl_cons, List.foldl_cons, ih _ fun x hx => h x (List.mem_cons_of_mem _ hx), runG_spread g p (h p (List.mem_cons_self ..)).1 (h p (List.mem_cons_self ..)).2]
  exact key op _ h

/-- What the document's own gathering keeps. -/
structure KSt where
  out : List Pt
  put : List UInt8
  drop : Int
  keep : Int
deriving DecidableEq
def kst0 : KSt := ⟨[], [], 0, 0⟩
/-- What is put at a gap, or that a byte behind it is dropped: what was kept is told. -/
def flushK (s : KSt) (q : List UInt8) (d : Bool) : KSt := if q ≠ [] ∨ d = true then ⟨if 0 < s.keep then s.out ++ [⟨s.keep, 0, []⟩] else s.out, s.put ++ q, s.drop, if 0 < s.keep then 0 else s.keep⟩ else s
def byteK (s : KSt) (d : Bool) : KSt := if d then ⟨s.out, s.put, s.drop + 1, s.keep⟩ else ⟨tellP ⟨s.out, s.put, s.drop⟩, [], 0, s.keep + 1⟩
def stepK (s : KSt) (x : List UInt8 × Bool) : KSt := byteK (flushK s x.1 x.2) x.2
def endK (s : KSt) : List Pt := tellP ⟨if 0 < s.keep then s.out ++ [⟨s.keep, 0, []⟩] else s.out, s.put, s.drop⟩
def gatherP (g : GSt) : List Pt := endK (flushK (g.1.foldl stepK kst0) g.2 false)

def nfK (s : KSt) : NSt := if 0 < s.keep then ⟨s.out ++ [⟨s.keep, 0, []⟩], [], 0⟩ else ⟨s.out, s.put, s.drop⟩
structure InvK (s : KSt) : Prop where
  k0 : 0 ≤ s.keep
  d0 : 0 ≤ s.drop
  quiet : 0 < s.keep → s.put = [] ∧ s.drop = 0 ∧ lastKeeps s.out = false
  last : s.keep = 0 → lastKeeps (tellP ⟨s.out, s.put, s.drop⟩) = false

theorem lastKeeps_snoc (l : List Pt) (p : Pt) : lastKeeps (l ++ [p]) = decide (0 < p.keep) := by simp [lastKeeps]
theorem pushKeep_new (l : List Pt) (k : Int) (h : lastKeeps l = false) : pushKeep l k = l ++ [⟨k, 0, []⟩] := by
  unfold lastKeeps at h
  unfold pushKeep
  cases hl : l.getLast? with
  | none => rfl
  | some p => simp only [hl, decide_eq_false_iff_not] at h; simp [h]
theorem pushKeep_snoc (l : List Pt) (a k : Int) (h : 0 < a) : pushKeep (l ++ [⟨a, 0, []⟩]) k = l ++ [⟨a + k, 0, []⟩] := by simp [pushKeep, h]
theorem lastKeeps_tell (l : List Pt) (q : List UInt8) (d : Int) (h : q ≠ [] ∨ d ≠ 0) : lastKeeps (tellP ⟨l, q, d⟩) = false := by
  unfold tellP
  by_cases hd : d = 0
  · have hq : q ≠ [] := by rcases h with h | h; exact h; exact absurd hd h
    simp [hd, hq, lastKeeps]
  · by_cases hq : q = []
    · simp [hd, hq, lastKeeps]
    · simp [hd, hq, lastKeeps]

theorem step_flush (s : KSt) (h : InvK s) (q : List UInt8) (d : Bool) : nfK (flushK s q d) = addP (nfK s) ⟨0, 0, q⟩ ∧ (q ≠ [] ∨ d = true → (flushK s q d).keep = 0) ∧ (¬ (q ≠ [] ∨ d = true) → flushK s q d = s) ∧ 0 ≤ (flushK s q d).drop := by
  unfold flushK
  have h0 := h.k0
  have hd0 := h.d0
  by_cases hc : q ≠ [] ∨ d = true
  · rw [if_pos hc]
    refine ⟨?_, ?_, fun h => absurd hc h, ?_⟩
    · by_cases hk : 0 < s.keep
      · obtain ⟨q1, q2, _⟩ := h.quiet hk
        simp [hk, nfK, addP, q1, q2]
      · have : s.keep = 0 := by omega
        simp [this, nfK, addP]
    · intro _
      by_cases hk : 0 < s.keep
      · simp [hk]
      · have : s.keep = 0 := by omega
        simp [this]
    · exact hd0
  · rw [if_neg hc]
    have hq : q = [] := by
      by_cases hq : q = []
      · exact hq
      · exact absurd (.inl hq) hc
    subst hq
    exact ⟨by simp [addP], fun h => absurd h hc, fun _ => rfl, hd0⟩

theorem step_any (s : KSt) (h : InvK s) (x : List UInt8 × Bool) : nfK (stepK s x) = gapAdd (nfK s) x ∧ InvK (stepK s x) := by
  obtain ⟨q, d⟩ := x
  obtain ⟨f1, f2, f3, f4⟩ := step_flush s h q d
  unfold gapAdd stepK
  show nfK (byteK (flushK s q d) d) = addP (addP (nfK s) ⟨0, 0, q⟩) (unitP d) ∧ InvK (byteK (flushK s q d) d)
  rw [← f1]
  generalize hs' : flushK s q d = t at *
  cases d with
  | true =>
    have hk := f2 (.inr rfl)
    have hne : t.drop + 1 ≠ 0 := by omega
    refine ⟨?_, ?_, ?_, ?_, ?_⟩
    · simp [byteK, nfK, hk, unitP, addP]
    · simp [byteK, hk]
    · simp [byteK]; omega
    · simp [byteK, hk]
    · intro _
      exact lastKeeps_tell _ _ _ (.inr hne)
  | false =>
    by_cases hq : q ≠ []
    · have hk := f2 (.inl hq)
      have hl : lastKeeps (tellP ⟨t.out, t.put, t.drop⟩) = false := by
        refine lastKeeps_tell _ _ _ (.inl ?_)
        rw [← hs']
        simp [flushK, hq]
      refine ⟨?_, ?_, ?_, ?_, ?_⟩
      · simp [byteK, nfK, hk, unitP, addP, pushKeep_new _ _ hl]
      · simp [byteK, hk]
      · simp [byteK]
      · intro _; exact ⟨rfl, rfl, hl⟩
      · simp [byteK, hk]
    · obtain rfl := f3 (by simpa using hq)
      have h0 := h.k0
      by_cases hk : 0 < t.keep
      · obtain ⟨q1, q2, q3⟩ := h.quiet hk
        refine ⟨?_, ?_, ?_, ?_, ?_⟩
        · simp [byteK, nfK, hk, unitP, addP, q1, q2, tellP_done, pushKeep_snoc _ _ _ hk]
          omega
        · simp [byteK]; omega
        · simp [byteK]
        · intro _
          refine ⟨rfl, rfl, ?_⟩
          show lastKeeps (tellP ⟨t.out, t.put, t.drop⟩) = false
          rw [q1, q2, tellP_done]; exact q3
        · simp [byteK]; omega
      · have hk0 : t.keep = 0 := by omega
        have hl := h.last hk0
        refine ⟨?_, ?_, ?_, ?_, ?_⟩
        · simp [byteK, nfK, hk0, unitP, addP, pushKeep_new _ _ hl]
        · simp [byteK, hk0]
        · simp [byteK]
        · intro _; exact ⟨rfl, rfl, hl⟩
        · simp [byteK, hk0]

theorem inv0 : InvK kst0 := ⟨by simp [kst0], by simp [kst0], by simp [kst0], by simp [kst0, tellP, lastKeeps]⟩
theorem steps_any (l : List (List UInt8 × Bool)) : ∀ (s : KSt), InvK s → nfK (l.foldl stepK s) = l.foldl gapAdd (nfK s) ∧ InvK (l.foldl stepK s) := by
  induction l with
  | nil => exact fun s h => ⟨rfl, h⟩
  | cons x l ih =>
    intro s h
    obtain ⟨h1, h2⟩ := step_any s h x
    rw [List.foldl_cons, List.foldl_cons, ← h1]
    exact ih _ h2
theorem endK_nf (s : KSt) (h : 0 < s.keep → s.put = [] ∧ s.drop = 0) : endK s = tellP (nfK s) := by
  unfold endK nfK
  by_cases hk : 0 < s.keep
  · obtain ⟨h1, h2⟩ := h hk
    simp [hk, h1, h2]
  · simp [hk]

/-- Gap by gap, or part by part: the same least form. -/
theorem gather_norm (op : List Pt) (h : ∀ p ∈ op, 0 ≤ p.keep ∧ 0 ≤ p.drop) : gatherP (spreads op) = normP op := by
  unfold gatherP normP
  obtain ⟨h1, h2⟩ := steps_any (spreads op).1 kst0 inv0
  obtain ⟨f1, f2, f3, f4⟩ := step_flush _ h2 (spreads op).2 false
  rw [endK_nf, f1, h1, ← runG_spreads op h]
  · rfl
  · intro hk
    by_cases hq : (spreads op).2 ≠ [] ∨ false = true
    · rw [f2 hq] at hk; omega
    · rw [f3 hq] at hk ⊢
      exact ⟨(h2.quiet hk).1, (h2.quiet hk).2.1⟩
end Go.Proofs.YtldhbjmillfjgaaGreatDoor
