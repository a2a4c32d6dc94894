/-
  server.New.
  The document's server: Take of a new one; NewServer.
  One operation told to both servers.
  The document's NewServer.
-/
import Derived.Test.YtfedgjnhanlmeabGreatDoorPartH
import Derived.Test.YtfedgjnhanlmeabGreatDoorPartA
import Derived.Test.YtfedgjnhanlmeabGreatDoorPartF
namespace Go.Proofs.YtfedgjnhanlmeabGreatDoor
open Go.RowKit Go.Maps
set_option linter.unusedVariables false
attribute [local go_sem] Oper.semAt_some
theorem srvMakeMap (t : TypeId) (w : World) : (Instr.makeMap t none).run Tryz.prog w = .ok (.map (some w.heap.size)) (w.alloc (.map #[] 0)) := rfl
attribute [local go_sem] srvMakeMap

set_option maxRecDepth 100000 in
set_option maxHeartbeats 1000000 in
theorem srvNew_bad (s : List UInt8) (hs : s.length ≤ 1000000) (hsc : (scan s).2 = false) (w : World) (hT : Lib.Utf8Tabs 2 3 w) : Calls Tryz.prog 35 #[.string ⟨s.toArray⟩] w fun e w' => ∃ x w1, e = .returned (.tuple #[.pointer none, x]) ∧ isAt w w1 x (place s) ∧ Below w1.heap.size w1 w' ∧ Below w.heap.size w w' := by
  have cC : Hid (Calls Tryz.prog 77 #[.string ⟨s.toArray⟩] w fun e w' => ∃ b, e = .returned (.tuple #[cnt 0 0 0 0, .iface 268 (.pointer (some ⟨b, 0, none⟩))]) ∧ isAt w w' (.iface 268 (.pointer (some ⟨b, 0, none⟩))) (place s) ∧ Below w.heap.size w w') :=
    (Count_any ⟨s.toArray⟩ (by simp [ByteArray.size]; omega) w hT).mono fun e w' ⟨v, x, h1, h2, h3⟩ => by
      have e0 : (ByteArray.mk s.toArray).data.toList = s := rfl
      rw [e0] at h3
      rcases h3 with ⟨h4, _⟩ | ⟨_, rfl, h5⟩
      · rw [hsc] at h4; cases h4
      · have h6 := h5
        obtain ⟨b, rfl, _⟩ := h6
        exact ⟨b, h1, h5, h2⟩
  unfold cnt at cC
  clear hT hs hsc
  generalize ByteArray.mk s.toArray = S at *
  go_enter Tryz.func35, Tryz.ntmps35
  go_wp2_with (first
    | (go_at_call 77; refine Calls.mono cC.out ?_; rintro e w1 ⟨b, rfl, hi, hb1⟩; have HI : Hid _ := hi; have HB1 : Hid (Below w.heap.size w w1) := hb1; clear hi hb1)
    | fail)
  go_ret2
  exact ⟨_, w1, rfl, HI.out, (Below.refl _ _).alloc (Nat.le_refl _) _, HB1.out.alloc HB1.out.size _⟩
theorem srvNew_count (s : List UInt8) (hs : s.length ≤ 1000000) (hsc : (scan s).2 = true) (w : World) (hT : Lib.Utf8Tabs 2 3 w) : Calls Tryz.prog 77 #[.string ⟨s.toArray⟩] w fun e w' => ∃ n1 n2 n3 n4, e = .returned (.tuple #[.agg #[.int .i64 n1, .int .i64 n2, .int .i64 n3, .int .i64 n4], .nilIface]) ∧ Below w.heap.size w w' :=
  (Count_any ⟨s.toArray⟩ (by simp [ByteArray.size]; omega) w hT).mono fun e w' ⟨v, x, h1, h2, h3⟩ => by
    have e0 : (ByteArray.mk s.toArray).data.toList = s := rfl
    rw [e0] at h3
    rcases h3 with ⟨_, rfl, rfl⟩ | ⟨h4, _⟩
    · exact ⟨_, _, _, _, h1, h2⟩
    · rw [hsc] at h4; cases h4
set_option maxRecDepth 100000 in
set_option maxHeartbeats 1000000 in
theorem srvNew_full (s : List UInt8) (hs : s.length ≤ 1000000) (hz : 2000 < s.length) (hsc : (scan s).2 = true) (w : World) (hT : Lib.Utf8Tabs 2 3 w) : Calls Tryz.prog 35 #[.string ⟨s.toArray⟩] w fun e w' => e = .returned (.tuple #[.pointer none, errV 12]) ∧ Below w.heap.size w w' := by
  have cC : Hid _ := srvNew_count s hs hsc w hT
  have hz1 : (ByteArray.mk s.toArray).size = s.length := by simp [ByteArray.size]
  have hz2 : (2000 : Int) < (s.length : Int) := by omega
  rw [show errV 12 = .iface 26 (.int .i64 12) from rfl]
  clear hT hs hsc hz
  go_enter Tryz.func35, Tryz.ntmps35
  go_wp2_with (first
    | (go_at_call 77; refine Calls.mono cC.out ?_; rintro e w1 ⟨n1, n2, n3, n4, rfl, hb1⟩; have HB1 : Hid (Below w.heap.size w w1) := hb1; clear hb1)
    | fail)
  go_ret2
  exact ⟨rfl, HB1.out.alloc HB1.out.size _⟩
set_option maxRecDepth 100000 in
set_option maxHeartbeats 1000000 in
theorem srvNew_good (lo : Nat) (s : List UInt8) (hz : s.length ≤ 2000) (hsc : (scan s).2 = true) (w : World) (hlo : lo ≤ w.heap.size) (hT : Lib.Utf8Tabs 2 3 w) : Calls Tryz.prog 35 #[.string ⟨s.toArray⟩] w fun e w' => ∃ b bm, e = .returned (.tuple #[.pointer (some ⟨b, 0, none⟩), .nilIface]) ∧ isSrv lo 0 w' b bm s [] (fun _ => none) ∧ bm < w'.heap.size ∧ Below w.heap.size w w' := by
  have cC : Hid _ := srvNew_count s (by omega) hsc w hT
  have CL : Hid (∀ wx, Calls Tryz.prog 110 #[.string ⟨s.toArray⟩] wx fun e w' => e = .returned (.string ⟨s.toArray⟩) ∧ Below wx.heap.size wx w') := fun wx => cloneS_any s (by omega) wx
  have hz1 : (ByteArray.mk s.toArray).size = s.length := by simp [ByteArray.size]
  have hz2 : ¬ (2000 : Int) < (s.length : Int) := by omega
  have HLO : Hid (lo ≤ w.heap.size) := hlo
  clear hT hsc hz hlo
  go_enter Tryz.func35, Tryz.ntmps35
  go_wp2_with (first
    | (go_at_call 77; refine Calls.mono cC.out ?_; rintro e w1 ⟨n1, n2, n3, n4, rfl, hb1⟩; have HB1 : Hid (Below w.heap.size w w1) := hb1; clear hb1)
    | (go_at_call 110; refine (CL.out _).mono ?_; rintro e w2 ⟨rfl, hb2⟩; have HB2 : Hid (Below w.heap.size w w2) := (HB1.out.alloc HB1.out.size _).trans (hb2.mono (by rw [World.size_alloc]; have := HB1.out.size; omega)); clear hb2)
    | fail)
  go_ret2
  have hs2 := HB2.out.size
  have hl2 := HLO.out
  have hA : Below (w2.alloc (.map #[] 0)).heap.size (w2.alloc (.map #[] 0)) ((w2.alloc (.map #[] 0)).alloc (.cells #[.string ⟨s.toArray⟩, .slice none 0 0, .map (some w2.heap.size)] 195)) := (Below.refl _ _).alloc (Nat.le_refl _) _
  have hnew := heap_alloc_new (w2.alloc (.map #[] 0)) (.cells #[.string ⟨s.toArray⟩, .slice none 0 0, .map (some w2.heap.size)] 195)
  rw [World.size_alloc] at hnew
  exact ⟨w2.heap.size + 1, w2.heap.size, rfl, ⟨by omega, by omega, ⟨_, hnew, isLog_nil _ _ _ _⟩, isLast_but (S := fun _ => False) (isLast_made w2) (sameBut_below hA _) id⟩, by simp; omega, (HB2.out.alloc HB2.out.size _).alloc (by rw [World.size_alloc]; omega) _⟩
end Go.Proofs.YtfedgjnhanlmeabGreatDoor

namespace Go.Proofs.YtfedgjnhanlmeabGreatDoor
open Go.RowKit Go.Maps
set_option linter.unusedVariables false
attribute [local go_sem] Oper.semAt_some

set_option maxRecDepth 100000 in
set_option maxHeartbeats 2000000 in
theorem refTake_new {lo n : Nat} {w : World} {b bm : Nat} {t : List UInt8} {D : List (List UInt8)} {E : List SE} {M : Told} (h : isRef lo n w b bm D E M) {l0 : Int} (hk : okS l0 t E) (hD : okD l0 t E D) (c i rev : Int) (hc : rng c) (v : Value) (ps : List Pt) (hr : opX lo w v ps) (hwf : ∀ p ∈ ps, wfP p) (hsm : ∀ p ∈ ps, p.put.length ≤ 300) (hl : ps.length ≤ 100) (hpu : putsP ps ≤ 40000) (hn : E.length ≤ 100) (hnn : n < 1000) (hi : (got M c).1 < i) :
    Calls Tryz.prog 38 #[.pointer (some ⟨b, 0, none⟩), .int .i64 c, .int .i64 i, .int .i64 rev, v] w fun e w' => e = .returned (.int .i64 (doE l0 t E rev ps)) ∧ isRef lo (n + 1) w' b bm (doD l0 t E D rev ps) (doL l0 t E c i rev ps) (upd M c (i, doE l0 t E rev ps)) ∧ sameBut w w' (touchR lo w bm) := by
  have CD : Hid (∀ wx, Below w.heap.size w wx → Calls Tryz.prog 112 #[.pointer (some ⟨b, 0, none⟩), .int .i64 c, .int .i64 i, .int .i64 rev, v] wx fun e w' => e = .returned (.int .i64 (doE l0 t E rev ps)) ∧ isRef lo n w' b bm (doD l0 t E D rev ps) (doL l0 t E c i rev ps) M ∧ sameBut wx w' (touchR lo wx bm)) := fun wx hb =>
    refDoes_any (isRef_below h hb) hk hD c i rev v ps (opX_grown hr hb) hwf hsm hl hpu hn
  have hsh : ∃ p c, v = .slice p ps.length c := by obtain ⟨⟨p, c, e, _⟩, _⟩ := hr; exact ⟨p, c, e⟩
  obtain ⟨pv, cv, rfl⟩ := hsh
  obtain ⟨hlo, hlm, ⟨v0, v1, h3, _, _⟩, h5⟩ := h
  have x2 : w.cell? ⟨b, 2, none⟩ = some (.map (some bm)) := Lib.cell_of_heap h3 2
  have l := isLast_lookOk h5 (t := 82) Tryz.underlying82 (zero_of info_two w) hc
  obtain ⟨gp, hgp⟩ : ∃ x, got M c = x := ⟨_, rfl⟩
  rw [hgp] at hi l
  obtain ⟨g1, g2⟩ := gp
  simp only at hi l
  have hi2 : ¬ i ≤ g1 := by omega
  generalize hd : doE l0 t E rev ps = d at *
  generalize doD l0 t E D rev ps = D' at *
  generalize doL l0 t E c i rev ps = E' at *
  have FIN : Hid (∀ w1, sameBut (w.alloc (.cells #[.int .i64 g1, .int .i64 g2] 85)) w1 (touchR lo (w.alloc (.cells #[.int .i64 g1, .int .i64 g2] 85)) bm) → isRef lo n w1 b bm D' E' M → w1.cell? ⟨b, 2, none⟩ = some (.map (some bm)) ∧ ∃ w5, (Instr.mapUpdate 82 (.map (some bm)) (.int .i64 c) (.agg #[.int .i64 i, .int .i64 d])).run Tryz.prog w1 = .ok () w5 ∧ isRef lo (n + 1) w5 b bm D' E' (upd M c (i, d)) ∧ sameBut w w5 (touchR lo w bm)) := fun w1 hs1 hi1 => by
    have hbw : Below w.heap.size w (w.alloc (.cells #[.int .i64 g1, .int .i64 g2] 85)) := (Below.refl _ _).alloc (Nat.le_refl _) _
    obtain ⟨e1, e2, ⟨v4, v5, e3, e30, e4⟩, e5⟩ := hi1
    obtain ⟨w5, hput, hl5, ht5⟩ := isLast_put e5 (by omega) (t := 82) Tryz.underlying82 hc i d
    have hs5 : sameBut w1 w5 (fun k => k = bm) := turned_same ht5 rfl
    refine ⟨Lib.cell_of_heap e3 2, w5, hput, ⟨e1, e2, ⟨v4, v5, (hs5.2 b (Array.getElem?_eq_some_iff.1 e3).1 fun e => noCells_map e5 _ _ _ (e ▸ e3)).trans e3, own_same e30 hs5 fun k hk hkb => ?_, isLog_but e4 hs5 fun k hk => ?_⟩, hl5⟩, ?_⟩
    · obtain rfl := hkb
      rcases e30.2 with ⟨rfl, _⟩ | ⟨g', cap, cur, rfl, _, h4', _⟩
      · cases hk
      · obtain rfl : g' = k := Option.some.inj hk
        exact noCells_map e5 _ _ _ h4'
    · obtain rfl := hk
      exact ⟨e2, fun cs fz => noCells_map e5 _ _ _, fun cs fz => noCells_map e5 _ _ _⟩
    · exact ((sameBut_below hbw (touchR lo w bm)).comp hs1 fun k hk hS => ⟨hS.1, hS.2.imp id fun ⟨cs, T, hc, ht⟩ => ⟨cs, T, (hbw.block k hk).symm.trans hc, ht⟩⟩).comp hs5 fun k _ hk => by
        obtain rfl := hk; exact ⟨e2, .inl rfl⟩
  by_cases hsm : (M c).isSome = true
  · rw [hsm] at l
    have L : Hid _ := l
    clear h3 h5 hgp hk hD hr hwf hl hpu hn hc hlo hlm l hsm
    go_enter Tryz.func38, Tryz.ntmps38
    go_wp2_with (first
      | (go_at_call 112; refine (CD.out _ ((Below.refl _ _).alloc (Nat.le_refl _) _)).mono ?_; rintro e w1 ⟨rfl, hs1, hb1⟩; obtain ⟨y2, w5, hput, f1, f2⟩ := FIN.out w1 hb1 hs1; have F1 : Hid _ := f1; have F2 : Hid _ := f2; have HPUT : Hid _ := hput; clear hs1 hb1 hput f1 f2)
      | (rw [L.out])
      | (rw [HPUT.out])
      | fail)
    go_ret
    exact ⟨rfl, F1.out, F2.out⟩
  · rw [show (M c).isSome = false by simpa using hsm] at l
    have L : Hid _ := l
    clear h3 h5 hgp hk hD hr hwf hl hpu hn hc hlo hlm l hsm
    go_enter Tryz.func38, Tryz.ntmps38
    go_wp2_with (first
      | (go_at_call 112; refine (CD.out _ ((Below.refl _ _).alloc (Nat.le_refl _) _)).mono ?_; rintro e w1 ⟨rfl, hs1, hb1⟩; obtain ⟨y2, w5, hput, f1, f2⟩ := FIN.out w1 hb1 hs1; have F1 : Hid _ := f1; have F2 : Hid _ := f2; have HPUT : Hid _ := hput; clear hs1 hb1 hput f1 f2)
      | (rw [L.out])
      | (rw [HPUT.out])
      | fail)
    go_ret
    exact ⟨rfl, F1.out, F2.out⟩
end Go.Proofs.YtfedgjnhanlmeabGreatDoor

namespace Go.Proofs.YtfedgjnhanlmeabGreatDoor
open Go.RowKit Go.Maps
set_option linter.unusedVariables false

/-- What is told, and what is kept then. -/
abbrev isOld (M : Told) (c i : Int) : Prop := i ≤ (got M c).1
def stE (l0 : Int) (t : List UInt8) (E : List SE) (M : Told) (c i rev : Int) (ps : List Pt) : Int := if isOld M c i then (if i < (got M c).1 then 8 else (got M c).2) else doE l0 t E rev ps
def stT (l0 : Int) (t : List UInt8) (E : List SE) (M : Told) (c i rev : Int) (ps : List Pt) : List UInt8 := if isOld M c i then t else doT l0 t E rev ps
def stL (l0 : Int) (t : List UInt8) (E : List SE) (M : Told) (c i rev : Int) (ps : List Pt) : List SE := if isOld M c i then E else doL l0 t E c i rev ps
def stM (l0 : Int) (t : List UInt8) (E : List SE) (M : Told) (c i rev : Int) (ps : List Pt) : Told := if isOld M c i then M else upd M c (i, doE l0 t E rev ps)
def stD (l0 : Int) (t : List UInt8) (E : List SE) (D : List (List UInt8)) (M : Told) (c i rev : Int) (ps : List Pt) : List (List UInt8) := if isOld M c i then D else doD l0 t E D rev ps
theorem isLast_more {n : Nat} {w : World} {bm : Nat} {M : Told} (h : isLast n w bm M) : isLast (n + 1) w bm M := by
  obtain ⟨D, ⟨es, clock, hb, F, hn, hD⟩, h2⟩ := h
  exact ⟨D, ⟨es, clock, hb, F, by omega, hD⟩, h2⟩
theorem isSrv_more {lo n : Nat} {w : World} {b bm : Nat} {t : List UInt8} {E : List SE} {M : Told} (h : isSrv lo n w b bm t E M) : isSrv lo (n + 1) w b bm t E M := ⟨h.1, h.2.1, h.2.2.1, isLast_more h.2.2.2⟩
theorem isRef_more {lo n : Nat} {w : World} {b bm : Nat} {D : List (List UInt8)} {E : List SE} {M : Told} (h : isRef lo n w b bm D E M) : isRef lo (n + 1) w b bm D E M := ⟨h.1, h.2.1, h.2.2.1, isLast_more h.2.2.2⟩
theorem srvTake_any {lo n : Nat} {w : World} {b bm : Nat} {t : List UInt8} {E : List SE} {M : Told} (h : isSrv lo n w b bm t E M) {l0 : Int} (hk : okS l0 t E) (c i rev : Int) (hc : rng c) (v : Value) (ps : List Pt) (hg : asLaid w) (hG : 0 < lo) (hT : Lib.Utf8Tabs 2 3 w) (hr : opAt w v ps) (hwf : ∀ p ∈ ps, wfP p) (hl : ps.length ≤ 100) (hpu : putsP ps ≤ 40000) (hn : E.length ≤ 100) (hnn : n < 1000) :
    Calls Tryz.prog 37 #[.pointer (some ⟨b, 0, none⟩), .int .i64 c, .int .i64 i, .int .i64 rev, v] w fun e w' => e = .returned (errV (stE l0 t E M c i rev ps)) ∧ isSrv lo (n + 1) w' b bm (stT l0 t E M c i rev ps) (stL l0 t E M c i rev ps) (stM l0 t E M c i rev ps) ∧ sameBut w w' (touchS lo w bm) := by
  unfold stE stT stL stM
  by_cases ho : isOld M c i
  · rw [if_pos ho, if_pos ho, if_pos ho, if_pos ho]
    refine (srvTake_old h c i rev hc v ho).mono ?_
    rintro e w' ⟨rfl, hb⟩
    exact ⟨rfl, isSrv_more (isSrv_below h hb), sameBut_below hb _⟩
  · rw [if_neg ho, if_neg ho, if_neg ho, if_neg ho]
    exact srvTake_new h hk c i rev hc v ps hg hG hT hr hwf hl hpu hn hnn (by unfold isOld at ho; omega)
theorem refTake_any {lo n : Nat} {w : World} {b bm : Nat} {t : List UInt8} {D : List (List UInt8)} {E : List SE} {M : Told} (h : isRef lo n w b bm D E M) {l0 : Int} (hk : okS l0 t E) (hD : okD l0 t E D) (c i rev : Int) (hc : rng c) (h1 : 1 ≤ i) (v : Value) (ps : List Pt) (hr : opX lo w v ps) (hwf : ∀ p ∈ ps, wfP p) (hsm : ∀ p ∈ ps, p.put.length ≤ 300) (hl : ps.length ≤ 100) (hpu : putsP ps ≤ 40000) (hn : E.length ≤ 100) (hnn : n < 1000) :
    Calls Tryz.prog 38 #[.pointer (some ⟨b, 0, none⟩), .int .i64 c, .int .i64 i, .int .i64 rev, v] w fun e w' => e = .returned (.int .i64 (stE l0 t E M c i rev ps)) ∧ isRef lo (n + 1) w' b bm (stD l0 t E D M c i rev ps) (stL l0 t E M c i rev ps) (stM l0 t E M c i rev ps) ∧ sameBut w w' (touchR lo w bm) := by
  unfold stE stD stL stM
  by_cases ho : isOld M c i
  · rw [if_pos ho, if_pos ho, if_pos ho, if_pos ho]
    refine (refTake_old h c i rev hc v h1 ho).mono ?_
    rintro e w' ⟨rfl, hb⟩
    exact ⟨rfl, isRef_more (isRef_below h hb), sameBut_below hb _⟩
  · rw [if_neg ho, if_neg ho, if_neg ho, if_neg ho]
    exact refTake_new h hk hD c i rev hc v ps hr hwf hsm hl hpu hn hnn (by unfold isOld at ho; omega)
theorem st_next {l0 : Int} {t : List UInt8} {E : List SE} {D : List (List UInt8)} (h : okS l0 t E) (hD : okD l0 t E D) {M : Told} {ps : List Pt} {c i rev : Int} (hp : putsP ps ≤ 40000) : okS l0 (stT l0 t E M c i rev ps) (stL l0 t E M c i rev ps) ∧ okD l0 (stT l0 t E M c i rev ps) (stL l0 t E M c i rev ps) (stD l0 t E D M c i rev ps) ∧ (stL l0 t E M c i rev ps).length ≤ E.length + 1 := by
  unfold stT stL stD
  by_cases ho : isOld M c i
  · rw [if_pos ho, if_pos ho, if_pos ho]
    exact ⟨h, hD, Nat.le_succ _⟩
  · rw [if_neg ho, if_neg ho, if_neg ho]
    obtain ⟨k1, k2⟩ := okD_next (c := c) (i := i) (rev := rev) h hD hp
    refine ⟨k1, k2, ?_⟩
    unfold doL
    split
    · simp
    · omega

/-- Both servers, of the same document. -/
structure Both (lo n : Nat) (w : World) (bx bmx by_ bmy : Nat) (l0 : Int) (t : List UInt8) (E : List SE) (D : List (List UInt8)) (M : Told) : Prop where
  srv : isSrv lo n w bx bmx t E M
  ref : isRef lo n w by_ bmy D E M
  apart : bmx ≠ bmy
  ok : okS l0 t E
  docs : okD l0 t E D
  few : E.length ≤ n
theorem Both.below {lo n : Nat} {w w' : World} {bx bmx by_ bmy : Nat} {l0 : Int} {t : List UInt8} {E : List SE} {D : List (List UInt8)} {M : Told} (h : Both lo n w bx bmx by_ bmy l0 t E D M) (hb : Below w.heap.size w w') : Both lo n w' bx bmx by_ bmy l0 t E D M :=
  ⟨isSrv_below h.srv hb, isRef_below h.ref hb, h.apart, h.ok, h.docs, h.few⟩
end Go.Proofs.YtfedgjnhanlmeabGreatDoor

namespace Go.Proofs.YtfedgjnhanlmeabGreatDoor
open Go.RowKit Go.Maps
set_option linter.unusedVariables false
attribute [local go_sem] Oper.semAt_some
attribute [local go_sem] srvMakeMap

theorem isRef_other {lo n : Nat} {w w' : World} {b bm : Nat} {D : List (List UInt8)} {E : List SE} {M : Told} {S : Nat → Prop} (h : isRef lo n w b bm D E M) (hs : sameBut w w' S) (hS : ∀ k, k < w.heap.size → S k → lo ≤ k ∧ ∃ cs T fz, w.heap[k]? = some (.cells cs T fz) ∧ T ≠ 50 ∧ T ≠ 84 ∧ T ≠ 103 ∧ T ≠ 9) : isRef lo n w' b bm D E M := by
  obtain ⟨h1, h2, ⟨v0, v1, h3, h30, h4⟩, h5⟩ := h
  have hs' : sameBut w w' (fun k => k < w.heap.size ∧ S k) := ⟨hs.1, fun k hk hn => hs.2 k hk fun e => hn ⟨hk, e⟩, hs.os, hs.tape, hs.output⟩
  refine ⟨h1, h2, ⟨v0, v1, (hs'.2 b (Array.getElem?_eq_some_iff.1 h3).1 fun hk => ?_).trans h3, own_same h30 hs' fun k hk hkS => ?_, isLog_but h4 hs' fun k hk => ?_⟩, isLast_but h5 hs' fun hk => ?_⟩
  · obtain ⟨_, cs, T, fz, hc, _, t2, _⟩ := hS b hk.1 hk.2
    exact t2 (not_type h3 hc).symm
  · obtain ⟨_, cs, T, fz, hc, _, _, _, t4⟩ := hS k hkS.1 hkS.2
    rcases h30.2 with ⟨rfl, _⟩ | ⟨g', cap, cur, rfl, _, e2, _⟩
    · cases hk
    · obtain rfl : g' = k := Option.some.inj hk
      exact t4 (not_type e2 hc).symm
  · obtain ⟨a, cs, T, fz, hc, t1, _, t3, _⟩ := hS k hk.1 hk.2
    exact ⟨a, noPart_of hc t1, fun cs' fz' hc' => t3 (not_type hc hc')⟩
  · obtain ⟨_, cs, T, fz, hc, _⟩ := hS bm hk.1 hk.2
    exact noCells_map h5 _ _ _ hc
set_option maxRecDepth 100000 in
set_option maxHeartbeats 1000000 in
theorem refNew_full (s : List UInt8) (hs : s.length ≤ 1000000) (hz : 2000 < s.length) (hsc : (scan s).2 = true) (w : World) : Calls Tryz.prog 36 #[.string ⟨s.toArray⟩] w fun e w' => e = .returned (.tuple #[.pointer none, .agg #[.int .i64 12, .int .i64 (-1)]]) ∧ Below w.heap.size w w' := by
  have hz1 : (ByteArray.mk s.toArray).size = s.length := by simp [ByteArray.size]
  have cC : Hid (∀ wx, Calls Tryz.prog 11 #[.string ⟨s.toArray⟩] wx fun e w' => ∃ n1 n2 n3 n4, e = .returned (.tuple #[.agg #[.int .i64 n1, .int .i64 n2, .int .i64 n3, .int .i64 n4], .agg #[.int .i64 0, .int .i64 (-1)]]) ∧ Below wx.heap.size wx w') := fun wx => (refCount_good ⟨s.toArray⟩ (by rw [hz1]; omega) wx hsc).mono fun e w' ⟨h1, h2⟩ => ⟨_, _, _, _, h2, h1⟩
  have hz2 : (2000 : Int) < (s.length : Int) := by omega
  obtain ⟨β, hβ⟩ : ∃ β, w.heap.size = β := ⟨_, rfl⟩
  have HBT : Hid (w.heap.size = β) := hβ
  clear hsc hz
  go_enter Tryz.func36, Tryz.ntmps36
  go_wp2_with (first
    | (go_at_call 11; refine (cC.out _).mono ?_; rintro e w1 ⟨n1, n2, n3, n4, rfl, hb1⟩
       have hbox : w1.heap[β]? = some (.cells #[.int .i64 0, .int .i64 0] 28 (0, 0)) := (hb1.block β (by rw [World.size_alloc, HBT.out]; omega)).trans (by have := heap_alloc_new w (.cells #[.int .i64 0, .int .i64 0] 28); rwa [HBT.out] at this)
       have HBOX : Hid _ := hbox
       have HB1 : Hid (Below w.heap.size w w1) := ((Below.refl _ _).alloc (Nat.le_refl _) _).trans (hb1.mono (by rw [World.size_alloc]; omega)); clear hb1 hbox)
    | (go_at_call 87; refine (Bare_any _ _).mono ?_; rintro e w2 ⟨rfl, hb2⟩
       have hbx : w2.heap[β]? = some (.cells #[.int .i64 0, .int .i64 0] 28 (0, 0)) := by
         first
           | exact (hb2.block β (Array.getElem?_eq_some_iff.1 (alloc_block (alloc_block HBOX.out))).1).trans (alloc_block (alloc_block HBOX.out))
           | exact (hb2.block β (Array.getElem?_eq_some_iff.1 (alloc_block (alloc_block (alloc_block (alloc_block (alloc_block HBOX.out)))))).1).trans (alloc_block (alloc_block (alloc_block (alloc_block (alloc_block HBOX.out)))))
       have c0 : w2.cell? ⟨β, 0, none⟩ = some (.int .i64 0) := Lib.cell_of_heap hbx 0
       have c1 : w2.cell? ⟨β, 1, none⟩ = some (.int .i64 0) := Lib.cell_of_heap hbx 1
       have f0 : w2.frozen? ⟨β, 0, none⟩ = false := frozen_block hbx
       have f1 : w2.frozen? ⟨β, 1, none⟩ = false := frozen_block hbx
       have HB2 : Hid _ := hb2; have HBX : Hid _ := hbx; clear hb2 hbx)
    | fail)
  have hs1 := HB1.out.size
  have hle : w.heap.size ≤ β := by have := HBT.out; omega
  refine bodyPost_ret (v := .tuple #[.pointer none, .agg #[.int .i64 12, .int .i64 (-1)]]) (by simp [results, Tryz.results36, go_sem, c0, c1]) rfl ?_
  exact ⟨rfl, ((((HB1.out.alloc hs1 _).alloc (by rw [World.size_alloc]; omega) _).trans (HB2.out.mono (by simp; omega))).setCell (p := ⟨β, 0, none⟩) hle _).setCell (p := ⟨β, 1, none⟩) hle _⟩
set_option maxRecDepth 100000 in
set_option maxHeartbeats 1000000 in
theorem refNew_good (lo : Nat) (s : List UInt8) (hz : s.length ≤ 2000) (hsc : (scan s).2 = true) (w : World) (hlo : lo ≤ w.heap.size) : Calls Tryz.prog 36 #[.string ⟨s.toArray⟩] w fun e w' => ∃ b bm, e = .returned (.tuple #[.pointer (some ⟨b, 0, none⟩), .agg #[.int .i64 0, .int .i64 (-1)]]) ∧ isRef lo 0 w' b bm [s] [] (fun _ => none) ∧ w.heap.size ≤ bm ∧ Below w.heap.size w w' := by
  have hz1 : (ByteArray.mk s.toArray).size = s.length := by simp [ByteArray.size]
  have cC : Hid (∀ wx, Calls Tryz.prog 11 #[.string ⟨s.toArray⟩] wx fun e w' => ∃ n1 n2 n3 n4, e = .returned (.tuple #[.agg #[.int .i64 n1, .int .i64 n2, .int .i64 n3, .int .i64 n4], .agg #[.int .i64 0, .int .i64 (-1)]]) ∧ Below wx.heap.size wx w') := fun wx => (refCount_good ⟨s.toArray⟩ (by rw [hz1]; omega) wx hsc).mono fun e w' ⟨h1, h2⟩ => ⟨_, _, _, _, h2, h1⟩
  have hz2 : ¬ (2000 : Int) < (s.length : Int) := by omega
  obtain ⟨β, hβ⟩ : ∃ β, w.heap.size = β := ⟨_, rfl⟩
  have HBT : Hid (w.heap.size = β) := hβ
  clear hsc hz
  go_enter Tryz.func36, Tryz.ntmps36
  go_wp2_with (first
    | (go_at_call 11; refine (cC.out _).mono ?_; rintro e w1 ⟨n1, n2, n3, n4, rfl, hb1⟩
       have hbox : w1.heap[β]? = some (.cells #[.int .i64 0, .int .i64 0] 28 (0, 0)) := (hb1.block β (by rw [World.size_alloc, HBT.out]; omega)).trans (by have := heap_alloc_new w (.cells #[.int .i64 0, .int .i64 0] 28); rwa [HBT.out] at this)
       have HBOX : Hid _ := hbox
       have HB1 : Hid (Below w.heap.size w w1) := ((Below.refl _ _).alloc (Nat.le_refl _) _).trans (hb1.mono (by rw [World.size_alloc]; omega)); clear hb1 hbox)
    | (go_at_call 87; refine (Bare_any _ _).mono ?_; rintro e w2 ⟨rfl, hb2⟩
       have hbx : w2.heap[β]? = some (.cells #[.int .i64 0, .int .i64 0] 28 (0, 0)) := by
         first
           | exact (hb2.block β (Array.getElem?_eq_some_iff.1 (alloc_block (alloc_block HBOX.out))).1).trans (alloc_block (alloc_block HBOX.out))
           | exact (hb2.block β (Array.getElem?_eq_some_iff.1 (alloc_block (alloc_block (alloc_block (alloc_block (alloc_block HBOX.out)))))).1).trans (alloc_block (alloc_block (alloc_block (alloc_block (alloc_block HBOX.out)))))
       have c0 : w2.cell? ⟨β, 0, none⟩ = some (.int .i64 0) := Lib.cell_of_heap hbx 0
       have c1 : w2.cell? ⟨β, 1, none⟩ = some (.int .i64 0) := Lib.cell_of_heap hbx 1
       have f0 : w2.frozen? ⟨β, 0, none⟩ = false := frozen_block hbx
       have f1 : w2.frozen? ⟨β, 1, none⟩ = false := frozen_block hbx
       have HB2 : Hid _ := hb2; have HBX : Hid _ := hbx; clear hb2 hbx)
    | fail)
  have hs1 := HB1.out.size
  have hle : w.heap.size ≤ β := by have := HBT.out; omega
  have hb2 := HB2.out
  have hrow := heap_alloc_new ((w1.alloc (.cells #[.int .i64 n1, .int .i64 n2, .int .i64 n3, .int .i64 n4] 25)).alloc (.cells #[.int .i64 0, .int .i64 (-1)] 28)) (.cells #[.string ⟨s.toArray⟩] 9)
  have hmap := isLast_made (((w1.alloc (.cells #[.int .i64 n1, .int .i64 n2, .int .i64 n3, .int .i64 n4] 25)).alloc (.cells #[.int .i64 0, .int .i64 (-1)] 28)).alloc (.cells #[.string ⟨s.toArray⟩] 9))
  have hst := heap_alloc_new ((((w1.alloc (.cells #[.int .i64 n1, .int .i64 n2, .int .i64 n3, .int .i64 n4] 25)).alloc (.cells #[.int .i64 0, .int .i64 (-1)] 28)).alloc (.cells #[.string ⟨s.toArray⟩] 9)).alloc (.map #[] 0)) (.cells #[.slice (some ⟨w1.heap.size + 1 + 1, 0, none⟩) 1 1, .slice none 0 0, .map (some (w1.heap.size + 1 + 1 + 1))] 84)
  simp only [World.size_alloc] at hrow hmap hst
  have hW := isRef_below (lo := lo) (n := 0) (b := w1.heap.size + 1 + 1 + 1 + 1) (bm := w1.heap.size + 1 + 1 + 1) (D := [s]) (E := []) (M := fun _ => none) ⟨by omega, by omega, ⟨_, _, hst, ⟨rfl, .inr ⟨w1.heap.size + 1 + 1, 1, _, rfl, by omega, alloc_block (alloc_block hrow), Nat.le_refl _, by unfold maxLen; omega, rfl, rfl⟩⟩, isLog_nil _ _ _ _⟩, isLast_but (S := fun _ => False) hmap (sameBut_below ((Below.refl _ _).alloc (Nat.le_refl _) _) _) id⟩ hb2
  have hS : sameBut w2 ((w2.setCell ⟨β, 0, none⟩ (.int .i64 0)).setCell ⟨β, 1, none⟩ (.int .i64 (-1))) (fun k => k = β) := (sameBut_set (S := fun k => k = β) rfl).trans (sameBut_set (S := fun k => k = β) rfl)
  have hloβ : lo ≤ β := by omega
  refine bodyPost_ret (v := .tuple #[.pointer (some ⟨w1.heap.size + 1 + 1 + 1 + 1, 0, none⟩), .agg #[.int .i64 0, .int .i64 (-1)]]) (by simp [results, Tryz.results36, go_sem, c0, c1]) rfl ?_
  refine ⟨_, _, rfl, isRef_other hW hS fun k _ hk => ?_, by omega, ((((((((HB1.out.alloc hs1 _).alloc (by rw [World.size_alloc]; omega) _).alloc (by simp only [World.size_alloc]; omega) _).alloc (by simp only [World.size_alloc]; omega) _).alloc (by simp only [World.size_alloc]; omega) _).trans (HB2.out.mono (by simp only [World.size_alloc]; omega))).setCell (p := ⟨β, 0, none⟩) hle _).setCell (p := ⟨β, 1, none⟩) hle _)⟩
  obtain rfl := hk
  exact ⟨hloβ, _, _, _, HBX.out, by decide, by decide, by decide, by decide⟩
set_option maxRecDepth 100000 in
set_option maxHeartbeats 1000000 in
theorem refNew_bad (s : List UInt8) (hs : s.length ≤ 1000000) (hsc : (scan s).2 = false) (w : World) : Calls Tryz.prog 36 #[.string ⟨s.toArray⟩] w fun e w' => e = .returned (.tuple #[.pointer none, .agg #[.int .i64 3, .int .i64 (place s)]]) ∧ Below w.heap.size w w' := by
  have hz1 : (ByteArray.mk s.toArray).size = s.length := by simp [ByteArray.size]
  have cC : Hid (∀ wx, Calls Tryz.prog 11 #[.string ⟨s.toArray⟩] wx fun e w' => e = .returned (.tuple #[.agg #[.int .i64 0, .int .i64 0, .int .i64 0, .int .i64 0], .agg #[.int .i64 3, .int .i64 (place s)]]) ∧ Below wx.heap.size wx w') := fun wx => (refCount_bad ⟨s.toArray⟩ (by rw [hz1]; omega) wx hsc).mono fun e w' ⟨h1, h2⟩ => ⟨h2, h1⟩
  generalize ((place s : Nat) : Int) = PL at *
  obtain ⟨β, hβ⟩ : ∃ β, w.heap.size = β := ⟨_, rfl⟩
  have HBT : Hid (w.heap.size = β) := hβ
  clear hsc
  go_enter Tryz.func36, Tryz.ntmps36
  go_wp2_with (first
    | (go_at_call 11; refine (cC.out _).mono ?_; rintro e w1 ⟨rfl, hb1⟩
       have hbox : w1.heap[β]? = some (.cells #[.int .i64 0, .int .i64 0] 28 (0, 0)) := (hb1.block β (by rw [World.size_alloc, HBT.out]; omega)).trans (by have := heap_alloc_new w (.cells #[.int .i64 0, .int .i64 0] 28); rwa [HBT.out] at this)
       have HBOX : Hid _ := hbox
       have HB1 : Hid (Below w.heap.size w w1) := ((Below.refl _ _).alloc (Nat.le_refl _) _).trans (hb1.mono (by rw [World.size_alloc]; omega)); clear hb1 hbox)
    | fail)
  have hbx := alloc_block (o' := .cells #[.int .i64 3, .int .i64 PL] 28) (alloc_block (o' := .cells #[.int .i64 0, .int .i64 0, .int .i64 0, .int .i64 0] 25) HBOX.out)
  have hs1 := HB1.out.size
  have hfl := heap_alloc_new (w1.alloc (.cells #[.int .i64 0, .int .i64 0, .int .i64 0, .int .i64 0] 25)) (.cells #[.int .i64 3, .int .i64 PL] 28)
  rw [World.size_alloc] at hfl
  have hlt := (Array.getElem?_eq_some_iff.1 HBOX.out).1
  have hBW : Below w.heap.size w ((w1.alloc (.cells #[.int .i64 0, .int .i64 0, .int .i64 0, .int .i64 0] 25)).alloc (.cells #[.int .i64 3, .int .i64 PL] 28)) := (HB1.out.alloc hs1 _).alloc (by rw [World.size_alloc]; omega) _
  generalize (w1.alloc (.cells #[.int .i64 0, .int .i64 0, .int .i64 0, .int .i64 0] 25)).alloc (.cells #[.int .i64 3, .int .i64 PL] 28) = W at *
  have c0 : W.cell? ⟨β, 0, none⟩ = some (.int .i64 0) := Lib.cell_of_heap hbx 0
  have c1 : W.cell? ⟨β, 1, none⟩ = some (.int .i64 0) := Lib.cell_of_heap hbx 1
  have f0 : W.frozen? ⟨β, 0, none⟩ = false := frozen_block hbx
  have f1 : W.frozen? ⟨β, 1, none⟩ = false := frozen_block hbx
  have e0 : W.cell? ⟨w1.heap.size + 1, 0, none⟩ = some (.int .i64 3) := Lib.cell_of_heap hfl 0
  have e1 : W.cell? ⟨w1.heap.size + 1, 1, none⟩ = some (.int .i64 PL) := Lib.cell_of_heap hfl 1
  have hne : β ≠ w1.heap.size + 1 := by omega
  have hne2 : ¬ (w1.heap.size + 1 = β) := by omega
  have HBW : Hid _ := hBW
  have hle : w.heap.size ≤ β := by have := HBT.out; omega
  clear hbx hfl hBW
  generalize w1.heap.size + 1 = γ at *
  go_region
  all_goals
    go_wp2
    refine bodyPost_ret (v := .tuple #[.pointer none, .agg #[.int .i64 3, .int .i64 PL]]) (by simp [results, Tryz.results36, go_sem, c0, c1]) rfl ?_
    exact ⟨rfl, by first | exact ((HBW.out.setCell (p := ⟨β, 0, none⟩) hle _).setCell (p := ⟨β, 1, none⟩) hle _).drew | exact (HBW.out.drew.setCell (p := ⟨β, 0, none⟩) hle _).setCell (p := ⟨β, 1, none⟩) hle _⟩
end Go.Proofs.YtfedgjnhanlmeabGreatDoor
