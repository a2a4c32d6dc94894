/-
  rosettalaw.RopePlays: the law's own walk.
-/
import Derived.Test.YtldhbjmillfjgaaGreatDoorPartG
import Derived.Test.YtldhbjmillfjgaaGreatDoorPartF
namespace Go.Proofs.YtldhbjmillfjgaaGreatDoor
open Go.RowKit
set_option linter.unusedVariables false
attribute [local go_sem] Oper.semAt_some

theorem wp_seq_key {P : Program} {Q : Exit → Act → World → Prop} {a : Act} {w : World} {x y : Code} (Fp : Act → World → Prop)
    (h1 : ∀ Q' : Exit → Act → World → Prop, (∀ a' w', Fp a' w' → Q' .normal a' w') → x.wp P Q' a w) (h2 : ∀ a' w', Fp a' w' → y.wp P Q a' w') : (Code.seq x y).wp P Q a w :=
  wp_seq (h1 _ fun a' w' h => h2 a' w' h)
theorem wp_seq_key2 {P : Program} {Q : Exit → Act → World → Prop} {a : Act} {w : World} {x y : Code} (Fp Rp : Act → World → Prop)
    (h1 : ∀ Q' : Exit → Act → World → Prop, (∀ a' w', Fp a' w' → Q' .normal a' w') → (∀ a' w', Rp a' w' → Q' .ret a' w') → x.wp P Q' a w) (h2 : ∀ a' w', Fp a' w' → y.wp P Q a' w') (h3 : ∀ a' w', Rp a' w' → Q .ret a' w') : (Code.seq x y).wp P Q a w :=
  wp_seq (h1 _ (fun a' w' h => h2 a' w' h) (fun a' w' h => h3 a' w' h))
theorem wp_norm {P : Program} {Q : Exit → Act → World → Prop} {a : Act} {w : World} {x : Code}
    (h : x.wp P (fun e a w => match e with | .normal => Q .normal a w | _ => False) a w) : x.wp P Q a w :=
  Code.wp_mono (fun e a w h => by cases e <;> first | exact h | exact h.elim) h
theorem rope_ltq {w : World} {b : Nat} {rs : List Nat} (h : isRope w b rs) : b < w.heap.size := by obtain ⟨q, t, h1, _⟩ := h; exact World.block_lt_of_cell? w _ h1
theorem spotW_butq {A B : World} {a b : Nat} {x y : Int} (h : spotW A a x y) (hb : But b A B) (hne : a ≠ b) : spotW B a x y := by
  have hlt := World.block_lt_of_cell? A _ h.1.1
  have e := hb.block a hlt hne
  obtain ⟨⟨h0, h1⟩, h2, h3⟩ := h
  exact ⟨⟨(cellOn e 0).trans h0, (cellOn e 1).trans h1⟩, (frozenOn e 0).trans h2, (frozenOn e 1).trans h3⟩
/-- Three cells of a cut. -/
def cutW (W : World) (a : Nat) (x y : Int) (v : Value) : Prop := W.cell? ⟨a, 0, none⟩ = some (.int .i64 x) ∧ W.cell? ⟨a, 1, none⟩ = some (.int .i64 y) ∧ W.cell? ⟨a, 2, none⟩ = some v
theorem cutW_new (w : World) (x y : Int) (v : Value) (T : TypeId) : cutW (w.alloc (.cells #[.int .i64 x, .int .i64 y, v] T)) w.heap.size x y v := by
  refine ⟨?_, ?_, ?_⟩ <;> simp [go_sem]
theorem cutW_below {W W' : World} {a : Nat} {x y : Int} {v : Value} (h : cutW W a x y v) (hb : Below W.heap.size W W') : cutW W' a x y v := ⟨cell_on hb h.1, cell_on hb h.2.1, cell_on hb h.2.2⟩
/-- What the document tells of a text of these runes. -/
theorem doc_pack (rs : List Nat) (hr : ∀ r ∈ rs, isRune r) (hz : C1 rs ≤ 8000) (u at_ line : Int) :
    (∀ wx, Calls Tryz.prog 6 #[.string (bytesOf rs)] wx fun e w' => e = .returned (.tuple #[.agg #[.int .i64 (C1 rs), .int .i64 (C2 rs), .int .i64 (C3 rs), .int .i64 (C4 rs)], .agg #[.int .i64 0, .int .i64 (-1)]]) ∧ Below wx.heap.size wx w') ∧
    (∀ wx, Calls Tryz.prog 15 #[.string (bytesOf rs), .int .i64 u, .int .i64 at_] wx fun e w' => e = .returned (.tuple #[cntV (axN u at_ rs), .int .i64 (axE u at_ rs)]) ∧ Below wx.heap.size wx w') ∧
    (∀ wx, Calls Tryz.prog 17 #[.string (bytesOf rs), .int .i64 line] wx fun e w' => e = .returned (.tuple #[cntV (lnN line rs), .int .i64 (lnE line rs)]) ∧ Below wx.heap.size wx w') := by
  have hs : (bytesOf rs).size < 1000000 := by rw [bytesOf_size]; rw [C1_len] at hz; omega
  exact ⟨fun wx => refCount_of _ rs hr rfl (by omega) wx, fun wx => refAhead_all _ rs u at_ hr rfl hs wx, fun wx => refLine_all _ rs line hr rfl hs wx⟩
/-- What the program tells of it. -/
theorem prog_pack (b : Nat) (rs : List Nat) (hz : C1 rs ≤ 8000) (u at_ line : Int) (wx : World) (hT : Lib.Utf8Tabs 2 3 wx) (h : isRope wx b rs) :
    (∀ w1, Below wx.heap.size wx w1 → Calls Tryz.prog 10 #[.pointer (some ⟨b, 0, none⟩)] w1 fun e w' => e = .returned (.string (bytesOf rs)) ∧ Below w1.heap.size w1 w') ∧
    (∀ w1, Below wx.heap.size wx w1 → Calls Tryz.prog 11 #[.pointer (some ⟨b, 0, none⟩)] w1 fun e w' => e = .returned (.agg #[.int .i64 (C1 rs), .int .i64 (C2 rs), .int .i64 (C3 rs), .int .i64 (C4 rs)]) ∧ Below w1.heap.size w1 w') ∧
    (∀ w1, Below wx.heap.size wx w1 → Calls Tryz.prog 16 #[.pointer (some ⟨b, 0, none⟩), .int .i64 u, .int .i64 at_] w1 fun e w' => e = .returned (.tuple #[cntV (axN u at_ rs), errV (axE u at_ rs)]) ∧ Below w1.heap.size w1 w') ∧
    (∀ w1, Below wx.heap.size wx w1 → Calls Tryz.prog 18 #[.pointer (some ⟨b, 0, none⟩), .int .i64 line] w1 fun e w' => e = .returned (.tuple #[cntV (lnN line rs), errV (lnE line rs)]) ∧ Below w1.heap.size w1 w') :=
  ⟨fun w1 hb => ropetext_any b rs w1 (isRope_below h hb) (by omega), fun w1 hb => ropecounts_any b rs w1 (isRope_below h hb), fun w1 hb => aheadAx_all b rs u at_ w1 (Go.Proofs.Utf8Tabs_below hT hb) (isRope_below h hb) (by omega), fun w1 hb => lineLn_all b rs line w1 (Go.Proofs.Utf8Tabs_below hT hb) (isRope_below h hb) (by omega)⟩
set_option maxRecDepth 100000 in
set_option maxHeartbeats 2000000 in
theorem new_badAt (s : ByteArray) (hs : s.size < 400000000) (hok : (scan s.data.toList).2 = false) (w : World) (hT : Lib.Utf8Tabs 2 3 w) :
    Calls Tryz.prog 5 #[.string s] w fun e w' => ∃ a, e = .returned (.tuple #[.pointer none, .iface 118 (.pointer (some ⟨a, 0, none⟩))]) ∧ isAt w w' (.iface 118 (.pointer (some ⟨a, 0, none⟩))) (place s.data.toList) ∧ Below w.heap.size w w' := by
  have cC := (Count_any s hs w hT).mono (R' := fun e w' => ∃ a, e = .returned (.tuple #[cnt 0 0 0 0, .iface 118 (.pointer (some ⟨a, 0, none⟩))]) ∧ Below w.heap.size w w' ∧ isAt w w' (.iface 118 (.pointer (some ⟨a, 0, none⟩))) (place s.data.toList)) (by
    rintro e w' ⟨v, x, rfl, hb, h | h⟩
    · rw [hok] at h; cases h.1
    · obtain ⟨_, rfl, hx⟩ := h
      obtain ⟨a, rfl, hx2⟩ := hx
      exact ⟨a, rfl, hb, a, rfl, hx2⟩)
  generalize place s.data.toList = PL at *
  unfold cnt at cC
  clear hs hok hT
  go_enter Tryz.func5, Tryz.ntmps5
  go_wp2_with (first
    | (go_at_call 26; refine cC.mono ?_; rintro e w1 ⟨a, rfl, hb1, hx1⟩; have HX1 : Hid _ := hx1; clear hx1)
    | fail)
  go_ret2
  obtain ⟨a', e1, h1, h2, h3, h4⟩ := HX1.out
  refine ⟨_, rfl, ⟨a', e1, h1, ?_, (World.cell?_of_block (Below.heap_alloc _ _ _ h2)).trans h3, (World.cell?_of_block (Below.heap_alloc _ _ _ h2)).trans h4⟩, hb1.alloc hb1.size _⟩
  rw [World.size_alloc]; omega

set_option maxRecDepth 100000 in
set_option maxHeartbeats 8000000 in
theorem plays_any (s : List UInt8) (val : Value) (cs : List Pt) (u at_ line : Int) (w : World) (hg : asLaid w) (hT : Lib.Utf8Tabs 2 3 w) (hr : opAt w val cs) :
    Calls Tryz.prog 3 #[.string ⟨s.toArray⟩, val, .int .i64 u, .int .i64 at_, .int .i64 line] w fun e w' => e = .returned (.bool true) ∧ Below w.heap.size w w' := by
  have hz : (ByteArray.mk s.toArray).size = s.length := by simp [ByteArray.size]
  have HB0 : Hid (Below w.heap.size w w) := Below.refl _ w
  have HG : Hid (asLaid w) := hg
  have HT : Hid (Lib.Utf8Tabs 2 3 w) := hT
  obtain ⟨p, c, rfl, r1, r2, r3⟩ := hr
  unfold maxLen at r2
  obtain ⟨m, hm⟩ : ∃ m, cs.length = m := ⟨_, rfl⟩
  rw [hm] at r1
  rw [hm]
  by_cases hs : 3000 < s.length
  · have h2 : (3000 : Int) < (s.length : Int) := by omega
    clear hT hg r3
    go_enter Tryz.func3, Tryz.ntmps3
    go_wp2
    go_ret
    exact ⟨rfl, HB0.out⟩
  have hs2 : ¬ (3000 : Int) < (s.length : Int) := by omega
  by_cases hl : 40 < m
  · have h2 : (40 : Int) < (m : Int) := by omega
    clear hT hg r3
    go_enter Tryz.func3, Tryz.ntmps3
    go_wp2
    go_ret
    exact ⟨rfl, HB0.out⟩
  have hl2 : ¬ (40 : Int) < (m : Int) := by omega
  by_cases hok : (scan s).2 = true
  case neg =>
    have hok2 : (scan (ByteArray.mk s.toArray).data.toList).2 = false := Bool.eq_false_iff.2 hok
    have cN := new_badAt ⟨s.toArray⟩ (by rw [hz]; omega) hok2 w hT
    have cC : Hid (∀ wx, Calls Tryz.prog 6 #[.string ⟨s.toArray⟩] wx fun e w' => e = .returned (.tuple #[.agg #[.int .i64 0, .int .i64 0, .int .i64 0, .int .i64 0], .agg #[.int .i64 3, .int .i64 (place (ByteArray.mk s.toArray).data.toList)]]) ∧ Below wx.heap.size wx w') := fun wx => (refCount_bad ⟨s.toArray⟩ (by rw [hz]; omega) wx hok2).mono fun e w' h => ⟨h.2, h.1⟩
    have cI : Hid (∀ a w1 wx, isAt w w1 (.iface 118 (.pointer (some ⟨a, 0, none⟩))) (place (ByteArray.mk s.toArray).data.toList) → Below w.heap.size w wx → Below w1.heap.size w1 wx → Calls Tryz.prog 7 #[.iface 118 (.pointer (some ⟨a, 0, none⟩)), .agg #[.int .i64 3, .int .i64 (place (ByteArray.mk s.toArray).data.toList)]] wx fun e w' => e = .returned (.bool true) ∧ Below wx.heap.size wx w') := fun a w1 wx hx hb hb1 => is_at (asLaid_below hg hb) hx hb1
    generalize ((place (ByteArray.mk s.toArray).data.toList : Nat) : Int) = PL at *
    clear hT hg r3 hok hok2
    go_enter Tryz.func3, Tryz.ntmps3
    go_wp2_with (first
      | (go_at_call 5; refine cN.mono ?_; rintro e w1 ⟨a, rfl, hx1, hb1⟩; have HX1 : Hid _ := hx1; have HB1 : Hid (Below w.heap.size w w1) := hb1; clear hx1 hb1)
      | (go_at_call 6; refine (cC.out _).mono ?_; rintro e w2 ⟨rfl, hb2⟩; have hby : Below w1.heap.size w1 ((w2.alloc (.cells #[.int .i64 0, .int .i64 0, .int .i64 0, .int .i64 0] 29)).alloc (.cells #[.int .i64 3, .int .i64 PL] 32)) := (hb2.alloc hb2.size _).alloc (Nat.le_trans hb2.size (by simp)) _; have HB2 : Hid _ := HB1.out.trans (hby.mono HB1.out.size); have HY2 : Hid _ := hby; clear hb2 hby)
      | (go_at_call 7; refine (cI.out _ _ _ HX1.out HB2.out HY2.out).mono ?_; rintro e w3 ⟨rfl, hb3⟩; have HB3 : Hid (Below w.heap.size w w3) := HB2.out.trans (hb3.mono HB2.out.size); clear hb3)
      | fail)
    go_ret
    exact ⟨rfl, HB3.out⟩
  case pos =>
    obtain ⟨rs, hrs⟩ : ∃ rs, runesOf s = rs := ⟨_, rfl⟩
    have he : encs rs = s := by rw [← hrs]; exact encs_runesOf hok
    have hrun : ∀ r ∈ rs, isRune r := fun r h => runesOf_rune (by rw [hrs]; exact h)
    have hC1 : C1 rs ≤ 8000 := by rw [C1_len, he]; omega
    have heb : (⟨s.toArray⟩ : ByteArray) = bytesOf rs := by unfold bytesOf; rw [he]
    have cN : Hid _ := new_good rs hrun hC1 w hT
    have cC : Hid _ := (doc_pack rs hrun hC1 u at_ line).1
    have HRU : Hid (∀ r ∈ rs, isRune r) := hrun
    have HC1 : Hid (C1 rs ≤ 8000) := hC1
    have HDOC : Hid (∀ rs, (∀ r ∈ rs, isRune r) → C1 rs ≤ 8000 → _) := fun rs hr hz => doc_pack rs hr hz u at_ line
    have HPRG : Hid (∀ b rs wx, C1 rs ≤ 8000 → Below w.heap.size w wx → isRope wx b rs → _) := fun b rs wx hz hb h => prog_pack b rs hz u at_ line wx (Go.Proofs.Utf8Tabs_below hT hb) h
    have HCB : Hid (∀ k wx, Below w.heap.size w wx → Calls Tryz.prog 19 #[errV k, .int .i64 k] wx fun e w' => e = .returned (.bool true) ∧ Below wx.heap.size wx w') := fun k wx hb => bare_any k wx (asLaid_below hg hb)
    have R3 : Hid (cs ≠ [] → ∃ b o, p = some ⟨b, o, none⟩ ∧ b < w.heap.size ∧ ∀ i q, cs[i]? = some q →
      w.cell? ⟨b, o + i * 3, none⟩ = some (.int .i64 q.keep) ∧ w.cell? ⟨b, o + i * 3 + 1, none⟩ = some (.int .i64 q.drop) ∧ w.cell? ⟨b, o + i * 3 + 2, none⟩ = some (.string ⟨q.put.toArray⟩)) := r3
    have HM : Hid (cs.length = m) := hm
    rw [heb]
    have hsz : ((bytesOf rs).size : Int) = (s.length : Int) := by rw [← heb, hz]
    have hs3 : ¬ (3000 : Int) < ((bytesOf rs).size : Int) := by omega
    clear hT hg r3 hok hrs he hrun hC1 hm hsz heb hs hl hz hs2
    go_enter Tryz.func3, Tryz.ntmps3
    go_wp2_with (first
      | (go_at_call 5; refine Calls.mono cN.out ?_; rintro e w1 ⟨b, rfl, hbl, hR, hb1⟩; have HL1 : Hid (w.heap.size ≤ b) := hbl; have HR1 : Hid (isRope w1 b rs) := hR; have HB1 : Hid (Below w.heap.size w w1) := hb1; clear hbl hR hb1)
      | (go_at_call 6; refine (cC.out _).mono ?_; rintro e w2 ⟨rfl, hb2⟩; have hby : Below w1.heap.size w1 ((w2.alloc (.cells #[.int .i64 (C1 rs), .int .i64 (C2 rs), .int .i64 (C3 rs), .int .i64 (C4 rs)] 29)).alloc (.cells #[.int .i64 0, .int .i64 (-1)] 32)) := (hb2.alloc hb2.size _).alloc (Nat.le_trans hb2.size (by simp)) _; have HB2 : Hid _ := HB1.out.trans (hby.mono HB1.out.size); have HR2 : Hid _ := isRope_below HR1.out hby; clear hb2 hby)
      | fail)
    refine (fun h => h _ _ _ _ _ _ _ _ _ _ _ _ _ _ _ _ _ _ _ _ _ _ _ _ _ _ _ _ _ _ _ _ _ _ _ _ _ _ : (∀ x10 x12 x13 x14 x29 x30 x31 x32 x33 x34 x35 x36 x37 x38 x39 x40 x41 x42 x43 x44 x45 x46 x47 x48 x49 x50 x51 x52 x53 x54 x55 x56 x57 x58 x59 x60 x61 x62 : Value, Code.wp Tryz.prog ?code ?post { tmps := #[.string (bytesOf rs), .slice p m c, .int .i64 u, .int .i64 at_, .int .i64 line, undef, undef, undef, undef, undef, x10, .pointer (some ⟨b, 0, none⟩), x12, x13, x14, .int .i64 0, undef, undef, undef, undef, undef, undef, undef, undef, undef, undef, undef, undef, undef, x29, x30, x31, x32, x33, x34, x35, x36, x37, x38, x39, x40, x41, x42, x43, x44, x45, x46, x47, x48, x49, x50, x51, x52, x53, x54, x55, x56, x57, x58, x59, x60, x61, x62, undef, undef, undef, undef, undef, undef, undef, undef, undef, undef, undef, undef, undef, undef, undef, undef, undef, undef, undef, undef, undef, undef, undef, undef, undef, undef, undef, undef, undef, undef, undef, undef, undef, undef, undef, undef, undef, undef, undef, undef, undef, undef, undef, undef, undef, undef, undef, undef, undef, undef, undef, undef, undef, undef, undef, undef, undef, undef, undef, undef, undef, undef, undef, undef, undef, undef, undef, undef, undef, undef, undef, undef, undef, undef, undef, undef, undef, undef, undef, undef, undef, undef, undef, undef, undef, undef, undef, undef, undef, undef, undef, undef, undef, undef, undef, undef, undef, undef, undef, undef, undef, undef, undef, undef, undef, undef, undef, undef, undef, undef, undef, undef, undef, undef, undef, undef, undef, undef, undef, undef, undef, undef, undef, undef, undef, undef, undef, undef, undef, undef, undef, undef, undef], defers := [] } ?world) → Code.wp _ _ _ _ _) ?_
    intro x10 x12 x13 x14 x29 x30 x31 x32 x33 x34 x35 x36 x37 x38 x39 x40 x41 x42 x43 x44 x45 x46 x47 x48 x49 x50 x51 x52 x53 x54 x55 x56 x57 x58 x59 x60 x61 x62
    dsimp only
    go_loopw [0, 15] (fun sv iv wr => ∃ (k : Nat) (rs : List Nat), sv = .string (bytesOf rs) ∧ iv = .int .i64 (k : Int) ∧ k ≤ m + 1 ∧ (∀ r ∈ rs, isRune r) ∧ C1 rs ≤ 8000 ∧ Below w.heap.size w wr ∧ isRope wr b rs) (fun _ iv _ => m + 1 - (intOf iv).toNat)
    case atStart => exact ⟨0, rs, rfl, rfl, Nat.zero_le _, HRU.out, HC1.out, HB2.out, HR2.out⟩
    case round =>
      obtain ⟨k, rs, rfl, rfl, hk, hrun, hC1, hb, hR⟩ := hrel
      clear cN cC HRU HC1 HB1 HR1 HB2 HR2
      have HB : Hid (Below w.heap.size w wr) := hb
      have HR : Hid (isRope wr b rs) := hR
      have HRUN : Hid (∀ r ∈ rs, isRune r) := hrun
      have HC : Hid (C1 rs ≤ 8000) := hC1
      clear hb hR hrun hC1
      by_cases hkm : k ≤ m
      · have hkm2 : (k : Int) ≤ (m : Int) := by omega
        refine wp_seq_key (fun a' w' => ∀ G : Act → World → Prop, (∀ v10 v16 v17 v18 v19 v20 v21 v22 v23 v24 v25 v26 v27 v28 v63 v64 v65 v66 v67 v68 v69 v70 v71 v72 v73 v74 v75 v76 v77 v78 v79 v80 v81 v82 v83 v84 v85 v86 v87 v88 v89 v90 v91 v92 v93 v94 v95 v96 v97 v98 v99 v100 v101 v102 v103 v104 v105 v106 v107 v108 v109 v110 v111 v112 v113 v114 v115 v116 v117 v118 v119 v120 v121 v122 v123 v124 v125 v126 v127 v128 v129 v130 v131 v132 v133 v134 v135 v136 v137 v138 v139 v140 v141 v142 v143 v144 v145 v146 v147 v148 v149 v150 v151 v152 v153 v154 v155 v156 v157 v158 v159 v160 v161 v162 v163 v164 v165 v166 v167 v168 v169 v170 v171 v172 v173 v174 v175 v176 v177 v178 v179 v180 v181 v182 v183 v184 v185 v186 v187 v188 v189 v190 v191 v192 v193 v194 v195 : Value, G { tmps := #[.string (bytesOf rs), .slice p m c, .int .i64 u, .int .i64 at_, .int .i64 line, undef, undef, undef, undef, undef, v10, .pointer (some ⟨b, 0, none⟩), x12, x13, x14, .int .i64 (k : Int), v16, v17, v18, v19, v20, v21, v22, v23, v24, v25, v26, v27, v28, x29, x30, x31, x32, x33, x34, x35, x36, x37, x38, x39, x40, x41, x42, x43, x44, x45, x46, x47, x48, x49, x50, x51, x52, x53, x54, x55, x56, x57, x58, x59, x60, x61, x62, v63, v64, v65, v66, v67, v68, v69, v70, v71, v72, v73, v74, v75, v76, v77, v78, v79, v80, v81, v82, v83, v84, v85, v86, v87, v88, v89, v90, v91, v92, v93, v94, v95, v96, v97, v98, v99, v100, v101, v102, v103, v104, v105, v106, v107, v108, v109, v110, v111, v112, v113, v114, v115, v116, v117, v118, v119, v120, v121, v122, v123, v124, v125, v126, v127, v128, v129, v130, v131, v132, v133, v134, v135, v136, v137, v138, v139, v140, v141, v142, v143, v144, v145, v146, v147, v148, v149, v150, v151, v152, v153, v154, v155, v156, v157, v158, v159, v160, v161, v162, v163, v164, v165, v166, v167, v168, v169, v170, v171, v172, v173, v174, v175, v176, v177, v178, v179, v180, v181, v182, v183, v184, v185, v186, v187, v188, v189, v190, v191, v192, v193, v194, v195], defers := [] } wr) → G a' w') (fun Q' hQ => ?_) ?_
        · have HQ : Hid _ := hQ
          clear hQ
          go_wp2
          exact HQ.out _ _ (fun G h => h _ _ _ _ _ _ _ _ _ _ _ _ _ _ _ _ _ _ _ _ _ _ _ _ _ _ _ _ _ _ _ _ _ _ _ _ _ _ _ _ _ _ _ _ _ _ _ _ _ _ _ _ _ _ _ _ _ _ _ _ _ _ _ _ _ _ _ _ _ _ _ _ _ _ _ _ _ _ _ _ _ _ _ _ _ _ _ _ _ _ _ _ _ _ _ _ _ _ _ _ _ _ _ _ _ _ _ _ _ _ _ _ _ _ _ _ _ _ _ _ _ _ _ _ _ _ _ _ _ _ _ _ _ _ _ _ _ _ _ _ _ _ _ _ _ _ _)
        intro a' w' h
        refine h (fun a' w' => Code.wp _ _ _ a' w') ?_
        clear h
        intro v10 v16 v17 v18 v19 v20 v21 v22 v23 v24 v25 v26 v27 v28 v63 v64 v65 v66 v67 v68 v69 v70 v71 v72 v73 v74 v75 v76 v77 v78 v79 v80 v81 v82 v83 v84 v85 v86 v87 v88 v89 v90 v91 v92 v93 v94 v95 v96 v97 v98 v99 v100 v101 v102 v103 v104 v105 v106 v107 v108 v109 v110 v111 v112 v113 v114 v115 v116 v117 v118 v119 v120 v121 v122 v123 v124 v125 v126 v127 v128 v129 v130 v131 v132 v133 v134 v135 v136 v137 v138 v139 v140 v141 v142 v143 v144 v145 v146 v147 v148 v149 v150 v151 v152 v153 v154 v155 v156 v157 v158 v159 v160 v161 v162 v163 v164 v165 v166 v167 v168 v169 v170 v171 v172 v173 v174 v175 v176 v177 v178 v179 v180 v181 v182 v183 v184 v185 v186 v187 v188 v189 v190 v191 v192 v193 v194 v195
        dsimp only
        refine wp_seq ?_
        refine wp_block ?_
        refine wp_seq_key2 (fun a' w' => ∃ rs2 : List Nat, ((∀ r ∈ rs2, isRune r) ∧ C1 rs2 ≤ 8000 ∧ Below w.heap.size w w' ∧ isRope w' b rs2) ∧ ∀ G : Act → Prop, (∀ z10 z16 z17 z18 z19 z20 z21 z22 z23 z24 z25 z26 z27 z28 z63 z64 z65 z66 z67 z68 z69 z70 z71 z72 z73 z74 z75 z76 z77 z78 z79 z80 z81 z82 z83 z84 z85 z86 z87 z88 z89 z90 z91 z92 z93 z94 z95 z96 z97 z98 z99 z100 z101 z102 z103 z104 z105 z106 z107 z108 z109 z110 z111 z112 z113 z114 z115 z116 z117 z118 z119 z120 z121 z122 z123 z124 z125 z126 z127 z128 z129 z130 z131 z132 z133 z134 z135 z136 z137 z138 z139 z140 z141 z142 z143 z144 z145 z146 z147 z148 z149 z150 z151 z152 z153 z154 z155 z156 z157 z158 z159 z160 z161 z162 z163 z164 z165 z166 z167 z168 z169 z170 z171 z172 z173 z174 z175 z176 z177 z178 z179 z180 z181 z182 z183 z184 z185 z186 z187 z188 z189 z190 z191 z192 z193 z194 z195 : Value, G { tmps := #[.string (bytesOf rs2), .slice p m c, .int .i64 u, .int .i64 at_, .int .i64 line, undef, undef, undef, undef, undef, z10, .pointer (some ⟨b, 0, none⟩), x12, x13, x14, .int .i64 (k : Int), z16, z17, z18, z19, z20, z21, z22, z23, z24, z25, z26, z27, z28, x29, x30, x31, x32, x33, x34, x35, x36, x37, x38, x39, x40, x41, x42, x43, x44, x45, x46, x47, x48, x49, x50, x51, x52, x53, x54, x55, x56, x57, x58, x59, x60, x61, x62, z63, z64, z65, z66, z67, z68, z69, z70, z71, z72, z73, z74, z75, z76, z77, z78, z79, z80, z81, z82, z83, z84, z85, z86, z87, z88, z89, z90, z91, z92, z93, z94, z95, z96, z97, z98, z99, z100, z101, z102, z103, z104, z105, z106, z107, z108, z109, z110, z111, z112, z113, z114, z115, z116, z117, z118, z119, z120, z121, z122, z123, z124, z125, z126, z127, z128, z129, z130, z131, z132, z133, z134, z135, z136, z137, z138, z139, z140, z141, z142, z143, z144, z145, z146, z147, z148, z149, z150, z151, z152, z153, z154, z155, z156, z157, z158, z159, z160, z161, z162, z163, z164, z165, z166, z167, z168, z169, z170, z171, z172, z173, z174, z175, z176, z177, z178, z179, z180, z181, z182, z183, z184, z185, z186, z187, z188, z189, z190, z191, z192, z193, z194, z195], defers := [] }) → G a') (fun a' w' => ∃ rs2 : List Nat, Below w.heap.size w w' ∧ ∀ G : Act → Prop, (∀ z16 z17 z18 z19 z20 z21 z22 z23 z24 z25 z26 z27 z28 z63 z64 z65 z66 z67 z68 z69 z70 z71 z72 z73 z74 z75 z76 z77 z78 z79 z80 z81 z82 z83 z84 z85 z86 z87 z88 z89 z90 z91 z92 z93 z94 z95 z96 z97 z98 z99 z100 z101 z102 z103 z104 z105 z106 z107 z108 z109 z110 z111 z112 z113 z114 z115 z116 z117 z118 z119 z120 z121 z122 z123 z124 z125 z126 z127 z128 z129 z130 z131 z132 z133 z134 z135 z136 z137 z138 z139 z140 z141 z142 z143 z144 z145 z146 z147 z148 z149 z150 z151 z152 z153 z154 z155 z156 z157 z158 z159 z160 z161 z162 z163 z164 z165 z166 z167 z168 z169 z170 z171 z172 z173 z174 z175 z176 z177 z178 z179 z180 z181 z182 z183 z184 z185 z186 z187 z188 z189 z190 z191 z192 z193 z194 z195 : Value, G { tmps := #[.string (bytesOf rs2), .slice p m c, .int .i64 u, .int .i64 at_, .int .i64 line, undef, undef, undef, undef, undef, .bool true, .pointer (some ⟨b, 0, none⟩), x12, x13, x14, .int .i64 (k : Int), z16, z17, z18, z19, z20, z21, z22, z23, z24, z25, z26, z27, z28, x29, x30, x31, x32, x33, x34, x35, x36, x37, x38, x39, x40, x41, x42, x43, x44, x45, x46, x47, x48, x49, x50, x51, x52, x53, x54, x55, x56, x57, x58, x59, x60, x61, x62, z63, z64, z65, z66, z67, z68, z69, z70, z71, z72, z73, z74, z75, z76, z77, z78, z79, z80, z81, z82, z83, z84, z85, z86, z87, z88, z89, z90, z91, z92, z93, z94, z95, z96, z97, z98, z99, z100, z101, z102, z103, z104, z105, z106, z107, z108, z109, z110, z111, z112, z113, z114, z115, z116, z117, z118, z119, z120, z121, z122, z123, z124, z125, z126, z127, z128, z129, z130, z131, z132, z133, z134, z135, z136, z137, z138, z139, z140, z141, z142, z143, z144, z145, z146, z147, z148, z149, z150, z151, z152, z153, z154, z155, z156, z157, z158, z159, z160, z161, z162, z163, z164, z165, z166, z167, z168, z169, z170, z171, z172, z173, z174, z175, z176, z177, z178, z179, z180, z181, z182, z183, z184, z185, z186, z187, z188, z189, z190, z191, z192, z193, z194, z195], defers := [] }) → G a') (fun Q' hQ hRet => ?_) ?_ ?_
        · have HQ : Hid _ := hQ
          have HRET : Hid _ := hRet
          clear hQ hRet
          by_cases hk0 : k = 0
          · have hk1 : ¬ (0 : Int) < (k : Int) := by omega
            clear hk0
            go_wp2
            exact HQ.out _ _ ⟨rs, ⟨HRUN.out, HC.out, HB.out, HR.out⟩, fun G h => h _ _ _ _ _ _ _ _ _ _ _ _ _ _ _ _ _ _ _ _ _ _ _ _ _ _ _ _ _ _ _ _ _ _ _ _ _ _ _ _ _ _ _ _ _ _ _ _ _ _ _ _ _ _ _ _ _ _ _ _ _ _ _ _ _ _ _ _ _ _ _ _ _ _ _ _ _ _ _ _ _ _ _ _ _ _ _ _ _ _ _ _ _ _ _ _ _ _ _ _ _ _ _ _ _ _ _ _ _ _ _ _ _ _ _ _ _ _ _ _ _ _ _ _ _ _ _ _ _ _ _ _ _ _ _ _ _ _ _ _ _ _ _ _ _ _ _⟩
          · have hk1 : (0 : Int) < (k : Int) := by omega
            obtain ⟨i, hi⟩ : ∃ i, k = i + 1 := ⟨k - 1, by omega⟩
            have hlm := HM.out
            have hilt : i < cs.length := by omega
            obtain ⟨q, hq⟩ : ∃ q, cs[i]? = some q := ⟨cs[i], List.getElem?_eq_getElem hilt⟩
            obtain ⟨B0, o, rfl, hbB, hcell⟩ := R3.out (fun h => by rw [h] at hilt; cases hilt)
            obtain ⟨l0, l1, l2⟩ := hcell i q hq
            obtain ⟨put, hput⟩ : ∃ put : ByteArray, (⟨q.put.toArray⟩ : ByteArray) = put := ⟨_, rfl⟩
            obtain ⟨q0, hq0⟩ : ∃ q0, q.keep = q0 := ⟨_, rfl⟩
            obtain ⟨q1, hq1⟩ : ∃ q1, q.drop = q1 := ⟨_, rfl⟩
            rw [hput] at l2
            rw [hq0] at l0
            rw [hq1] at l1
            replace l0 := cell_on HB.out l0
            replace l1 := cell_on HB.out l1
            replace l2 := cell_on HB.out l2
            have hBlt : B0 < wr.heap.size := Nat.lt_of_lt_of_le hbB HB.out.size
            have wk : IntKind.i64.wrap ((k : Int) - 1) = (i : Int) := by rw [IntKind.wrap_i64]; omega
            have him : i < m := by omega
            have him2 : (i : Int) < (m : Int) := by omega
            have hi0 : (0 : Int) ≤ (i : Int) := by omega
            clear hcell hq hput hq0 hq1 hlm hilt hi
            by_cases hpb : (3000 : Int) < (put.size : Int)
            · go_wp2
              exact HRET.out _ _ ⟨rs, HB.out.alloc HB.out.size _, fun G h => h _ _ _ _ _ _ _ _ _ _ _ _ _ _ _ _ _ _ _ _ _ _ _ _ _ _ _ _ _ _ _ _ _ _ _ _ _ _ _ _ _ _ _ _ _ _ _ _ _ _ _ _ _ _ _ _ _ _ _ _ _ _ _ _ _ _ _ _ _ _ _ _ _ _ _ _ _ _ _ _ _ _ _ _ _ _ _ _ _ _ _ _ _ _ _ _ _ _ _ _ _ _ _ _ _ _ _ _ _ _ _ _ _ _ _ _ _ _ _ _ _ _ _ _ _ _ _ _ _ _ _ _ _ _ _ _ _ _ _ _ _ _ _ _ _ _⟩
            · have hpn : put.size ≤ 1000000 := by omega
              obtain ⟨rs', E, P, hr', hz', cRef, cSp⟩ := splice_pack put hpn rs HRUN.out HC.out q0 q1
              have CS : Hid _ := cSp
              have CR : Hid _ := cRef
              have HR' : Hid (∀ r ∈ rs', isRune r) := hr'
              have HZ' : Hid (C1 rs' ≤ 8000) := hz'
              have HBlt : Hid (b < wr.heap.size) := rope_ltq HR.out
              clear cRef cSp hr' hz' hpn
              go_wp2_with (first
                | (go_at_call 8; refine (CR.out _).mono ?_; rintro e w3 ⟨rfl, hb3⟩; have hby : Below (wr.alloc (.cells #[.int .i64 q0, .int .i64 q1, .string put] 37)).heap.size (wr.alloc (.cells #[.int .i64 q0, .int .i64 q1, .string put] 37)) (w3.alloc (.cells #[.int .i64 E, .int .i64 P] 32)) := hb3.alloc hb3.size _; have hby0 : Below wr.heap.size wr (w3.alloc (.cells #[.int .i64 E, .int .i64 P] 32)) := (((Below.refl _ wr).alloc (Nat.le_refl _) (.cells #[.int .i64 q0, .int .i64 q1, .string put] 37)).trans (hby.mono (by rw [World.size_alloc]; omega))); have HB3 : Hid _ := HB.out.trans (hby0.mono HB.out.size); have HR3 : Hid _ := isRope_below HR.out hby0; have HN3 : Hid (b ≠ w3.heap.size) := Nat.ne_of_lt (Nat.lt_of_lt_of_le (Nat.lt_of_lt_of_le HBlt.out (by rw [World.size_alloc]; omega)) hb3.size); have HC3 : Hid _ := cutW_below (cutW_new wr q0 q1 (.string put) 37) hby; clear hb3 hby hby0)
                | fail)
              have hb3 := HB3.out
              have hr3 := HR3.out
              have hc3 := HC3.out
              have hn3 := HN3.out
              have hf3 := spotW_new w3 E P 32
              generalize (w3.alloc (.cells #[.int .i64 E, .int .i64 P] 32)) = WX at *
              generalize w3.heap.size = BF at *
              generalize wr.heap.size = BC at *
              clear HB3 HR3 HC3 HN3
              have hfd : spotW WX.drew BF E P := hf3
              have cS := CS.out b WX.drew (Go.Proofs.Utf8Tabs_below HT.out (hb3.trans ((Below.refl _ WX).drew.mono hb3.size))) (isRope_below hr3 (Below.refl _ WX).drew)
              obtain ⟨k0, k1, k2⟩ := hc3
              have HB3 : Hid (Below w.heap.size w WX.drew) := hb3.trans ((Below.refl _ WX).drew.mono hb3.size)
              have HFD : Hid (spotW WX.drew BF E P) := hfd
              have HN3 : Hid (b ≠ BF) := hn3
              have HLB : Hid (b ≤ WX.drew.heap.size) := Nat.le_of_lt (rope_ltq (isRope_below hr3 (Below.refl _ WX).drew))
              clear hb3 hr3 hfd hn3 CS CR
              refine splice_region (fun w' => Below w.heap.size w w' ∧ isRope w' b rs') (bytesOf rs') put b BC BF q0 q1 E P WX _ _ _ _ _ _ _ _ _ _ _ _ _ _ _ _ _ _ _ _ _ _ _ _ _ _ _ _ _ _ _ _ _ _ _ _ _ _ _ _ _ _ _ _ _ _ _ _ _ _ _ _ _ _ _ _ _ _ _ _ _ _ _ _ _ _ _ _ _ _ _ _ _ _ _ _ _ _ _ _ _ _ _ _ _ _ _ _ _ _ _ _ _ _ _ _ _ _ _ _ _ _ _ _ _ _ _ _ _ _ _ _ _ _ _ _ _ _ _ _ _ _ _ _ _ _ _ _ _ _ _ _ _ _ _ _ _ _ _ _ _ _ _ _ _ _ _ _ _ _ _ _ _ _ _ _ _ _ _ _ _ _ _ _ _ _ _ _ _ _ _ _ _ _ _ _ _ _ _ _ _ _ _ _ _ _ _ _ _ _ _ _ (cS.mono ?_) hf3 k0 k1 k2 ?_
              · rintro e w4 ⟨x, rfl, hR4, hB4, hI4⟩
                have hb4 : Below w.heap.size w w4 := HB3.out.trans ((hB4.below HLB.out).mono HL1.out)
                refine ⟨x, rfl, spotW_butq HFD.out hB4 (Ne.symm HN3.out), (hI4 w4 (asLaid_below HG.out hb4) (Below.refl _ _)).mono ?_⟩
                rintro e w5 ⟨rfl, hb5⟩
                exact ⟨rfl, hb4.trans (hb5.mono hb4.size), isRope_below hR4 hb5⟩
              · intro y92 y93 y94 y95 y96 y97 y98 y99 y100 y101 w5 h5
                have HB5 : Hid (Below w.heap.size w w5) := h5.1
                have HR5 : Hid (isRope w5 b rs') := h5.2
                clear h5 cS hf3 k0 k1 k2
                dsimp only
                go_wp2
                exact HQ.out _ _ ⟨rs', ⟨HR'.out, HZ'.out, HB5.out, HR5.out⟩, fun G h => h _ _ _ _ _ _ _ _ _ _ _ _ _ _ _ _ _ _ _ _ _ _ _ _ _ _ _ _ _ _ _ _ _ _ _ _ _ _ _ _ _ _ _ _ _ _ _ _ _ _ _ _ _ _ _ _ _ _ _ _ _ _ _ _ _ _ _ _ _ _ _ _ _ _ _ _ _ _ _ _ _ _ _ _ _ _ _ _ _ _ _ _ _ _ _ _ _ _ _ _ _ _ _ _ _ _ _ _ _ _ _ _ _ _ _ _ _ _ _ _ _ _ _ _ _ _ _ _ _ _ _ _ _ _ _ _ _ _ _ _ _ _ _ _ _ _ _⟩
        · rintro a' wq ⟨rs2, ⟨hrun, hC1, hb, hR⟩, h⟩
          refine h (fun a' => Code.wp _ _ _ a' _) ?_
          clear h
          intro z10 z16 z17 z18 z19 z20 z21 z22 z23 z24 z25 z26 z27 z28 z63 z64 z65 z66 z67 z68 z69 z70 z71 z72 z73 z74 z75 z76 z77 z78 z79 z80 z81 z82 z83 z84 z85 z86 z87 z88 z89 z90 z91 z92 z93 z94 z95 z96 z97 z98 z99 z100 z101 z102 z103 z104 z105 z106 z107 z108 z109 z110 z111 z112 z113 z114 z115 z116 z117 z118 z119 z120 z121 z122 z123 z124 z125 z126 z127 z128 z129 z130 z131 z132 z133 z134 z135 z136 z137 z138 z139 z140 z141 z142 z143 z144 z145 z146 z147 z148 z149 z150 z151 z152 z153 z154 z155 z156 z157 z158 z159 z160 z161 z162 z163 z164 z165 z166 z167 z168 z169 z170 z171 z172 z173 z174 z175 z176 z177 z178 z179 z180 z181 z182 z183 z184 z185 z186 z187 z188 z189 z190 z191 z192 z193 z194 z195
          dsimp only
          clear HB HR HRUN HC
          have HB : Hid (Below w.heap.size w wq) := hb
          have HR : Hid (isRope wq b rs2) := hR
          have HRUN : Hid (∀ r ∈ rs2, isRune r) := hrun
          have HC : Hid (C1 rs2 ≤ 8000) := hC1
          clear hb hR hrun hC1
          obtain ⟨cC, cA, cL⟩ := HDOC.out rs2 HRUN.out HC.out
          obtain ⟨dT, dC, dA, dL⟩ := HPRG.out b rs2 wq HC.out HB.out HR.out
          obtain ⟨hh, mm, ⟨hm1, hm2⟩, hm3, dH, dM, cLow⟩ := rope_hm b rs2 wq HR.out (Int.le_trans HC.out (by decide))
          have CC : Hid _ := cC
          have DT : Hid _ := dT
          have DC : Hid _ := dC
          have DH : Hid _ := dH
          have DM : Hid _ := dM
          have CLOW : Hid _ := cLow
          obtain ⟨X, hX⟩ : ∃ X, axN u at_ rs2 = X := ⟨_, rfl⟩
          obtain ⟨EX, hEX⟩ : ∃ EX, axE u at_ rs2 = EX := ⟨_, rfl⟩
          obtain ⟨Y, hY⟩ : ∃ Y, lnN line rs2 = Y := ⟨_, rfl⟩
          obtain ⟨EY, hEY⟩ : ∃ EY, lnE line rs2 = EY := ⟨_, rfl⟩
          rw [hX, hEX] at cA dA
          rw [hY, hEY] at cL dL
          have CB1 : Hid _ := HCB.out EX
          have CB2 : Hid _ := HCB.out EY
          obtain ⟨VX, hVX⟩ : ∃ VX, errV EX = VX := ⟨_, rfl⟩
          obtain ⟨VY, hVY⟩ : ∃ VY, errV EY = VY := ⟨_, rfl⟩
          rw [hVX] at dA CB1
          rw [hVY] at dL CB2
          unfold cntV at cA cL dA dL
          have CA : Hid _ := cA
          have CL : Hid _ := cL
          have DA : Hid _ := dA
          have DL : Hid _ := dL
          have HM3 : Hid (((mm : Int) ≤ C1 rs2 ∧ C1 rs2 ≤ 32 * (mm : Int))) := ⟨hm1, hm2⟩
          clear cC cA cL dT dC dA dL dH dM cLow hm1 hm2 hm3 hX hEX hY hEY hVX hVY
          go_wp2_with (first
            | (go_at_call 6; refine (CC.out _).mono ?_; rintro e w2 ⟨rfl, hb2⟩; have hby : Below wq.heap.size wq ((w2.alloc (.cells #[.int .i64 (C1 rs2), .int .i64 (C2 rs2), .int .i64 (C3 rs2), .int .i64 (C4 rs2)] 29)).alloc (.cells #[.int .i64 0, .int .i64 (-1)] 32)) := (hb2.alloc hb2.size _).alloc (Nat.le_trans hb2.size (by simp)) _; have HY2 : Hid _ := hby; have hk2 := counted_below (counted_new w2 (C1 rs2) (C2 rs2) (C3 rs2) (C4 rs2) 29) ((Below.refl _ _).alloc (Nat.le_refl _) (.cells #[.int .i64 0, .int .i64 (-1)] 32)); have HK2 : Hid _ := hk2; clear hb2 hby hk2)
            | fail)
          refine check_region b w2.heap.size rs2 hh mm wq _ _ _ _ _ _ _ _ _ _ _ _ _ _ _ _ _ _ _ _ _ _ _ _ _ _ _ _ _ _ _ _ _ _ _ _ _ _ _ _ _ _ _ _ _ _ _ _ _ _ _ _ _ _ _ _ _ _ _ _ _ _ _ _ _ _ _ _ _ _ _ _ _ _ _ _ _ _ _ _ _ _ _ _ _ _ _ _ _ _ _ _ _ _ _ _ _ _ _ _ _ _ _ _ _ _ _ _ _ _ _ _ _ _ _ _ _ _ _ _ _ _ _ _ _ _ _ _ _ _ _ _ _ _ _ _ _ _ _ _ _ _ _ _ _ _ _ _ _ _ _ _ _ _ _ _ _ _ _ _ _ _ _ _ _ _ _ _ _ _ _ _ _ _ _ _ _ _ _ _ _ _ _ _ _ _ _ _ _ _ _ _ _ _ DT DC DH DM CLOW HM3.out.1 HM3.out.2 HC.out HY2.out HK2.out ?_
          intro y108 y109 y110 y111 y112 y113 y114 y115 y116 y117 y118 y119 y120 y121 y122 y123 y124 y125 y126 y127 y128 y129 y130 y131 y132 y133 y134 y135 y136 y137 y138 y139 w9 hb9
          dsimp only
          have HY9 : Hid (Below wq.heap.size wq w9) := hb9
          clear HY2 HK2 hb9
          by_cases hsm : ((bytesOf rs2).size : Int) < 400
          · have HKM : Hid (k ≤ m) := hkm
            go_wp2_with (first
              | (go_at_call 15; refine (CA.out _).mono ?_; rintro e w10 ⟨rfl, hb10⟩; have hby : Below w9.heap.size w9 (w10.alloc (.cells #[.int .i64 (C1 X), .int .i64 (C2 X), .int .i64 (C3 X), .int .i64 (C4 X)] 29)) := hb10.alloc hb10.size _; have HY10 : Hid (Below wq.heap.size wq (w10.alloc (.cells #[.int .i64 (C1 X), .int .i64 (C2 X), .int .i64 (C3 X), .int .i64 (C4 X)] 29))) := HY9.out.trans (hby.mono HY9.out.size); have HA10 : Hid (counted (w10.alloc (.cells #[.int .i64 (C1 X), .int .i64 (C2 X), .int .i64 (C3 X), .int .i64 (C4 X)] 29)) w10.heap.size (C1 X) (C2 X) (C3 X) (C4 X)) := counted_new w10 _ _ _ _ _; clear hb10 hby)
              | (go_at_call 16; refine (DA.out _ HY10.out).mono ?_; rintro e w11 ⟨rfl, hb11⟩; have hby : Below (w10.alloc (.cells #[.int .i64 (C1 X), .int .i64 (C2 X), .int .i64 (C3 X), .int .i64 (C4 X)] 29)).heap.size (w10.alloc (.cells #[.int .i64 (C1 X), .int .i64 (C2 X), .int .i64 (C3 X), .int .i64 (C4 X)] 29)) (w11.alloc (.cells #[.int .i64 (C1 X), .int .i64 (C2 X), .int .i64 (C3 X), .int .i64 (C4 X)] 29)) := hb11.alloc hb11.size _; have HY11 : Hid (Below wq.heap.size wq (w11.alloc (.cells #[.int .i64 (C1 X), .int .i64 (C2 X), .int .i64 (C3 X), .int .i64 (C4 X)] 29))) := HY10.out.trans (hby.mono HY10.out.size); have HA11 : Hid (counted (w11.alloc (.cells #[.int .i64 (C1 X), .int .i64 (C2 X), .int .i64 (C3 X), .int .i64 (C4 X)] 29)) w10.heap.size (C1 X) (C2 X) (C3 X) (C4 X)) := counted_below HA10.out hby; have HE11 : Hid (counted (w11.alloc (.cells #[.int .i64 (C1 X), .int .i64 (C2 X), .int .i64 (C3 X), .int .i64 (C4 X)] 29)) w11.heap.size (C1 X) (C2 X) (C3 X) (C4 X)) := counted_new w11 _ _ _ _ _; clear hb11 hby)
              | (go_at_call 17; refine (CL.out _).mono ?_; rintro e w12 ⟨rfl, hb12⟩; have hby : Below (w11.alloc (.cells #[.int .i64 (C1 X), .int .i64 (C2 X), .int .i64 (C3 X), .int .i64 (C4 X)] 29)).heap.size (w11.alloc (.cells #[.int .i64 (C1 X), .int .i64 (C2 X), .int .i64 (C3 X), .int .i64 (C4 X)] 29)) (w12.alloc (.cells #[.int .i64 (C1 Y), .int .i64 (C2 Y), .int .i64 (C3 Y), .int .i64 (C4 Y)] 29)) := hb12.alloc hb12.size _; have HY12 : Hid (Below wq.heap.size wq (w12.alloc (.cells #[.int .i64 (C1 Y), .int .i64 (C2 Y), .int .i64 (C3 Y), .int .i64 (C4 Y)] 29))) := HY11.out.trans (hby.mono HY11.out.size); have HA12 : Hid (counted (w12.alloc (.cells #[.int .i64 (C1 Y), .int .i64 (C2 Y), .int .i64 (C3 Y), .int .i64 (C4 Y)] 29)) w10.heap.size (C1 X) (C2 X) (C3 X) (C4 X)) := counted_below HA11.out hby; have HE12 : Hid (counted (w12.alloc (.cells #[.int .i64 (C1 Y), .int .i64 (C2 Y), .int .i64 (C3 Y), .int .i64 (C4 Y)] 29)) w11.heap.size (C1 X) (C2 X) (C3 X) (C4 X)) := counted_below HE11.out hby; have HI12 : Hid (counted (w12.alloc (.cells #[.int .i64 (C1 Y), .int .i64 (C2 Y), .int .i64 (C3 Y), .int .i64 (C4 Y)] 29)) w12.heap.size (C1 Y) (C2 Y) (C3 Y) (C4 Y)) := counted_new w12 _ _ _ _ _; clear hb12 hby)
              | (go_at_call 18; refine (DL.out _ HY12.out).mono ?_; rintro e w13 ⟨rfl, hb13⟩; have hby : Below (w12.alloc (.cells #[.int .i64 (C1 Y), .int .i64 (C2 Y), .int .i64 (C3 Y), .int .i64 (C4 Y)] 29)).heap.size (w12.alloc (.cells #[.int .i64 (C1 Y), .int .i64 (C2 Y), .int .i64 (C3 Y), .int .i64 (C4 Y)] 29)) (w13.alloc (.cells #[.int .i64 (C1 Y), .int .i64 (C2 Y), .int .i64 (C3 Y), .int .i64 (C4 Y)] 29)) := hb13.alloc hb13.size _; have HY13 : Hid (Below wq.heap.size wq (w13.alloc (.cells #[.int .i64 (C1 Y), .int .i64 (C2 Y), .int .i64 (C3 Y), .int .i64 (C4 Y)] 29))) := HY12.out.trans (hby.mono HY12.out.size); have HA13 : Hid (counted (w13.alloc (.cells #[.int .i64 (C1 Y), .int .i64 (C2 Y), .int .i64 (C3 Y), .int .i64 (C4 Y)] 29)) w10.heap.size (C1 X) (C2 X) (C3 X) (C4 X)) := counted_below HA12.out hby; have HE13 : Hid (counted (w13.alloc (.cells #[.int .i64 (C1 Y), .int .i64 (C2 Y), .int .i64 (C3 Y), .int .i64 (C4 Y)] 29)) w11.heap.size (C1 X) (C2 X) (C3 X) (C4 X)) := counted_below HE12.out hby; have HI13 : Hid (counted (w13.alloc (.cells #[.int .i64 (C1 Y), .int .i64 (C2 Y), .int .i64 (C3 Y), .int .i64 (C4 Y)] 29)) w12.heap.size (C1 Y) (C2 Y) (C3 Y) (C4 Y)) := counted_below HI12.out hby; have HJ13 : Hid (counted (w13.alloc (.cells #[.int .i64 (C1 Y), .int .i64 (C2 Y), .int .i64 (C3 Y), .int .i64 (C4 Y)] 29)) w13.heap.size (C1 Y) (C2 Y) (C3 Y) (C4 Y)) := counted_new w13 _ _ _ _ _; clear hb13 hby)
              | (have _ := HY14; go_at_call 19; refine (CB2.out _ (HB.out.trans (HY14.out.mono HB.out.size))).mono ?_; rintro e w15 ⟨rfl, hb15⟩; have HY15 : Hid (Below wq.heap.size wq w15) := HY14.out.trans (hb15.mono HY14.out.size); have hi15 := counted_below HI14.out hb15; have hj15 := counted_below HJ14.out hb15; clear hb15; obtain ⟨⟨i0, i1, i2, i3⟩, _⟩ := hi15; obtain ⟨⟨j0, j1, j2, j3⟩, _⟩ := hj15)
              | (go_at_call 19; refine (CB1.out _ (HB.out.trans (HY13.out.mono HB.out.size))).mono ?_; rintro e w14 ⟨rfl, hb14⟩; have HY14 : Hid (Below wq.heap.size wq w14) := HY13.out.trans (hb14.mono HY13.out.size); have ha14 := counted_below HA13.out hb14; have he14 := counted_below HE13.out hb14; have HI14 : Hid _ := counted_below HI13.out hb14; have HJ14 : Hid _ := counted_below HJ13.out hb14; clear hb14; obtain ⟨⟨a0, a1, a2, a3⟩, _⟩ := ha14; obtain ⟨⟨q0, q1, q2, q3⟩, _⟩ := he14)
              | fail)
            go_roundw
            case rel => exact ⟨k + 1, rs2, rfl, by go_num, by have := HKM.out; omega, HRUN.out, HC.out, HB.out.trans (HY15.out.mono HB.out.size), isRope_below HR.out HY15.out⟩
            case measure => simp [intOf]; omega
          · by_cases hkq : k = m
            · have hkeq : ((k : Int) == (m : Int)) = true := by rw [hkq]; simp
              have HKM : Hid (k ≤ m) := hkm
              go_wp2_with (first
                | (go_at_call 15; refine (CA.out _).mono ?_; rintro e w10 ⟨rfl, hb10⟩; have hby : Below w9.heap.size w9 (w10.alloc (.cells #[.int .i64 (C1 X), .int .i64 (C2 X), .int .i64 (C3 X), .int .i64 (C4 X)] 29)) := hb10.alloc hb10.size _; have HY10 : Hid (Below wq.heap.size wq (w10.alloc (.cells #[.int .i64 (C1 X), .int .i64 (C2 X), .int .i64 (C3 X), .int .i64 (C4 X)] 29))) := HY9.out.trans (hby.mono HY9.out.size); have HA10 : Hid (counted (w10.alloc (.cells #[.int .i64 (C1 X), .int .i64 (C2 X), .int .i64 (C3 X), .int .i64 (C4 X)] 29)) w10.heap.size (C1 X) (C2 X) (C3 X) (C4 X)) := counted_new w10 _ _ _ _ _; clear hb10 hby)
                | (go_at_call 16; refine (DA.out _ HY10.out).mono ?_; rintro e w11 ⟨rfl, hb11⟩; have hby : Below (w10.alloc (.cells #[.int .i64 (C1 X), .int .i64 (C2 X), .int .i64 (C3 X), .int .i64 (C4 X)] 29)).heap.size (w10.alloc (.cells #[.int .i64 (C1 X), .int .i64 (C2 X), .int .i64 (C3 X), .int .i64 (C4 X)] 29)) (w11.alloc (.cells #[.int .i64 (C1 X), .int .i64 (C2 X), .int .i64 (C3 X), .int .i64 (C4 X)] 29)) := hb11.alloc hb11.size _; have HY11 : Hid (Below wq.heap.size wq (w11.alloc (.cells #[.int .i64 (C1 X), .int .i64 (C2 X), .int .i64 (C3 X), .int .i64 (C4 X)] 29))) := HY10.out.trans (hby.mono HY10.out.size); have HA11 : Hid (counted (w11.alloc (.cells #[.int .i64 (C1 X), .int .i64 (C2 X), .int .i64 (C3 X), .int .i64 (C4 X)] 29)) w10.heap.size (C1 X) (C2 X) (C3 X) (C4 X)) := counted_below HA10.out hby; have HE11 : Hid (counted (w11.alloc (.cells #[.int .i64 (C1 X), .int .i64 (C2 X), .int .i64 (C3 X), .int .i64 (C4 X)] 29)) w11.heap.size (C1 X) (C2 X) (C3 X) (C4 X)) := counted_new w11 _ _ _ _ _; clear hb11 hby)
                | (go_at_call 17; refine (CL.out _).mono ?_; rintro e w12 ⟨rfl, hb12⟩; have hby : Below (w11.alloc (.cells #[.int .i64 (C1 X), .int .i64 (C2 X), .int .i64 (C3 X), .int .i64 (C4 X)] 29)).heap.size (w11.alloc (.cells #[.int .i64 (C1 X), .int .i64 (C2 X), .int .i64 (C3 X), .int .i64 (C4 X)] 29)) (w12.alloc (.cells #[.int .i64 (C1 Y), .int .i64 (C2 Y), .int .i64 (C3 Y), .int .i64 (C4 Y)] 29)) := hb12.alloc hb12.size _; have HY12 : Hid (Below wq.heap.size wq (w12.alloc (.cells #[.int .i64 (C1 Y), .int .i64 (C2 Y), .int .i64 (C3 Y), .int .i64 (C4 Y)] 29))) := HY11.out.trans (hby.mono HY11.out.size); have HA12 : Hid (counted (w12.alloc (.cells #[.int .i64 (C1 Y), .int .i64 (C2 Y), .int .i64 (C3 Y), .int .i64 (C4 Y)] 29)) w10.heap.size (C1 X) (C2 X) (C3 X) (C4 X)) := counted_below HA11.out hby; have HE12 : Hid (counted (w12.alloc (.cells #[.int .i64 (C1 Y), .int .i64 (C2 Y), .int .i64 (C3 Y), .int .i64 (C4 Y)] 29)) w11.heap.size (C1 X) (C2 X) (C3 X) (C4 X)) := counted_below HE11.out hby; have HI12 : Hid (counted (w12.alloc (.cells #[.int .i64 (C1 Y), .int .i64 (C2 Y), .int .i64 (C3 Y), .int .i64 (C4 Y)] 29)) w12.heap.size (C1 Y) (C2 Y) (C3 Y) (C4 Y)) := counted_new w12 _ _ _ _ _; clear hb12 hby)
                | (go_at_call 18; refine (DL.out _ HY12.out).mono ?_; rintro e w13 ⟨rfl, hb13⟩; have hby : Below (w12.alloc (.cells #[.int .i64 (C1 Y), .int .i64 (C2 Y), .int .i64 (C3 Y), .int .i64 (C4 Y)] 29)).heap.size (w12.alloc (.cells #[.int .i64 (C1 Y), .int .i64 (C2 Y), .int .i64 (C3 Y), .int .i64 (C4 Y)] 29)) (w13.alloc (.cells #[.int .i64 (C1 Y), .int .i64 (C2 Y), .int .i64 (C3 Y), .int .i64 (C4 Y)] 29)) := hb13.alloc hb13.size _; have HY13 : Hid (Below wq.heap.size wq (w13.alloc (.cells #[.int .i64 (C1 Y), .int .i64 (C2 Y), .int .i64 (C3 Y), .int .i64 (C4 Y)] 29))) := HY12.out.trans (hby.mono HY12.out.size); have HA13 : Hid (counted (w13.alloc (.cells #[.int .i64 (C1 Y), .int .i64 (C2 Y), .int .i64 (C3 Y), .int .i64 (C4 Y)] 29)) w10.heap.size (C1 X) (C2 X) (C3 X) (C4 X)) := counted_below HA12.out hby; have HE13 : Hid (counted (w13.alloc (.cells #[.int .i64 (C1 Y), .int .i64 (C2 Y), .int .i64 (C3 Y), .int .i64 (C4 Y)] 29)) w11.heap.size (C1 X) (C2 X) (C3 X) (C4 X)) := counted_below HE12.out hby; have HI13 : Hid (counted (w13.alloc (.cells #[.int .i64 (C1 Y), .int .i64 (C2 Y), .int .i64 (C3 Y), .int .i64 (C4 Y)] 29)) w12.heap.size (C1 Y) (C2 Y) (C3 Y) (C4 Y)) := counted_below HI12.out hby; have HJ13 : Hid (counted (w13.alloc (.cells #[.int .i64 (C1 Y), .int .i64 (C2 Y), .int .i64 (C3 Y), .int .i64 (C4 Y)] 29)) w13.heap.size (C1 Y) (C2 Y) (C3 Y) (C4 Y)) := counted_new w13 _ _ _ _ _; clear hb13 hby)
                | (have _ := HY14; go_at_call 19; refine (CB2.out _ (HB.out.trans (HY14.out.mono HB.out.size))).mono ?_; rintro e w15 ⟨rfl, hb15⟩; have HY15 : Hid (Below wq.heap.size wq w15) := HY14.out.trans (hb15.mono HY14.out.size); have hi15 := counted_below HI14.out hb15; have hj15 := counted_below HJ14.out hb15; clear hb15; obtain ⟨⟨i0, i1, i2, i3⟩, _⟩ := hi15; obtain ⟨⟨j0, j1, j2, j3⟩, _⟩ := hj15)
                | (go_at_call 19; refine (CB1.out _ (HB.out.trans (HY13.out.mono HB.out.size))).mono ?_; rintro e w14 ⟨rfl, hb14⟩; have HY14 : Hid (Below wq.heap.size wq w14) := HY13.out.trans (hb14.mono HY13.out.size); have ha14 := counted_below HA13.out hb14; have he14 := counted_below HE13.out hb14; have HI14 : Hid _ := counted_below HI13.out hb14; have HJ14 : Hid _ := counted_below HJ13.out hb14; clear hb14; obtain ⟨⟨a0, a1, a2, a3⟩, _⟩ := ha14; obtain ⟨⟨q0, q1, q2, q3⟩, _⟩ := he14)
                | fail)
              go_roundw
              case rel => exact ⟨k + 1, rs2, rfl, by go_num, by have := HKM.out; omega, HRUN.out, HC.out, HB.out.trans (HY15.out.mono HB.out.size), isRope_below HR.out HY15.out⟩
              case measure => simp [intOf]; omega
            · have hkeq : ((k : Int) == (m : Int)) = false := beq_eq_false_iff_ne.2 (by omega)
              have HY : Hid (Below wq.heap.size wq w9) := HY9.out
              have HKM : Hid (k ≤ m) := hkm
              clear hkq
              go_wp2
              go_roundw
              case rel => exact ⟨k + 1, rs2, rfl, by go_num, by have := HKM.out; omega, HRUN.out, HC.out, HB.out.trans (HY.out.mono HB.out.size), isRope_below HR.out HY.out⟩
              case measure => simp [intOf]; omega
        · rintro a' w' ⟨rs2, hb, h⟩
          refine h (fun a' => Exit.inBlock _ _ _ a' _) ?_
          clear h
          intro z16 z17 z18 z19 z20 z21 z22 z23 z24 z25 z26 z27 z28 z63 z64 z65 z66 z67 z68 z69 z70 z71 z72 z73 z74 z75 z76 z77 z78 z79 z80 z81 z82 z83 z84 z85 z86 z87 z88 z89 z90 z91 z92 z93 z94 z95 z96 z97 z98 z99 z100 z101 z102 z103 z104 z105 z106 z107 z108 z109 z110 z111 z112 z113 z114 z115 z116 z117 z118 z119 z120 z121 z122 z123 z124 z125 z126 z127 z128 z129 z130 z131 z132 z133 z134 z135 z136 z137 z138 z139 z140 z141 z142 z143 z144 z145 z146 z147 z148 z149 z150 z151 z152 z153 z154 z155 z156 z157 z158 z159 z160 z161 z162 z163 z164 z165 z166 z167 z168 z169 z170 z171 z172 z173 z174 z175 z176 z177 z178 z179 z180 z181 z182 z183 z184 z185 z186 z187 z188 z189 z190 z191 z192 z193 z194 z195
          dsimp only
          go_ret
          exact ⟨rfl, hb⟩
      · have hkm2 : ¬ (k : Int) ≤ (m : Int) := by omega
        go_wp2
        go_ret
        exact ⟨rfl, HB.out⟩
end Go.Proofs.YtldhbjmillfjgaaGreatDoor
