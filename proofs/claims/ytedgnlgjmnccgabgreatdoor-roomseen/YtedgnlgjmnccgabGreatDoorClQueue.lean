/-
  client.queue, landed, turn, Refused: what is its own changes.
-/
import Derived.Test.YtedgnlgjmnccgabGreatDoorClSmall
import Derived.Test.YtedgnlgjmnccgabGreatDoorAppNew
import Derived.Test.YtedgnlgjmnccgabGreatDoorSrvPush
import Derived.Test.YtedgnlgjmnccgabGreatDoorRegionSet
namespace Go.Proofs.YtedgnlgjmnccgabGreatDoor
open Go.RowKit Go.Maps
set_option linter.unusedVariables false
attribute [local go_sem] Oper.semAt_some yieldsUpon okUpon

theorem cl_cells {w : World} {b : Nat} {who u : Int} {S : Cl} {vm : Value} (h3 : w.heap[b]? = some (.cells (clCells who u S vm) 203 (0, 0))) :
    w.cell? ⟨b, 0, none⟩ = some (.int .i64 who) ∧ w.cell? ⟨b, 1, none⟩ = some (.int .i64 u) ∧ w.cell? ⟨b, 2, none⟩ = some (.int .i64 S.rev) ∧ w.cell? ⟨b, 3, none⟩ = some (.string ⟨S.seen.toArray⟩) ∧ w.cell? ⟨b, 4, none⟩ = some vm ∧ w.cell? ⟨b, 5, none⟩ = some (.string ⟨S.doc.toArray⟩) ∧ w.cell? ⟨b, 6, none⟩ = some (.int .i64 S.id) ∧ w.cell? ⟨b, 7, none⟩ = some (.int .i64 S.drops) ∧ ∀ o, w.frozen? ⟨b, o, none⟩ = false :=
  ⟨Lib.cell_of_heap h3 0, Lib.cell_of_heap h3 1, Lib.cell_of_heap h3 2, Lib.cell_of_heap h3 3, Lib.cell_of_heap h3 4, Lib.cell_of_heap h3 5, Lib.cell_of_heap h3 6, Lib.cell_of_heap h3 7, fun o => frozen_block h3⟩
theorem keptC_of {w w' : World} {b : Nat} {vm vm' : Value} (h4 : w.cell? ⟨b, 4, none⟩ = some vm) (h4' : w'.cell? ⟨b, 4, none⟩ = some vm') (hs : sameBut w w' fun k => k = b ∨ vm.ownBlock = some k) (hn : ∀ k, vm'.ownBlock = some k → vm.ownBlock = some k ∨ w.heap.size ≤ k) : keptC w w' b := by
  refine ⟨hs.mono fun k _ hk => hk.imp id fun e => ⟨vm, h4, e⟩, fun k hk => ?_⟩
  rcases hk with rfl | ⟨v, e, hk⟩
  · exact .inl (.inl rfl)
  · rw [h4'] at e
    obtain rfl := Option.some.inj e
    exact (hn k hk).imp (fun e => .inr ⟨vm, h4, e⟩) id
/-- A new client's struct, and the row of what is its own. -/
theorem isCl_mk {lo : Nat} {w w' : World} {b : Nat} {who u : Int} {S S' : Cl} {vm vm' : Value} (hlo : lo ≤ b) (h3 : w.heap[b]? = some (.cells (clCells who u S vm) 203 (0, 0))) (h3' : w'.heap[b]? = some (.cells (clCells who u S' vm') 203 (0, 0))) (hm : isMine lo w' vm' S'.mine)
    (hs : sameBut w w' fun k => k = b ∨ vm.ownBlock = some k) (hn : ∀ k, vm'.ownBlock = some k → vm.ownBlock = some k ∨ w.heap.size ≤ k) : isCl lo w' b who u S' ∧ keptC w w' b :=
  ⟨⟨hlo, vm', h3', hm⟩, keptC_of (cl_cells h3).2.2.2.2.1 (cl_cells h3').2.2.2.2.1 hs hn⟩

set_option maxRecDepth 100000 in
set_option maxHeartbeats 1000000 in
theorem clQueue0 {lo : Nat} {w : World} {b : Nat} {who u : Int} {S : Cl} (h : isCl lo w b who u S) (hm : S.mine = []) (v : Value) (o : List Pt) (hx : opX lo w v o) (hid : 0 ≤ S.id ∧ S.id ≤ 1000000) :
    Calls Tryz.prog 121 #[.pointer (some ⟨b, 0, none⟩), v] w fun e w' => e = .returned (.tuple #[]) ∧ isCl lo w' b who u { S with mine := [o], id := S.id + 1 } ∧ keptC w w' b := by
  have hlt := isCl_lt h
  obtain ⟨hlo, vm, h3, h4⟩ := h
  obtain ⟨p, c, rfl⟩ := isMine_shape h4
  have hl0 : S.mine.length = 0 := by rw [hm]; rfl
  rw [hl0] at h3 h4
  obtain ⟨_, _, _, _, x4, _, x6, _, xf⟩ := cl_cells h3
  have f4 := xf 4
  have f6 := xf 6
  obtain ⟨pv, cv, rfl⟩ : ∃ p c, v = .slice p o.length c := by obtain ⟨⟨p, c, e, _⟩, _⟩ := hx; exact ⟨p, c, e⟩
  have H3 : Hid _ := h3
  have HX : Hid _ := hx
  have hid1 : wrap64 (S.id + 1) = S.id + 1 := wrap64_small (by omega) (by omega)
  obtain ⟨i0, i1⟩ := hid
  generalize hon : o.length = on at *
  have hne : b ≠ w.heap.size := by omega
  clear h3 h4 hm hl0 hx xf
  go_enter Tryz.func121, Tryz.ntmps121
  go_wp2
  go_end0
  refine ⟨rfl, ?_⟩
  have b1 := heap_setCell_same w b 4 _ _ (.slice (some ⟨w.heap.size, 0, none⟩) 1 1) H3.out
  have b2 := heap_setCell_same _ b 6 _ _ (.int .i64 (S.id + 1)) b1
  have hs1 : sameBut w ((w.setCell ⟨b, 4, none⟩ (.slice (some ⟨w.heap.size, 0, none⟩) 1 1)).setCell ⟨b, 6, none⟩ (.int .i64 (S.id + 1))) (fun k => k = b) := (sameBut_set (S := fun k => k = b) rfl).trans (sameBut_set (S := fun k => k = b) rfl)
  have hz1 : ((w.setCell ⟨b, 4, none⟩ (.slice (some ⟨w.heap.size, 0, none⟩) 1 1)).setCell ⟨b, 6, none⟩ (.int .i64 (S.id + 1))).heap.size = w.heap.size := by rw [World.size_setCell, World.size_setCell]
  generalize (w.setCell ⟨b, 4, none⟩ (.slice (some ⟨w.heap.size, 0, none⟩) 1 1)).setCell ⟨b, 6, none⟩ (.int .i64 (S.id + 1)) = W at *
  have hs2 : sameBut w (W.alloc (.cells #[.slice pv on cv] 23)) (fun k => k = b) := hs1.trans (sameBut_below ((Below.refl _ _).alloc (Nat.le_refl _) _) _)
  have hrow := World.ownsRow_lit (e := 23) (base := lo) (size := 1) W #[.slice pv on cv] 1 (by omega) (by unfold maxLen; omega) rfl
  rw [hz1] at hrow
  refine isCl_mk hlo H3.out (alloc_block b2) ⟨[.slice pv on cv], rfl, hrow, fun i m x hi hx => ?_⟩ (hs2.mono fun k _ hk => .inl hk) fun k hk => .inr (Nat.le_of_eq (Option.some.inj hk))
  cases i with
  | succ i => simp at hi
  | zero =>
    obtain rfl : o = m := by simpa using hi
    obtain rfl : Value.slice pv on cv = x := by simpa using hx
    exact opX_same HX.out hs2 fun k _ hk => by obtain rfl := hk; exact ⟨hlo, noPart_of H3.out (by decide)⟩
theorem info_op : (Tryz.prog.info? 23).map (fun i => (i.zero, i.size, i.bytes)) = some (some (.slice none 0 0), 1, 24) := by kernel_rfl
theorem opX_shape {lo : Nat} {w : World} {v : Value} {o : List Pt} (h : opX lo w v o) : ∃ p c, v = .slice p o.length c := by
  obtain ⟨⟨p, c, e, _⟩, _⟩ := h
  exact ⟨p, c, e⟩
theorem op_oneCell (p : Option Addr) (n c : Nat) : ∀ x ∈ [Value.slice p n c], x.oneCell' = true := by
  intro x hx
  simp only [List.mem_singleton] at hx
  subst hx
  rfl
/-- One operation more in the row. -/
theorem mine_snoc {lo : Nat} {w w6 : World} {v1 v2 x : Value} {ms : List (List Pt)} {o : List Pt} {vs : List Value} (h1 : vs.length = ms.length) (h2 : w.ownsRow lo 23 1 v1 ms.length vs) (h3 : ∀ (i : Nat) (m : List Pt) (y : Value), ms[i]? = some m → vs[i]? = some y → opX lo w y m) (hx : opX lo w x o)
    (hg : w.grownBy w6 v1.ownBlock) (hnew : w6.ownsRow lo 23 1 v2 (ms.length + 1) (vs ++ [x])) : isMine lo w6 v2 (ms ++ [o]) := by
  have hs : sameBut w w6 fun k => v1.ownBlock = some k := sameBut_grown hg fun k e => e
  have hS : ∀ k, k < w.heap.size → v1.ownBlock = some k → lo ≤ k ∧ noPart w k := fun k _ hk => by
    obtain ⟨a, b, cs, c⟩ := mine_own ⟨vs, h1, h2, h3⟩ hk
    exact ⟨a, noPart_of c (by decide)⟩
  refine ⟨vs ++ [x], by simp [h1], by rw [List.length_append, List.length_singleton]; exact hnew, fun i m y hm hy => ?_⟩
  rcases Nat.lt_or_ge i ms.length with hi | hi
  · rw [List.getElem?_append_left hi] at hm
    rw [List.getElem?_append_left (by omega)] at hy
    exact opX_same (h3 i m y hm hy) hs hS
  · have : i = ms.length := by
      rcases Nat.lt_or_ge ms.length i with h | h
      · rw [List.getElem?_append_right hi] at hm
        obtain ⟨j, hj⟩ : ∃ j, i - ms.length = j + 1 := ⟨i - ms.length - 1, by omega⟩
        rw [hj] at hm; simp at hm
      · omega
    subst this
    rw [List.getElem?_append_right (Nat.le_refl _), Nat.sub_self] at hm
    rw [List.getElem?_append_right (by omega), h1, Nat.sub_self] at hy
    obtain rfl : o = m := by simpa using hm
    obtain rfl : x = y := by simpa using hy
    exact opX_same hx hs hS
/-- One operation of the row is another one. -/
theorem mine_put {lo g n c : Nat} {w : World} {ms : List (List Pt)} {vs : List Value} (h1 : vs.length = ms.length) (h2 : w.ownsRow lo 23 1 (.slice (some ⟨g, 0, none⟩) n c) ms.length vs) (h3 : ∀ (i : Nat) (m : List Pt) (y : Value), ms[i]? = some m → vs[i]? = some y → opX lo w y m) {x : Value} {o : List Pt} (hx : opX lo w x o) (j : Nat) :
    isMine lo (w.setCell ⟨g, j, none⟩ x) (.slice (some ⟨g, 0, none⟩) n c) (ms.set j o) ∧ sameBut w (w.setCell ⟨g, j, none⟩ x) fun k => (Value.slice (some ⟨g, 0, none⟩) n c).ownBlock = some k := by
  have hn : n = ms.length := by
    rcases h2.2 with ⟨e, _⟩ | ⟨g', cap, cur, e, _⟩
    · cases e
    · injection e
  subst hn
  obtain ⟨r1, r2⟩ := World.ownsRow.stored h2 j x
  have hs : sameBut w (w.setCell ⟨g, j, none⟩ x) fun k => (Value.slice (some ⟨g, 0, none⟩) ms.length c).ownBlock = some k := sameBut_grown r2 fun k e => e
  have hS : ∀ k, k < w.heap.size → (Value.slice (some ⟨g, 0, none⟩) ms.length c).ownBlock = some k → lo ≤ k ∧ noPart w k := fun k _ hk => by
    obtain ⟨a, b, cs, c⟩ := mine_own ⟨vs, h1, h2, h3⟩ hk
    exact ⟨a, noPart_of c (by decide)⟩
  refine ⟨⟨vs.set j x, by simp [h1], by rw [List.length_set]; exact r1, fun i m y hm hy => ?_⟩, hs⟩
  by_cases hij : j = i
  · subst hij
    rw [List.getElem?_set] at hm hy
    simp only [if_true] at hm hy
    split at hm
    · split at hy
      · obtain rfl := Option.some.inj hm
        obtain rfl := Option.some.inj hy
        exact opX_same hx hs hS
      · cases hy
    · cases hm
  · rw [List.getElem?_set_ne hij] at hm hy
    exact opX_same (h3 i m y hm hy) hs hS
set_option maxRecDepth 100000 in
set_option maxHeartbeats 1000000 in
theorem clQueue1 {lo : Nat} {w : World} {b : Nat} {who u : Int} {S : Cl} (h : isCl lo w b who u S) (hm : S.mine.length = 1) (v : Value) (o : List Pt) (hx : opX lo w v o) :
    Calls Tryz.prog 121 #[.pointer (some ⟨b, 0, none⟩), v] w fun e w' => e = .returned (.tuple #[]) ∧ isCl lo w' b who u { S with mine := S.mine ++ [o] } ∧ keptC w w' b := by
  have hlt := isCl_lt h
  obtain ⟨hlo, vm, h3, h4⟩ := h
  obtain ⟨p, c, rfl⟩ := isMine_shape h4
  rw [hm] at h3 h4
  obtain ⟨_, _, _, _, x4, _, _, _, xf⟩ := cl_cells h3
  obtain ⟨pv, cv, rfl⟩ := opX_shape hx
  have H3 : Hid _ := h3
  have HX : Hid _ := hx
  have HM : Hid (S.mine.length = 1) := hm
  have hbw : Below w.heap.size w (w.alloc (.cells #[.slice pv o.length cv] 23)) := (Below.refl _ _).alloc (Nat.le_refl _) _
  obtain ⟨vs, m1, m2, m3⟩ := isMine_below h4 hbw
  rw [hm] at m2
  have M1 : Hid _ := m1
  have M2 : Hid _ := m2
  have M3 : Hid _ := m3
  have HMO : Hid (∀ k, (Value.slice p 1 c).ownBlock = some k → lo ≤ k ∧ k < w.heap.size ∧ ∃ cs, w.heap[k]? = some (.cells cs 23 (0, 0))) := fun k hk => mine_own h4 hk
  have HBW : Hid _ := hbw
  obtain ⟨i0, hi, hz0, hz1, hz2⟩ := info_parts info_op
  have HI : Hid _ := hi
  have HZ0 : Hid _ := hz0
  have HZ1 : Hid _ := hz1
  have HZ2 : Hid _ := hz2
  generalize hon : o.length = on at *
  have hne : b ≠ w.heap.size := by omega
  have HLO : Hid (lo ≤ b) := hlo
  clear h3 h4 hm hx xf m1 m2 m3 hbw hi hz0 hz1 hz2 hlo
  go_enter Tryz.func121, Tryz.ntmps121
  go_wp2_with (first
    | (at_builtin; refine wpList_append_new _ rfl _ _ 60 rfl lo 23 i0 (.slice none 0 0) 1 24 Tryz.underlying60 HI.out HZ0.out HZ1.out HZ2.out rfl (by decide) _ _ _ rfl M2.out ⟨w.heap.size, 0, none⟩ 1 1 [.slice pv on cv] rfl rfl (cells_newS _ _ (by first | rfl | simp) _ _) (op_oneCell _ _ _) (by unfold maxLen; omega) (by omega) (by have := HLO.out; simp; omega) (by decide) ?_)
    | fail)
  all_goals
    intro v2 w6 hown' hg' hnew'
    obtain ⟨p7, c7, rfl⟩ := own_slice hown'
    have hnb : some b ≠ (Value.slice p 1 c).ownBlock := fun e => by
      obtain ⟨_, _, cs, hc⟩ := HMO.out b e.symm
      have := not_type H3.out hc
      revert this; decide
    have hb6 := (hg'.block b (by rw [World.size_alloc]; omega) hnb).trans (alloc_block (o' := .cells #[.slice pv on cv] 23) H3.out)
    have HB6 : Hid _ := hb6
    obtain ⟨_, _, _, _, y4, _, _, _, yf⟩ := cl_cells hb6
    have z4 := yf 4
    have HMN : Hid (isMine lo w6 (.slice p7 (1 + 1) c7) (S.mine ++ [o])) := mine_snoc M1.out (by rw [HM.out]; exact M2.out) M3.out (opX_grown HX.out HBW.out) hg' (by rw [HM.out]; exact hown')
    have HS6 : Hid (sameBut w w6 fun k => k = b ∨ (Value.slice p 1 c).ownBlock = some k) := (sameBut_below HBW.out _).comp (sameBut_grown (S := fun k => (Value.slice p 1 c).ownBlock = some k) hg' fun k e => e) fun k _ e => .inr e
    have HNW : Hid (∀ k, (Value.slice p7 (1 + 1) c7).ownBlock = some k → (Value.slice p 1 c).ownBlock = some k ∨ w.heap.size ≤ k) := fun k hk => (hnew' k hk).imp id fun e => by omega
    clear hown' hg' hnew' hnb hb6 yf
    go_wp2
    go_end0
    refine ⟨rfl, ?_⟩
    have b1 := heap_setCell_same w6 b 4 _ _ (.slice p7 (1 + 1) c7) HB6.out
    have hs1 : sameBut w6 (w6.setCell ⟨b, 4, none⟩ (.slice p7 (1 + 1) c7)) (fun k => k = b) := sameBut_set (S := fun k => k = b) rfl
    refine isCl_mk HLO.out H3.out b1 (isMine_but HMN.out hs1 (fun k _ hk => by obtain rfl := hk; exact ⟨HLO.out, noPart_of HB6.out (by decide)⟩) fun k hk e => ?_) (HS6.out.comp hs1 fun k _ e => .inl e) HNW.out
    obtain ⟨_, _, cs, hc⟩ := mine_own HMN.out hk
    subst e
    have := not_type HB6.out hc
    revert this; decide
theorem kCompN (v1 v2 : Value) (a b : List Pt) (t : List UInt8) (w : World) (hT : Lib.Utf8Tabs 2 3 w) (r1 : opAt w v1 a) (r2 : opAt w v2 b) (ha : good a t) (hb : good b (applyP a t)) (h1 : t.length + putsP a < 1000000) (h2 : (applyP a t).length + putsP b < 1000000) :
    Calls Tryz.prog 182 #[v1, v2] w fun e w' => ∃ v', e = .returned (.tuple #[v', .nilIface]) ∧ opN w.heap.size w' v' (tellP (compS a b)) ∧ Below w.heap.size w w' := by
  have f1 := ha.fine h1
  have f2 := hb.fine h2
  have e : compE a b = 0 := by unfold compE; rw [ha.both hb h1 h2, if_pos rfl, (ha.lens h1).2, (hb.lens h2).1, if_pos rfl]
  have := comp_allN v1 v2 a b w hT r1 r2 (ha.wf h1) (hb.wf h2) f1.len f2.len fun _ => ⟨f1, f2⟩
  rw [e, if_pos rfl] at this
  exact this
theorem kTransN (v1 v2 : Value) (F : Bool) (a b : List Pt) (t : List UInt8) (w : World) (hT : Lib.Utf8Tabs 2 3 w) (r1 : opAt w v1 a) (r2 : opAt w v2 b) (ha : good a t) (hb : good b t) (h1 : t.length + putsP a < 1000000) (h2 : t.length + putsP b < 1000000) :
    Calls Tryz.prog 187 #[v1, v2, .bool F] w fun e w' => ∃ v', e = .returned (.tuple #[v', .nilIface]) ∧ opN w.heap.size w' v' (tellP (transS F a b)) ∧ Below w.heap.size w w' := by
  have f1 := ha.fine h1
  have f2 := hb.fine h2
  have e : turnE a b = 0 := by unfold turnE; rw [ha.both hb h1 h2, if_pos rfl, (ha.lens h1).1, (hb.lens h2).1, if_pos rfl]
  have := trans_allN v1 v2 F a b w hT r1 r2 (ha.wf h1) (hb.wf h2) f1.len f2.len fun _ => ⟨f1, f2⟩
  rw [e, if_pos rfl] at this
  exact this
theorem opN_shape {B : Nat} {w : World} {v : Value} {o : List Pt} (h : opN B w v o) : ∃ p c, v = .slice p o.length c := by
  obtain ⟨⟨p, c, e, _⟩, _⟩ := h
  exact ⟨p, c, e⟩
set_option maxRecDepth 100000 in
set_option maxHeartbeats 2000000 in
theorem clQueue2 {lo : Nat} {w : World} {b : Nat} {who u : Int} {S : Cl} (h : isCl lo w b who u S) {m1 m2 : List Pt} (hm : S.mine = [m1, m2]) (v : Value) (o : List Pt) (hx : opX lo w v o) (hT : Lib.Utf8Tabs 2 3 w) {t : List UInt8} (ha : good m2 t) (hb : good o (applyP m2 t)) (h1 : t.length + putsP m2 < 1000000) (h2 : (applyP m2 t).length + putsP o < 1000000) :
    Calls Tryz.prog 121 #[.pointer (some ⟨b, 0, none⟩), v] w fun e w' => e = .returned (.tuple #[]) ∧ isCl lo w' b who u { S with mine := [m1, tellP (compS m2 o)] } ∧ keptC w w' b := by
  have hlt := isCl_lt h
  obtain ⟨hlo, vm, h3, h4⟩ := h
  have h4' := h4
  obtain ⟨vs, q1, q2, q3⟩ := h4'
  obtain ⟨g, c, rfl⟩ : ∃ g c, vm = .slice (some ⟨g, 0, none⟩) 2 c := by
    rw [hm] at q2
    rcases q2.2 with ⟨_, e⟩ | ⟨g, cap, cur, e, _⟩
    · cases e
    · exact ⟨g, cap, e⟩
  have hl2 : S.mine.length = 2 := by rw [hm]; rfl
  have hvl : vs.length = 2 := by rw [q1, hl2]
  obtain ⟨x1, hx1⟩ : ∃ x1, vs[1]? = some x1 := ⟨vs[1], List.getElem?_eq_getElem (by omega)⟩
  have ho1 : opX lo w x1 m2 := q3 1 m2 x1 (by rw [hm]; rfl) hx1
  have hr1 : w.cell? ⟨g, 1, none⟩ = some x1 := by rw [hl2] at q2; rw [World.ownsRow.cellAt q2 1 (by omega)]; exact hx1
  obtain ⟨_, _, _, _, x4, _, _, _, xf⟩ := cl_cells h3
  have hg := mine_own h4 (k := g) rfl
  have hgb : g ≠ b := fun e => by
    obtain ⟨_, _, cs, hc⟩ := hg
    subst e
    have := not_type h3 hc
    revert this; decide
  have hc2 : 2 ≤ c ∧ c ≤ maxLen := by
    rw [hl2] at q2
    rcases q2.2 with ⟨e, _⟩ | ⟨g', cap, cur, e, _, _, e5, e6, _⟩
    · cases e
    · injection e with _ _ e; subst e; exact ⟨e5, e6⟩
  obtain ⟨hc2, hc3⟩ := hc2
  unfold maxLen at hc3
  have CC : Hid (∀ wx, Below w.heap.size w wx → Calls Tryz.prog 182 #[x1, v] wx fun e w' => ∃ v', e = .returned (.tuple #[v', .nilIface]) ∧ opN wx.heap.size w' v' (tellP (compS m2 o)) ∧ Below wx.heap.size wx w') := fun wx hb' => kCompN x1 v m2 o t wx (Go.Proofs.Utf8Tabs_below hT hb') (opX_grown ho1 hb').1 (opX_grown hx hb').1 ha hb h1 h2
  obtain ⟨p1, c1, rfl⟩ := opX_shape ho1
  obtain ⟨pv, cv, rfl⟩ := opX_shape hx
  have H3 : Hid _ := h3
  have H4 : Hid _ := h4
  have HLO : Hid (lo ≤ b) := hlo
  have HM : Hid (S.mine = [m1, m2]) := hm
  have HG : Hid (lo ≤ g ∧ g < w.heap.size) := ⟨hg.1, hg.2.1⟩
  generalize hO : tellP (compS m2 o) = O at *
  generalize m2.length = n2 at *
  generalize o.length = on at *
  clear h3 h4 hm hx ho1 q1 q2 q3 hvl hx1 hl2 xf hT ha hb h1 h2 hg hlo hO
  go_enter Tryz.func121, Tryz.ntmps121
  go_wp2
  refine wp_region_set (fun wx : World => wx.heap[b]? = some (.cells (clCells who u S (.slice (some ⟨g, 0, none⟩) 2 c)) 203 (0, 0))) 17 17 (by kernel_rfl) rfl ?_
  intro w30 hb30
  have hz0 : w30.heap[b]? = some (.cells (clCells who u S (.slice (some ⟨g, 0, none⟩) 2 c)) 203 (0, 0)) := (hb30.block b hlt).trans H3.out
  obtain ⟨G, hG⟩ := exists_growZ (Z := fun wx : World => wx.heap[b]? = some (.cells (clCells who u S (.slice (some ⟨g, 0, none⟩) 2 c)) 203 (0, 0))) hz0 (fun {w w'} h hb => (hb.block b (Array.getElem?_eq_some_iff.1 h).1).trans h)
  have y4 : ∀ x, (G x).cell? ⟨b, 4, none⟩ = some (.slice (some ⟨g, 0, none⟩) 2 c) := fun x => (cl_cells (hG.but x)).2.2.2.2.1
  (refine anyZ_step hG hz0 (i := 0) rfl (by kernel_rfl) (by kernel_rfl) (by kernel_rfl) (fun K hK => ?_); go_simp; refine hK _ ?_; clear hK K)
  (refine anyZ_step hG hz0 (i := 1) rfl (by kernel_rfl) (by kernel_rfl) (by kernel_rfl) (fun K hK => ?_); go_simp; refine hK _ ?_; clear hK K)
  (refine anyZ_step hG hz0 (i := 2) rfl (by kernel_rfl) (by kernel_rfl) (by kernel_rfl) (fun K hK => ?_); go_simp; refine hK _ ?_; clear hK K)
  (refine anyZ_step hG hz0 (i := 3) rfl (by kernel_rfl) (by kernel_rfl) (by kernel_rfl) (fun K hK => ?_); go_simp; refine hK _ ?_; clear hK K)
  (refine anyZ_step hG hz0 (i := 4) rfl (by kernel_rfl) (by kernel_rfl) (by kernel_rfl) (fun K hK => ?_); go_simp; refine hK _ ?_; clear hK K)
  (refine anyZ_step hG hz0 (i := 5) rfl (by kernel_rfl) (by kernel_rfl) (by kernel_rfl) (fun K hK => ?_); go_simp; refine hK _ ?_; clear hK K)
  (refine anyZ_step hG hz0 (i := 6) rfl (by kernel_rfl) (by kernel_rfl) (by kernel_rfl) (fun K hK => ?_); go_simp; refine hK _ ?_; clear hK K)
  (refine anyZ_step hG hz0 (i := 7) rfl (by kernel_rfl) (by kernel_rfl) (by kernel_rfl) (fun K hK => ?_); go_simp; refine hK _ ?_; clear hK K)
  (refine anyZ_step hG hz0 (i := 8) rfl (by kernel_rfl) (by kernel_rfl) (by kernel_rfl) (fun K hK => ?_); go_simp; refine hK _ ?_; clear hK K)
  (refine anyZ_step hG hz0 (i := 10) rfl (by kernel_rfl) (by kernel_rfl) (by kernel_rfl) (fun K hK => ?_); go_simp; refine hK _ ?_; clear hK K)
  clear y4
  refine anyZ_one (i := 9) (by kernel_rfl) ⟨_, rfl, ?_⟩
  intro w29 hb29 K hK
  have yr := (hb29.cell (p := ⟨g, 1, none⟩) (Nat.lt_of_lt_of_le HG.out.2 hb30.size)).trans ((hb30.cell (p := ⟨g, 1, none⟩) HG.out.2).trans hr1)
  go_simp
  refine hK _ _ (fun h => h) ?_
  clear hK K yr
  refine anyZ_one (i := 11) (by kernel_rfl) ⟨_, rfl, ?_⟩
  intro w31 hb31 K hK
  go_simp
  have hb39 := hb30.trans (hb29.mono hb30.size)
  have hb38 := hb39.trans (hb31.mono hb39.size)
  refine (CC.out w31 hb38).mono ?_
  rintro e w32 ⟨v', rfl, hn, hb32⟩
  obtain ⟨p9, c9, rfl⟩ := opN_shape hn
  have HN : Hid _ := hn
  have hz2 : w32.heap[b]? = some (.cells (clCells who u S (.slice (some ⟨g, 0, none⟩) 2 c)) 203 (0, 0)) := ((hb38.trans (hb32.mono hb38.size)).block b hlt).trans H3.out
  refine ⟨_, rfl, hK _ _ (fun _ => hz2) ?_⟩
  clear hK K hn hz0
  (refine anyZ_step hG hz2 (i := 12) rfl (by kernel_rfl) (by kernel_rfl) (by kernel_rfl) (fun K hK => ?_); go_simp; refine hK _ ?_; clear hK K)
  (refine anyZ_step hG hz2 (i := 13) rfl (by kernel_rfl) (by kernel_rfl) (by kernel_rfl) (fun K hK => ?_); go_simp; refine hK _ ?_; clear hK K)
  (refine anyZ_step hG hz2 (i := 14) rfl (by kernel_rfl) (by kernel_rfl) (by kernel_rfl) (fun K hK => ?_); go_simp; refine hK _ ?_; clear hK K)
  (refine anyZ_step hG hz2 (i := 15) rfl (by kernel_rfl) (by kernel_rfl) (by kernel_rfl) (fun K hK => ?_); go_simp; refine hK _ ?_; clear hK K)
  clear hG hz2
  refine anyZ_one (i := 16) (by kernel_rfl) ⟨_, rfl, ?_⟩
  intro w33 hb33 K hK
  have hb37 := hb38.trans (hb32.mono hb38.size)
  have hbA : Below w.heap.size w w33 := hb37.trans (hb33.mono hb37.size)
  have hA3 := (hbA.block b hlt).trans H3.out
  have HA4 : Hid _ := isMine_below H4.out hbA
  have hgr : ∃ cs, w33.heap[g]? = some (.cells cs 23 (0, 0)) := by obtain ⟨_, _, e⟩ := mine_own HA4.out (k := g) rfl; exact e
  obtain ⟨cs, hcs⟩ := hgr
  have zr := (hbA.cell (p := ⟨g, 1, none⟩) HG.out.2).trans hr1
  have zf : w33.frozen? ⟨g, 1, none⟩ = false := frozen_block hcs
  have HN33 : Hid (opX lo w33 (.slice p9 O.length c9) O) := opX_grown (opX_of_new HN.out) hb33
  have HA3 : Hid _ := hA3
  have HBA : Hid (Below w.heap.size w w33) := hbA
  clear hbA hA3 hb30 hb31 hb32 hb33 hcs hb29 hb39 hb38 hb37
  go_simp
  refine hK _ _ (fun _ => ?_) ?_
  · exact (Below.heap_setCell w33 ⟨g, 1, none⟩ _ b (fun e => hgb e.symm)).trans HA3.out
  clear hK K
  refine anyZ_end (by kernel_rfl) ?_
  intro w34 hb34
  go_wp2
  go_end0
  refine ⟨rfl, ?_⟩
  obtain ⟨vs, q1, q2, q3⟩ := HA4.out
  obtain ⟨r1, r2⟩ := mine_put q1 q2 q3 HN33.out 1
  rw [HM.out] at r1
  have hbn : (w33.setCell ⟨g, 1, none⟩ (.slice p9 O.length c9)).heap[b]? = some (.cells (clCells who u S (.slice (some ⟨g, 0, none⟩) 2 c)) 203 (0, 0)) := (r2.2 b (Array.getElem?_eq_some_iff.1 HA3.out).1 fun e => hgb (Option.some.inj e)).trans HA3.out
  have hb3 := (hb34.block b (Array.getElem?_eq_some_iff.1 hbn).1).trans hbn
  refine isCl_mk HLO.out H3.out hb3 (isMine_below r1 hb34) (((sameBut_below HBA.out _).comp r2 fun k _ e => .inr e).trans (sameBut_below hb34 _)) fun k hk => .inl hk
end Go.Proofs.YtedgnlgjmnccgabGreatDoor
