/-
  server.own: an operation in memory of its own.
-/
import Derived.Test.YtedgnlgjmnccgabGreatDoorSrvBase
import Derived.Test.YtedgnlgjmnccgabGreatDoorSrvPure
import Derived.Test.YtedgnlgjmnccgabGreatDoorShelfK
namespace Go.Proofs.YtedgnlgjmnccgabGreatDoor
open Go.RowKit
set_option linter.unusedVariables false
attribute [local go_sem] Oper.semAt_some

theorem cloneS_any (u : List UInt8) (hu : u.length ≤ 10000000) (w : World) : Calls Tryz.prog 112 #[.string ⟨u.toArray⟩] w fun e w' => e = .returned (.string ⟨u.toArray⟩) ∧ Below w.heap.size w w' := by
  have c := Tryz.stringslite_Clone ⟨u.toArray⟩ w (by simp [ByteArray.size]; omega)
  have C : Hid _ := c
  clear c
  go_enter Tryz.func112, Tryz.ntmps112
  go_wp2_with (first | (go_at_call 176; refine Calls.mono C.out ?_; rintro e w1 ⟨rfl, hb1⟩) | fail)
  go_ret
  exact ⟨rfl, hb1⟩
theorem cellsP_snocS (l : List Pt) (q : Pt) : cellsP (l ++ [q]) = cellsP l ++ partCells q := by simp [cellsP]
theorem cells_newS (w : World) (n : Nat) (hn : w.heap.size = n) (l : List Value) (t : TypeId) : ∀ j u, l[j]? = some u → (w.alloc (.cells l.toArray t)).cell? ((⟨n, 0, none⟩ : Addr).add j) = some u := by
  subst hn
  intro j u hj
  rw [Addr.add_lit, Nat.zero_add]
  have h := heap_alloc_new w (.cells l.toArray t)
  unfold World.cell?
  rw [h]
  simpa using hj
theorem own_setS {w : World} {B e size n b o : Nat} {v : Value} {xs : List Value} (h : w.ownsRow B e size v n xs) (hb : ∀ j, v.ownBlock = some j → j < b) (u : Value) : (w.setCell ⟨b, o, none⟩ u).ownsRow B e size v n xs :=
  own_same (S := fun k => k = b) h (sameBut_set rfl) fun k hk e => by have := hb k hk; omega

set_option maxRecDepth 100000 in
set_option maxHeartbeats 2000000 in
theorem own_any (v : Value) (ps : List Pt) (w : World) (hr : opAt w v ps) (hpl : ∀ q ∈ ps, q.put.length ≤ 10000000) (hl : ps.length ≤ 10000000) :
    Calls Tryz.prog 116 #[v] w fun e w' => ∃ v', e = .returned v' ∧ w'.ownsRow w.heap.size 50 3 v' ps.length (cellsP ps) ∧ Below w.heap.size w w' := by
  have HOP : Hid (opAt w v ps) := hr
  have HPL : Hid (∀ q ∈ ps, q.put.length ≤ 10000000) := hpl
  obtain ⟨p, c, rfl, r1, r2, _⟩ := hr
  unfold maxLen at r2
  obtain ⟨n, hn⟩ : ∃ n, ps.length = n := ⟨_, rfl⟩
  have HN : Hid (ps.length = n) := hn
  rw [hn] at r1 hl ⊢
  obtain ⟨i0, hi, hz0, hz1, hz2⟩ := info_parts info_part
  clear hpl hn
  go_enter Tryz.func116, Tryz.ntmps116
  go_wp2
  go_loopw [3, 8] (fun v3 i wr => ∃ k : Nat, i = .int .i64 k ∧ k ≤ n ∧ wr.ownsRow w.heap.size 50 3 v3 k (cellsP (ps.take k)) ∧ Below w.heap.size w wr) (fun _ i _ => n - (intOf i).toNat)
  case atStart => exact ⟨0, rfl, Nat.zero_le _, World.ownsRow_nil _ _ _ _, Below.refl _ _⟩
  case round =>
    obtain ⟨k, rfl, hk, hown, hbw⟩ := hrel
    obtain ⟨pv, cv, rfl⟩ := own_slice hown
    have HOW : Hid (wr.ownsRow w.heap.size 50 3 (.slice pv k cv) k (cellsP (ps.take k))) := hown
    have HBW : Hid (Below w.heap.size w wr) := hbw
    have hws := hbw.size
    have HWS : Hid (w.heap.size ≤ wr.heap.size) := hws
    by_cases hlt : k < n
    · have hkr : k < ps.length := by rw [HN.out]; exact hlt
      have hne : ps ≠ [] := by intro e; rw [e] at hkr; exact absurd hkr (Nat.not_lt_zero _)
      obtain ⟨p0, c0, hvv, _, _, hcell⟩ := HOP.out
      obtain ⟨b0, o, rfl, hb0, hcell⟩ := hcell hne
      obtain ⟨f0, f1, f2⟩ := hcell k ps[k] (List.getElem?_eq_getElem hkr)
      have g0 := (HBW.out.cell (p := ⟨b0, o + k * 3, none⟩) hb0).trans f0
      have g1 := (HBW.out.cell (p := ⟨b0, o + k * 3 + 1, none⟩) hb0).trans f1
      have g2 := (HBW.out.cell (p := ⟨b0, o + k * 3 + 2, none⟩) hb0).trans f2
      obtain rfl : p = some ⟨b0, o, none⟩ := by injection hvv
      have hplq := HPL.out _ (List.getElem_mem hkr)
      have HTK : Hid (cellsP (ps.take (k + 1)) = cellsP (ps.take k) ++ partCells ps[k]) := show _ = _ by rw [List.take_succ_eq_append_getElem hkr, cellsP_snocS]
      have hki : (k : Int) < (n : Int) := by omega
      clear hcell hvv f0 f1 f2 hne hown hbw
      generalize ps[k] = q at *
      obtain ⟨K, D, U⟩ := q
      simp only at g0 g1 g2 hplq
      have CL : Hid (∀ wx, Calls Tryz.prog 112 #[.string ⟨U.toArray⟩] wx fun e w' => e = .returned (.string ⟨U.toArray⟩) ∧ Below wx.heap.size wx w') := fun wx => cloneS_any U hplq wx
      obtain ⟨β, hβ⟩ : ∃ β, wr.heap.size = β := ⟨_, rfl⟩
      have HBT : Hid (wr.heap.size = β) := hβ
      go_wp2_with (first
        | (go_at_call 112; refine (CL.out _).mono ?_; rintro e w2 ⟨rfl, hb2⟩
           have hbox : w2.heap[β]? = some (.cells #[.int .i64 K, .int .i64 D, .string ⟨U.toArray⟩] 50 (0, 0)) := (hb2.block β (by rw [World.size_alloc, HBT.out]; omega)).trans (by have := heap_alloc_new wr (.cells #[.int .i64 K, .int .i64 D, .string ⟨U.toArray⟩] 50); rwa [HBT.out] at this)
           have x0 : w2.cell? ⟨β, 0, none⟩ = some (.int .i64 K) := Lib.cell_of_heap hbox 0
           have x1 : w2.cell? ⟨β, 1, none⟩ = some (.int .i64 D) := Lib.cell_of_heap hbox 1
           have x2 : w2.cell? ⟨β, 2, none⟩ = some (.string ⟨U.toArray⟩) := Lib.cell_of_heap hbox 2
           have xf : w2.frozen? ⟨β, 2, none⟩ = false := by unfold World.frozen?; simp [hbox]
           have HB2 : Hid (Below w.heap.size w w2) := (HBW.out.alloc HWS.out _).trans (hb2.mono (by rw [World.size_alloc]; have := HWS.out; omega))
           have HO2 : Hid (w2.ownsRow w.heap.size 50 3 (.slice pv k cv) k (cellsP (ps.take k))) := own_below (HOW.out.alloc _) hb2
           have hs2 : β + 1 ≤ w2.heap.size := by have := hb2.size; rw [World.size_alloc, HBT.out] at this; exact this
           have HS2 : Hid (β + 1 ≤ w2.heap.size) := hs2
           have HNE : Hid (∀ j, (Value.slice pv k cv).ownBlock = some j → j < β) := fun j hj => HBT.out ▸ (HOW.out.lt j hj).2
           clear hb2 hbox)
        | (at_builtin; refine wpList_append_own _ rfl _ _ 23 rfl w.heap.size 50 i0 (.agg #[.int .i64 0, .int .i64 0, .string ⟨#[]⟩]) 3 32 Tryz.underlying23 hi hz0 hz1 hz2 rfl (by decide) _ _ _ rfl ((own_setS HO2.out HNE.out _).alloc _) ⟨w2.heap.size, 0, none⟩ 1 1 (partCells ⟨K, D, U⟩) rfl rfl (cells_newS _ _ (by first | rfl | simp) _ _) (partCells_one _) (by unfold maxLen; omega) (by omega) (by have := HWS.out; have := HS2.out; have := HBT.out; simp; omega) ?_)
        | fail)
      intro v' w3 hown' hg' _
      obtain ⟨p', c', rfl⟩ := own_slice hown'
      have HO3 : Hid (w3.ownsRow w.heap.size 50 3 (.slice p' (k + 1) c') (k + 1) (cellsP (ps.take k) ++ partCells ⟨K, D, U⟩)) := hown'
      have HB3 : Hid (Below w.heap.size w w3) := ((HB2.out.setCell (p := ⟨β, 2, none⟩) (by show w.heap.size ≤ β; have := HWS.out; have := HBT.out; omega) _).alloc (by rw [World.size_setCell]; exact HB2.out.size) _).grown hg' (by simp; have := HB2.out.size; omega) fun j hj => (HO2.out.lt j hj).1
      clear hown' hg' x0 x1 x2 xf g0 g1 g2
      go_wp2
      refine ⟨⟨k + 1, by go_num, by omega, ?_, HB3.out⟩, by simp [intOf]; omega⟩
      rw [HTK.out]
      exact HO3.out
    · obtain rfl : k = n := by omega
      have hki : ¬ ((k : Int) < (k : Int)) := by omega
      have HTK : Hid (ps.take k = ps) := show _ = _ by rw [← HN.out]; exact List.take_length
      clear hown hbw
      go_wp2
      go_ret
      have := HOW.out
      rw [HTK.out] at this
      exact ⟨_, rfl, this, HBW.out⟩
end Go.Proofs.YtedgnlgjmnccgabGreatDoor
