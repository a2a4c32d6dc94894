/-
  ops.cut where some is left: a first part that keeps, drops or puts more.
-/
import Derived.Test.YtedgnlgjmnccgabGreatDoorOpsCut
namespace Go.Proofs.YtedgnlgjmnccgabGreatDoor
open Go.RowKit
set_option linter.unusedVariables false
attribute [local go_sem] Oper.semAt_some

theorem cell_set_off {w : World} {b o o' : Nat} {x : Value} (h : o ≠ o') : (w.setCell ⟨b, o, none⟩ x).cell? ⟨b, o', none⟩ = w.cell? ⟨b, o', none⟩ := World.cell?_setCell_other _ _ _ _ (by intro e; simp only [Addr.mk.injEq] at e; omega)
theorem three_set {w : World} {b : Nat} {y0 y1 y2 : Value} (r0 : w.cell? ⟨b, 0, none⟩ = some y0) (r1 : w.cell? ⟨b, 1, none⟩ = some y1) (r2 : w.cell? ⟨b, 2, none⟩ = some y2) (x0 x1 x2 : Value) :
    (w.setCell ⟨b, 0, none⟩ x0).cell? ⟨b, 0, none⟩ = some x0 ∧ ((w.setCell ⟨b, 0, none⟩ x0).setCell ⟨b, 1, none⟩ x1).cell? ⟨b, 1, none⟩ = some x1 ∧ (((w.setCell ⟨b, 0, none⟩ x0).setCell ⟨b, 1, none⟩ x1).setCell ⟨b, 2, none⟩ x2).cell? ⟨b, 2, none⟩ = some x2 ∧
    (((w.setCell ⟨b, 0, none⟩ x0).setCell ⟨b, 1, none⟩ x1).setCell ⟨b, 2, none⟩ x2).heap.size = w.heap.size ∧ ∀ k, k ≠ b → (((w.setCell ⟨b, 0, none⟩ x0).setCell ⟨b, 1, none⟩ x1).setCell ⟨b, 2, none⟩ x2).heap[k]? = w.heap[k]? := by
  have h1 : (w.setCell ⟨b, 0, none⟩ x0).cell? ⟨b, 1, none⟩ = some y1 := by rw [cell_set_off (by omega)]; exact r1
  have h2 : ((w.setCell ⟨b, 0, none⟩ x0).setCell ⟨b, 1, none⟩ x1).cell? ⟨b, 2, none⟩ = some y2 := by rw [cell_set_off (by omega), cell_set_off (by omega)]; exact r2
  refine ⟨World.cell?_setCell_same _ _ _ r0, World.cell?_setCell_same _ _ _ h1, World.cell?_setCell_same _ _ _ h2, by simp, fun k hk => ?_⟩
  rw [Below.heap_setCell _ _ _ _ (by show k ≠ b; exact hk), Below.heap_setCell _ _ _ _ (by show k ≠ b; exact hk), Below.heap_setCell _ _ _ _ (by show k ≠ b; exact hk)]
theorem ButO.trans' {g : Nat} {w A Z : World} (h : ButO g w A) (hs : Z.heap.size = A.heap.size) (hk : ∀ k, k < w.heap.size → Z.heap[k]? = A.heap[k]?) (ho : Z.os = A.os ∧ Z.tape = A.tape ∧ Z.output = A.output) : ButO g w Z :=
  ⟨ho.1.trans h.os, ho.2.1.trans h.tape, ho.2.2.trans h.output, by rw [hs]; exact h.size, fun k hk1 hk2 => (hk k hk1).trans (h.block k hk1 hk2)⟩

set_option maxRecDepth 100000 in
set_option maxHeartbeats 4000000 in
theorem cut_keep (g : Nat) (v : Value) (K : Int) (ps : List Pt) (n : Nat) (w : World) (h : winP w g v (⟨K, 0, []⟩ :: ps)) (h0 : 0 < n) (hn : (n : Int) < K) (hb : K < 1000000000) :
    Calls Tryz.prog 268 #[v, .int .i64 n] w fun e w' => ∃ v', e = .returned (.tuple #[partV ⟨n, 0, []⟩, v']) ∧ winP w' g v' (⟨K - n, 0, []⟩ :: ps) ∧ ButO g w w' := by
  have H : Hid (winP w g v (⟨K, 0, []⟩ :: ps)) := h
  obtain ⟨o, c, rfl, h1, h2, h3, h4, c0, c1, c2⟩ := winP_head h
  have cL : Hid (∀ wx, Calls Tryz.prog 267 #[partV ⟨K, 0, []⟩] wx fun e w' => e = .returned (.int .i64 K) ∧ Below wx.heap.size wx w') := fun wx => by
    have := length_any ⟨K, 0, []⟩ wx ⟨by simp <;> omega, by simp <;> omega⟩ (by simp <;> omega)
    simpa using this
  have cK := isKeep_any ⟨K, 0, []⟩
  have cD := isDrop_any ⟨K, 0, []⟩
  have hkd : decide (0 < (⟨K, 0, []⟩ : Pt).keep) = true := decide_eq_true (show 0 < K by omega)
  rw [hkd] at cK
  have hne : ¬ K = (n : Int) := by omega
  have hw1 : -9223372036854775808 ≤ K - (n : Int) := by omega
  have hw2 : K - (n : Int) < 9223372036854775808 := by omega
  simp only at c0 c1 c2
  have H4 : Hid (∀ j, w.frozen? ⟨g, j, none⟩ = false) := h4
  have hgw : ¬ g = w.heap.size := by omega
  have hwg : ¬ w.heap.size = g := by omega
  have C0 : Hid (w.cell? ⟨g, o, none⟩ = some (.int .i64 K)) := c0
  have C1 : Hid (w.cell? ⟨g, o + 1, none⟩ = some (.int .i64 0)) := c1
  have C2 : Hid (w.cell? ⟨g, o + 2, none⟩ = some (.string ⟨[].toArray⟩)) := c2
  have c0' : w.cell? ⟨g, o + 0, none⟩ = some (.int .i64 K) := c0
  have H3 : Hid (g < w.heap.size) := h3
  unfold partV at cL cK cD
  clear h hb h4
  go_enter Tryz.func268, Tryz.ntmps268
  go_wp2_with (first
    | (go_at_call 267; refine (cL.out _).mono ?_; rintro e w1 ⟨rfl, hb1⟩; obtain ⟨b1, b2, b3⟩ := two_boxes hb1; have HR1 : Hid (w1.heap[w.heap.size]? = some (.cells #[.int .i64 0, .int .i64 0, .string ⟨#[]⟩] 50 (0, 0))) := b1; have HP1 : Hid (w1.heap[w.heap.size + 1]? = some (.cells #[.int .i64 K, .int .i64 0, .string ⟨[].toArray⟩] 50 (0, 0))) := b2; have HB1 : Hid (Below w.heap.size w w1) := b3; have p0 : w1.cell? ⟨w.heap.size + 1, 0, none⟩ = some (.int .i64 K) := Lib.cell_of_heap b2 0; have p1 : w1.cell? ⟨w.heap.size + 1, 1, none⟩ = some (.int .i64 0) := Lib.cell_of_heap b2 1; have p2 : w1.cell? ⟨w.heap.size + 1, 2, none⟩ = some (.string ⟨[].toArray⟩) := Lib.cell_of_heap b2 2; clear b1 b2 b3 hb1)
    | (go_at_call 107; refine (cK _).mono ?_; rintro e w2 ⟨rfl, hb2⟩; have HR2 : Hid (w2.heap[w.heap.size]? = some (.cells #[.int .i64 0, .int .i64 0, .string ⟨#[]⟩] 50 (0, 0))) := (hb2.block _ (heap_lt HR1.out)).trans HR1.out; have HP2 : Hid (w2.heap[w.heap.size + 1]? = some (.cells #[.int .i64 K, .int .i64 0, .string ⟨[].toArray⟩] 50 (0, 0))) := (hb2.block _ (heap_lt HP1.out)).trans HP1.out; have HB2 : Hid (Below w.heap.size w w2) := HB1.out.trans (hb2.mono HB1.out.size); have r0 : w2.cell? ⟨w.heap.size, 0, none⟩ = some (.int .i64 0) := Lib.cell_of_heap HR2.out 0; have r1 : w2.cell? ⟨w.heap.size, 1, none⟩ = some (.int .i64 0) := Lib.cell_of_heap HR2.out 1; have r2 : w2.cell? ⟨w.heap.size, 2, none⟩ = some (.string ⟨#[]⟩) := Lib.cell_of_heap HR2.out 2; have rF : w2.frozen? ⟨w.heap.size, 0, none⟩ = false := frozen_of_heap HR2.out 0; have rF1 : w2.frozen? ⟨w.heap.size, 1, none⟩ = false := frozen_of_heap HR2.out 1; have rF2 : w2.frozen? ⟨w.heap.size, 2, none⟩ = false := frozen_of_heap HR2.out 2; have g0 : w2.cell? ⟨g, o, none⟩ = some (.int .i64 K) := (HB2.out.cell H3.out).trans C0.out; have g1 : w2.cell? ⟨g, o + 1, none⟩ = some (.int .i64 0) := (HB2.out.cell H3.out).trans C1.out; have g2 : w2.cell? ⟨g, o + 2, none⟩ = some (.string ⟨[].toArray⟩) := (HB2.out.cell H3.out).trans C2.out; have gF : w2.frozen? ⟨g, o, none⟩ = false := (HB2.out.frozen H3.out).trans (H4.out o); have gF1 : w2.frozen? ⟨g, o + 1, none⟩ = false := (HB2.out.frozen H3.out).trans (H4.out _); have gF2 : w2.frozen? ⟨g, o + 2, none⟩ = false := (HB2.out.frozen H3.out).trans (H4.out _); clear hb2)
    | fail)
  obtain ⟨A, hA⟩ : ∃ A, w2.setCell ⟨g, o + 0, none⟩ (.int .i64 (K - n)) = A := ⟨_, rfl⟩
  have hA' : w2.setCell ⟨g, o, none⟩ (.int .i64 (K - n)) = A := hA
  rw [hA']
  have hkeep : A.heap[w.heap.size]? = w2.heap[w.heap.size]? := by rw [← hA]; exact Below.heap_setCell _ _ _ _ (by show w.heap.size ≠ g; omega)
  have e0 : A.cell? ⟨w.heap.size, 0, none⟩ = some (.int .i64 0) := (World.cell?_of_block (w := w2) (a := ⟨w.heap.size, 0, none⟩) hkeep).trans r0
  have e1 : A.cell? ⟨w.heap.size, 1, none⟩ = some (.int .i64 0) := (World.cell?_of_block (w := w2) (a := ⟨w.heap.size, 1, none⟩) hkeep).trans r1
  have e2 : A.cell? ⟨w.heap.size, 2, none⟩ = some (.string ⟨#[]⟩) := (World.cell?_of_block (w := w2) (a := ⟨w.heap.size, 2, none⟩) hkeep).trans r2
  obtain ⟨s0, s1, s2, hs, hk⟩ := three_set e0 e1 e2 (.int .i64 n) (.int .i64 0) (.string ⟨#[]⟩)
  refine bodyPost_ret (v := .tuple #[.agg #[(.int .i64 n), (.int .i64 0), (.string ⟨#[]⟩)], .slice (some ⟨g, o, none⟩) (ps.length + 1) c]) (by simp [results, Tryz.results268, go_sem, s0, s1, s2]) rfl ?_
  have hfirst : winP A g (.slice (some ⟨g, o, none⟩) (ps.length + 1) c) (⟨K - n, 0, []⟩ :: ps) := by
    rw [← hA]
    exact winP_first H.out (by rw [World.size_setCell]; exact HB2.out.size) (fun j => by rw [World.frozen?_setCell]; exact HB2.out.frozen H3.out) (fun j hj => by rw [cell_set_off (by omega)]; exact HB2.out.cell H3.out)
      (World.cell?_setCell_same _ _ _ g0) (by rw [cell_set_off (by omega)]; exact g1) (by rw [cell_set_off (by omega)]; exact g2)
  have hbut : ButO g w A := by rw [← hA]; exact (ButO.of HB2.out).set _ _
  generalize hZ : ((A.setCell ⟨w.heap.size, 0, none⟩ (.int .i64 n)).setCell ⟨w.heap.size, 1, none⟩ (.int .i64 0)).setCell ⟨w.heap.size, 2, none⟩ (.string ⟨#[]⟩) = Z at *
  exact ⟨_, rfl, winP_kept hfirst (Nat.le_of_eq hs.symm) fun _ => hk g (by omega), hbut.trans' hs (fun k hk' => hk k (by omega)) (by rw [← hZ]; exact ⟨rfl, rfl, rfl⟩)⟩

set_option maxRecDepth 100000 in
set_option maxHeartbeats 4000000 in
theorem cut_drop (g : Nat) (v : Value) (K : Int) (ps : List Pt) (n : Nat) (w : World) (h : winP w g v (⟨0, K, []⟩ :: ps)) (h0 : 0 < n) (hn : (n : Int) < K) (hb : K < 1000000000) :
    Calls Tryz.prog 268 #[v, .int .i64 n] w fun e w' => ∃ v', e = .returned (.tuple #[partV ⟨0, n, []⟩, v']) ∧ winP w' g v' (⟨0, K - n, []⟩ :: ps) ∧ ButO g w w' := by
  have H : Hid (winP w g v (⟨0, K, []⟩ :: ps)) := h
  obtain ⟨o, c, rfl, h1, h2, h3, h4, c0, c1, c2⟩ := winP_head h
  have cL : Hid (∀ wx, Calls Tryz.prog 267 #[partV ⟨0, K, []⟩] wx fun e w' => e = .returned (.int .i64 K) ∧ Below wx.heap.size wx w') := fun wx => by
    have := length_any ⟨0, K, []⟩ wx ⟨by simp <;> omega, by simp <;> omega⟩ (by simp <;> omega)
    simpa using this
  have cK := isKeep_any ⟨0, K, []⟩
  have cD := isDrop_any ⟨0, K, []⟩
  have hkd : decide (0 < (⟨0, K, []⟩ : Pt).keep) = false := rfl
  have hdd : decide (0 < (⟨0, K, []⟩ : Pt).drop) = true := decide_eq_true (show 0 < K by omega)
  rw [hkd] at cK
  rw [hdd] at cD
  have hne : ¬ K = (n : Int) := by omega
  have hw1 : -9223372036854775808 ≤ K - (n : Int) := by omega
  have hw2 : K - (n : Int) < 9223372036854775808 := by omega
  simp only at c0 c1 c2
  have H4 : Hid (∀ j, w.frozen? ⟨g, j, none⟩ = false) := h4
  have hgw : ¬ g = w.heap.size := by omega
  have hwg : ¬ w.heap.size = g := by omega
  have C0 : Hid (w.cell? ⟨g, o, none⟩ = some (.int .i64 0)) := c0
  have C1 : Hid (w.cell? ⟨g, o + 1, none⟩ = some (.int .i64 K)) := c1
  have C2 : Hid (w.cell? ⟨g, o + 2, none⟩ = some (.string ⟨[].toArray⟩)) := c2
  have c0' : w.cell? ⟨g, o + 0, none⟩ = some (.int .i64 0) := c0
  have H3 : Hid (g < w.heap.size) := h3
  unfold partV at cL cK cD
  clear h hb h4
  go_enter Tryz.func268, Tryz.ntmps268
  go_wp2_with (first
    | (go_at_call 267; refine (cL.out _).mono ?_; rintro e w1 ⟨rfl, hb1⟩; obtain ⟨b1, b2, b3⟩ := two_boxes hb1; have HR1 : Hid (w1.heap[w.heap.size]? = some (.cells #[.int .i64 0, .int .i64 0, .string ⟨#[]⟩] 50 (0, 0))) := b1; have HP1 : Hid (w1.heap[w.heap.size + 1]? = some (.cells #[.int .i64 0, .int .i64 K, .string ⟨[].toArray⟩] 50 (0, 0))) := b2; have HB1 : Hid (Below w.heap.size w w1) := b3; have p0 : w1.cell? ⟨w.heap.size + 1, 0, none⟩ = some (.int .i64 0) := Lib.cell_of_heap b2 0; have p1 : w1.cell? ⟨w.heap.size + 1, 1, none⟩ = some (.int .i64 K) := Lib.cell_of_heap b2 1; have p2 : w1.cell? ⟨w.heap.size + 1, 2, none⟩ = some (.string ⟨[].toArray⟩) := Lib.cell_of_heap b2 2; clear b1 b2 b3 hb1)
    | (go_at_call 107; refine (cK _).mono ?_; rintro e w2 ⟨rfl, hb2⟩; have HR2 : Hid (w2.heap[w.heap.size]? = some (.cells #[.int .i64 0, .int .i64 0, .string ⟨#[]⟩] 50 (0, 0))) := (hb2.block _ (heap_lt HR1.out)).trans HR1.out; have HP2 : Hid (w2.heap[w.heap.size + 1]? = some (.cells #[.int .i64 0, .int .i64 K, .string ⟨[].toArray⟩] 50 (0, 0))) := (hb2.block _ (heap_lt HP1.out)).trans HP1.out; have HB2 : Hid (Below w.heap.size w w2) := HB1.out.trans (hb2.mono HB1.out.size); have p0 : w2.cell? ⟨w.heap.size + 1, 0, none⟩ = some (.int .i64 0) := Lib.cell_of_heap HP2.out 0; have p1 : w2.cell? ⟨w.heap.size + 1, 1, none⟩ = some (.int .i64 K) := Lib.cell_of_heap HP2.out 1; have p2 : w2.cell? ⟨w.heap.size + 1, 2, none⟩ = some (.string ⟨[].toArray⟩) := Lib.cell_of_heap HP2.out 2; clear hb2)
    | (go_at_call 211; refine (cD _).mono ?_; rintro e w3 ⟨rfl, hb3⟩; have HR3 : Hid (w3.heap[w.heap.size]? = some (.cells #[.int .i64 0, .int .i64 0, .string ⟨#[]⟩] 50 (0, 0))) := (hb3.block _ (heap_lt HR2.out)).trans HR2.out; have HP3 : Hid (w3.heap[w.heap.size + 1]? = some (.cells #[.int .i64 0, .int .i64 K, .string ⟨[].toArray⟩] 50 (0, 0))) := (hb3.block _ (heap_lt HP2.out)).trans HP2.out; have HB3 : Hid (Below w.heap.size w w3) := HB2.out.trans (hb3.mono HB2.out.size); have r0 : w3.cell? ⟨w.heap.size, 0, none⟩ = some (.int .i64 0) := Lib.cell_of_heap HR3.out 0; have r1 : w3.cell? ⟨w.heap.size, 1, none⟩ = some (.int .i64 0) := Lib.cell_of_heap HR3.out 1; have r2 : w3.cell? ⟨w.heap.size, 2, none⟩ = some (.string ⟨#[]⟩) := Lib.cell_of_heap HR3.out 2; have rF : w3.frozen? ⟨w.heap.size, 0, none⟩ = false := frozen_of_heap HR3.out 0; have rF1 : w3.frozen? ⟨w.heap.size, 1, none⟩ = false := frozen_of_heap HR3.out 1; have rF2 : w3.frozen? ⟨w.heap.size, 2, none⟩ = false := frozen_of_heap HR3.out 2; have g0 : w3.cell? ⟨g, o, none⟩ = some (.int .i64 0) := (HB3.out.cell H3.out).trans C0.out; have g1 : w3.cell? ⟨g, o + 1, none⟩ = some (.int .i64 K) := (HB3.out.cell H3.out).trans C1.out; have g2 : w3.cell? ⟨g, o + 2, none⟩ = some (.string ⟨[].toArray⟩) := (HB3.out.cell H3.out).trans C2.out; have gF : w3.frozen? ⟨g, o, none⟩ = false := (HB3.out.frozen H3.out).trans (H4.out o); have gF1 : w3.frozen? ⟨g, o + 1, none⟩ = false := (HB3.out.frozen H3.out).trans (H4.out _); have gF2 : w3.frozen? ⟨g, o + 2, none⟩ = false := (HB3.out.frozen H3.out).trans (H4.out _); clear hb3)
    | fail)
  obtain ⟨A, hA⟩ : ∃ A, w3.setCell ⟨g, o + 1, none⟩ (.int .i64 (K - n)) = A := ⟨_, rfl⟩
  have hA' := hA
  rw [hA']
  have hkeep : A.heap[w.heap.size]? = w3.heap[w.heap.size]? := by rw [← hA]; exact Below.heap_setCell _ _ _ _ (by show w.heap.size ≠ g; omega)
  have e0 : A.cell? ⟨w.heap.size, 0, none⟩ = some (.int .i64 0) := (World.cell?_of_block (w := w3) (a := ⟨w.heap.size, 0, none⟩) hkeep).trans r0
  have e1 : A.cell? ⟨w.heap.size, 1, none⟩ = some (.int .i64 0) := (World.cell?_of_block (w := w3) (a := ⟨w.heap.size, 1, none⟩) hkeep).trans r1
  have e2 : A.cell? ⟨w.heap.size, 2, none⟩ = some (.string ⟨#[]⟩) := (World.cell?_of_block (w := w3) (a := ⟨w.heap.size, 2, none⟩) hkeep).trans r2
  obtain ⟨s0, s1, s2, hs, hk⟩ := three_set e0 e1 e2 (.int .i64 0) (.int .i64 n) (.string ⟨#[]⟩)
  refine bodyPost_ret (v := .tuple #[.agg #[(.int .i64 0), (.int .i64 n), (.string ⟨#[]⟩)], .slice (some ⟨g, o, none⟩) (ps.length + 1) c]) (by simp [results, Tryz.results268, go_sem, s0, s1, s2]) rfl ?_
  have hfirst : winP A g (.slice (some ⟨g, o, none⟩) (ps.length + 1) c) (⟨0, K - n, []⟩ :: ps) := by
    rw [← hA]
    exact winP_first H.out (by rw [World.size_setCell]; exact HB3.out.size) (fun j => by rw [World.frozen?_setCell]; exact HB3.out.frozen H3.out) (fun j hj => by rw [cell_set_off (by omega)]; exact HB3.out.cell H3.out)
      (by rw [cell_set_off (by omega)]; exact g0) (World.cell?_setCell_same _ _ _ g1) (by rw [cell_set_off (by omega)]; exact g2)
  have hbut : ButO g w A := by rw [← hA]; exact (ButO.of HB3.out).set _ _
  generalize hZ : ((A.setCell ⟨w.heap.size, 0, none⟩ (.int .i64 0)).setCell ⟨w.heap.size, 1, none⟩ (.int .i64 n)).setCell ⟨w.heap.size, 2, none⟩ (.string ⟨#[]⟩) = Z at *
  exact ⟨_, rfl, winP_kept hfirst (Nat.le_of_eq hs.symm) fun _ => hk g (by omega), hbut.trans' hs (fun k hk' => hk k (by omega)) (by rw [← hZ]; exact ⟨rfl, rfl, rfl⟩)⟩

set_option maxRecDepth 100000 in
set_option maxHeartbeats 4000000 in
theorem cut_put (g : Nat) (v : Value) (U : List UInt8) (ps : List Pt) (n : Nat) (w : World) (h : winP w g v (⟨0, 0, U⟩ :: ps)) (h0 : 0 < n) (hn : n < U.length) (hb : U.length < 1000000000) :
    Calls Tryz.prog 268 #[v, .int .i64 n] w fun e w' => ∃ v', e = .returned (.tuple #[partV ⟨0, 0, U.take n⟩, v']) ∧ winP w' g v' (⟨0, 0, U.drop n⟩ :: ps) ∧ ButO g w w' := by
  have H : Hid (winP w g v (⟨0, 0, U⟩ :: ps)) := h
  obtain ⟨o, c, rfl, h1, h2, h3, h4, c0, c1, c2⟩ := winP_head h
  have cL : Hid (∀ wx, Calls Tryz.prog 267 #[partV ⟨0, 0, U⟩] wx fun e w' => e = .returned (.int .i64 (U.length : Int)) ∧ Below wx.heap.size wx w') := fun wx => by
    have := length_any ⟨0, 0, U⟩ wx ⟨by simp <;> omega, by simp <;> omega⟩ (by simp <;> omega)
    simpa using this
  have cK := isKeep_any ⟨0, 0, U⟩
  have cD := isDrop_any ⟨0, 0, U⟩
  have hkd : decide (0 < (⟨0, 0, U⟩ : Pt).keep) = false := rfl
  have hdd : decide (0 < (⟨0, 0, U⟩ : Pt).drop) = false := rfl
  rw [hkd] at cK
  rw [hdd] at cD
  have hne : ¬ (U.length : Int) = (n : Int) := by omega
  have hz : (ByteArray.mk U.toArray).size = U.length := by simp [ByteArray.size]
  have hle : n ≤ U.length := by omega
  simp only at c0 c1 c2
  have H4 : Hid (∀ j, w.frozen? ⟨g, j, none⟩ = false) := h4
  have hgw : ¬ g = w.heap.size := by omega
  have hwg : ¬ w.heap.size = g := by omega
  have C0 : Hid (w.cell? ⟨g, o, none⟩ = some (.int .i64 0)) := c0
  have C1 : Hid (w.cell? ⟨g, o + 1, none⟩ = some (.int .i64 0)) := c1
  have C2 : Hid (w.cell? ⟨g, o + 2, none⟩ = some (.string ⟨U.toArray⟩)) := c2
  have c0' : w.cell? ⟨g, o + 0, none⟩ = some (.int .i64 0) := c0
  have H3 : Hid (g < w.heap.size) := h3
  unfold partV at cL cK cD
  clear h hb h4
  go_enter Tryz.func268, Tryz.ntmps268
  go_wp2_with (first
    | (go_at_call 267; refine (cL.out _).mono ?_; rintro e w1 ⟨rfl, hb1⟩; obtain ⟨b1, b2, b3⟩ := two_boxes hb1; have HR1 : Hid (w1.heap[w.heap.size]? = some (.cells #[.int .i64 0, .int .i64 0, .string ⟨#[]⟩] 50 (0, 0))) := b1; have HP1 : Hid (w1.heap[w.heap.size + 1]? = some (.cells #[.int .i64 0, .int .i64 0, .string ⟨U.toArray⟩] 50 (0, 0))) := b2; have HB1 : Hid (Below w.heap.size w w1) := b3; have p0 : w1.cell? ⟨w.heap.size + 1, 0, none⟩ = some (.int .i64 0) := Lib.cell_of_heap b2 0; have p1 : w1.cell? ⟨w.heap.size + 1, 1, none⟩ = some (.int .i64 0) := Lib.cell_of_heap b2 1; have p2 : w1.cell? ⟨w.heap.size + 1, 2, none⟩ = some (.string ⟨U.toArray⟩) := Lib.cell_of_heap b2 2; clear b1 b2 b3 hb1)
    | (go_at_call 107; refine (cK _).mono ?_; rintro e w2 ⟨rfl, hb2⟩; have HR2 : Hid (w2.heap[w.heap.size]? = some (.cells #[.int .i64 0, .int .i64 0, .string ⟨#[]⟩] 50 (0, 0))) := (hb2.block _ (heap_lt HR1.out)).trans HR1.out; have HP2 : Hid (w2.heap[w.heap.size + 1]? = some (.cells #[.int .i64 0, .int .i64 0, .string ⟨U.toArray⟩] 50 (0, 0))) := (hb2.block _ (heap_lt HP1.out)).trans HP1.out; have HB2 : Hid (Below w.heap.size w w2) := HB1.out.trans (hb2.mono HB1.out.size); have p0 : w2.cell? ⟨w.heap.size + 1, 0, none⟩ = some (.int .i64 0) := Lib.cell_of_heap HP2.out 0; have p1 : w2.cell? ⟨w.heap.size + 1, 1, none⟩ = some (.int .i64 0) := Lib.cell_of_heap HP2.out 1; have p2 : w2.cell? ⟨w.heap.size + 1, 2, none⟩ = some (.string ⟨U.toArray⟩) := Lib.cell_of_heap HP2.out 2; clear hb2)
    | (go_at_call 211; refine (cD _).mono ?_; rintro e w3 ⟨rfl, hb3⟩; have HR3 : Hid (w3.heap[w.heap.size]? = some (.cells #[.int .i64 0, .int .i64 0, .string ⟨#[]⟩] 50 (0, 0))) := (hb3.block _ (heap_lt HR2.out)).trans HR2.out; have HP3 : Hid (w3.heap[w.heap.size + 1]? = some (.cells #[.int .i64 0, .int .i64 0, .string ⟨U.toArray⟩] 50 (0, 0))) := (hb3.block _ (heap_lt HP2.out)).trans HP2.out; have HB3 : Hid (Below w.heap.size w w3) := HB2.out.trans (hb3.mono HB2.out.size); have r0 : w3.cell? ⟨w.heap.size, 0, none⟩ = some (.int .i64 0) := Lib.cell_of_heap HR3.out 0; have r1 : w3.cell? ⟨w.heap.size, 1, none⟩ = some (.int .i64 0) := Lib.cell_of_heap HR3.out 1; have r2 : w3.cell? ⟨w.heap.size, 2, none⟩ = some (.string ⟨#[]⟩) := Lib.cell_of_heap HR3.out 2; have rF : w3.frozen? ⟨w.heap.size, 0, none⟩ = false := frozen_of_heap HR3.out 0; have rF1 : w3.frozen? ⟨w.heap.size, 1, none⟩ = false := frozen_of_heap HR3.out 1; have rF2 : w3.frozen? ⟨w.heap.size, 2, none⟩ = false := frozen_of_heap HR3.out 2; have g0 : w3.cell? ⟨g, o, none⟩ = some (.int .i64 0) := (HB3.out.cell H3.out).trans C0.out; have g1 : w3.cell? ⟨g, o + 1, none⟩ = some (.int .i64 0) := (HB3.out.cell H3.out).trans C1.out; have g2 : w3.cell? ⟨g, o + 2, none⟩ = some (.string ⟨U.toArray⟩) := (HB3.out.cell H3.out).trans C2.out; have gF : w3.frozen? ⟨g, o, none⟩ = false := (HB3.out.frozen H3.out).trans (H4.out o); have gF1 : w3.frozen? ⟨g, o + 1, none⟩ = false := (HB3.out.frozen H3.out).trans (H4.out _); have gF2 : w3.frozen? ⟨g, o + 2, none⟩ = false := (HB3.out.frozen H3.out).trans (H4.out _); have p0 : w3.cell? ⟨w.heap.size + 1, 0, none⟩ = some (.int .i64 0) := Lib.cell_of_heap HP3.out 0; have p1 : w3.cell? ⟨w.heap.size + 1, 1, none⟩ = some (.int .i64 0) := Lib.cell_of_heap HP3.out 1; have p2 : w3.cell? ⟨w.heap.size + 1, 2, none⟩ = some (.string ⟨U.toArray⟩) := Lib.cell_of_heap HP3.out 2; clear hb3)
    | fail)
  obtain ⟨A, hA⟩ : ∃ A, w3.setCell ⟨g, o + 2, none⟩ (.string ((ByteArray.mk U.toArray).extract n U.length)) = A := ⟨_, rfl⟩
  have hA' := hA
  rw [hA']
  have hkeep : A.heap[w.heap.size]? = w3.heap[w.heap.size]? := by rw [← hA]; exact Below.heap_setCell _ _ _ _ (by show w.heap.size ≠ g; omega)
  have e0 : A.cell? ⟨w.heap.size, 0, none⟩ = some (.int .i64 0) := (World.cell?_of_block (w := w3) (a := ⟨w.heap.size, 0, none⟩) hkeep).trans r0
  have e1 : A.cell? ⟨w.heap.size, 1, none⟩ = some (.int .i64 0) := (World.cell?_of_block (w := w3) (a := ⟨w.heap.size, 1, none⟩) hkeep).trans r1
  have e2 : A.cell? ⟨w.heap.size, 2, none⟩ = some (.string ⟨#[]⟩) := (World.cell?_of_block (w := w3) (a := ⟨w.heap.size, 2, none⟩) hkeep).trans r2
  obtain ⟨s0, s1, s2, hs, hk⟩ := three_set e0 e1 e2 (.int .i64 0) (.int .i64 0) (.string ((ByteArray.mk U.toArray).extract 0 n))
  refine bodyPost_ret (v := .tuple #[.agg #[(.int .i64 0), (.int .i64 0), (.string ((ByteArray.mk U.toArray).extract 0 n))], .slice (some ⟨g, o, none⟩) (ps.length + 1) c]) (by simp [results, Tryz.results268, go_sem, s0, s1, s2]) rfl ?_
  have hfirst : winP A g (.slice (some ⟨g, o, none⟩) (ps.length + 1) c) (⟨0, 0, U.drop n⟩ :: ps) := by
    rw [← hA]
    exact winP_first H.out (by rw [World.size_setCell]; exact HB3.out.size) (fun j => by rw [World.frozen?_setCell]; exact HB3.out.frozen H3.out) (fun j hj => by rw [cell_set_off (by omega)]; exact HB3.out.cell H3.out)
      (by rw [cell_set_off (by omega)]; exact g0) (by rw [cell_set_off (by omega)]; exact g1) ((World.cell?_setCell_same _ _ _ g2).trans (by rw [cut_tail]))
  have hbut : ButO g w A := by rw [← hA]; exact (ButO.of HB3.out).set _ _
  generalize hZ : ((A.setCell ⟨w.heap.size, 0, none⟩ (.int .i64 0)).setCell ⟨w.heap.size, 1, none⟩ (.int .i64 0)).setCell ⟨w.heap.size, 2, none⟩ (.string ((ByteArray.mk U.toArray).extract 0 n)) = Z at *
  exact ⟨_, by rw [cut_head]; rfl, winP_kept hfirst (Nat.le_of_eq hs.symm) fun _ => hk g (by omega), hbut.trans' hs (fun k hk' => hk k (by omega)) (by rw [← hZ]; exact ⟨rfl, rfl, rfl⟩)⟩
end Go.Proofs.YtedgnlgjmnccgabGreatDoor
