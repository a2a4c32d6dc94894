/-
  rosettakeep.plays.
-/
import Derived.Test.YtedgnlgjmnccgabGreatDoorKeepStep
import Derived.Test.YtedgnlgjmnccgabGreatDoorRoomQuiet
import Derived.Test.YtedgnlgjmnccgabGreatDoorRoomLose
import Derived.Test.YtedgnlgjmnccgabGreatDoorShapeLaw
import Derived.Test.YtedgnlgjmnccgabGreatDoorFit
import Derived.Test.YtedgnlgjmnccgabGreatDoorRegionLate
namespace Go.Proofs.YtedgnlgjmnccgabGreatDoor
open Go.RowKit Go.Maps
set_option linter.unusedVariables false
attribute [local go_sem] Oper.semAt_some yieldsUpon okUpon

set_option maxHeartbeats 1000000 in
theorem pick_wide (a m : Int) (ha : -9223372036854775808 ≤ a ∧ a < 9223372036854775808) (h0 : 0 < m) (hm : m < 1000000) (w : World) :
    Calls Tryz.prog 20 #[.int .i64 a, .int .i64 m] w fun e w' => e = .returned (.int .i64 (pk a m)) ∧ Below w.heap.size w w' := by
  obtain ⟨a1, a2⟩ := ha
  have hne : m ≠ 0 := by omega
  have e1 : IntKind.u64.wrap m = m := by rw [IntKind.wrap_u64]; omega
  go_enter Tryz.func20, Tryz.ntmps20
  go_wp2
  go_ret
  have h1 : 0 ≤ IntKind.u64.wrap a := by rw [IntKind.wrap_u64]; omega
  have h2 : (IntKind.u64.wrap a).tmod m = IntKind.u64.wrap a % m := Int.tmod_eq_emod_of_nonneg h1
  have h3 := Int.emod_nonneg (IntKind.u64.wrap a) hne
  have h4 := Int.emod_lt_of_pos (IntKind.u64.wrap a) h0
  have h5 : wrap64 ((IntKind.u64.wrap a).tmod m) = pk a m := by rw [h2]; unfold wrap64 pk; omega
  exact ⟨by rw [← h5]; rfl, Below.refl _ _⟩
theorem pick_nat (a : Int) (m : Nat) (ha : -9223372036854775808 ≤ a ∧ a < 9223372036854775808) (h0 : 0 < m) (hm : m < 1000000) : ∃ k : Nat, k < m ∧ ∀ w, Calls Tryz.prog 20 #[.int .i64 a, .int .i64 (m : Int)] w fun e w' => e = .returned (.int .i64 (k : Int)) ∧ Below w.heap.size w w' := by
  obtain ⟨h1, h2⟩ := pk_bd a m (by omega)
  refine ⟨(pk a m).toNat, by omega, fun w => (pick_wide a m ha (by omega) (by omega) w).mono ?_⟩
  rintro e w' ⟨rfl, hb⟩
  exact ⟨by rw [Int.toNat_of_nonneg h1], hb⟩
/-- The room, and all that the walks want of it. -/
structure Rok (lo : Nat) (w : World) (r bx bmx : Nat) (bs : List Nat) (l0 n : Int) (D : List (List UInt8)) (R : Rm) : Prop where
  env : Env lo w
  room : isRoom lo w r bx bmx bs R
  inv : Inv l0 n D R
  inv2 : Inv2 R
  num : n ≤ 10000
  pot : potR R ≤ 10000000
  one : 1 ≤ bs.length
  len : bs.length ≤ 6
theorem Rok.cl {lo : Nat} {w : World} {r bx bmx : Nat} {bs : List Nat} {l0 n : Int} {D : List (List UInt8)} {R : Rm} (h : Rok lo w r bx bmx bs l0 n D R) : bs.length = R.cl.length := h.room.cls.len
theorem Rok.grow {lo : Nat} {w w' : World} {r bx bmx : Nat} {bs : List Nat} {l0 n : Int} {D : List (List UInt8)} {R : Rm} (h : Rok lo w r bx bmx bs l0 n D R) (hb : Below w.heap.size w w') : Rok lo w' r bx bmx bs l0 n D R := ⟨h.env.below hb, isRoom_below h.room hb, h.inv, h.inv2, h.num, h.pot, h.one, h.len⟩
/-- What an act leaves. -/
def LeftK (one : Prop) (lo : Nat) (w : World) (r bx bmx : Nat) (bs : List Nat) (l0 n : Int) (D : List (List UInt8)) (R : Rm) (w' : World) : Prop :=
  sameBut w w' (touchM lo w bmx) ∧ ∃ R', isRoom lo w' r bx bmx bs R' ∧ Stp one l0 n D R R'
theorem LeftK.same {one : Prop} {lo : Nat} {w : World} {r bx bmx : Nat} {bs : List Nat} {l0 n : Int} {D : List (List UInt8)} {R : Rm} {w' : World} (h : Rok lo w r bx bmx bs l0 n D R) (hb : Below w.heap.size w w') : LeftK one lo w r bx bmx bs l0 n D R w' :=
  ⟨sameBut_below hb _, R, isRoom_below h.room hb, stp_same h.inv h.inv2⟩
theorem box4 {w w1 : World} {β : Nat} {a0 a1 a2 a3 : Value} {T : TypeId} (h : w.heap.size = β) (hb : Below (w.alloc (.cells #[a0, a1, a2, a3] T)).heap.size (w.alloc (.cells #[a0, a1, a2, a3] T)) w1) : w1.heap[β]? = some (.cells #[a0, a1, a2, a3] T (0, 0)) ∧ Below w.heap.size w w1 := by
  subst h
  exact ⟨(hb.block _ (by rw [World.size_alloc]; omega)).trans (heap_alloc_new w (.cells #[a0, a1, a2, a3] T)), ((Below.refl _ _).alloc (Nat.le_refl _) _).trans (hb.mono (by rw [World.size_alloc]; omega))⟩
theorem box_gr {w w' : World} {β : Nat} {o : Obj} (h : w.heap[β]? = some o) (hb : Below w.heap.size w w') : w'.heap[β]? = some o := (hb.block β (Array.getElem?_eq_some_iff.1 h).1).trans h
set_option maxRecDepth 100000 in
set_option maxHeartbeats 4000000 in
theorem plays_send {lo : Nat} {w : World} {r bx bmx : Nat} {bs : List Nat} {l0 n : Int} {D : List (List UInt8)} {R : Rm} (h : Rok lo w r bx bmx bs l0 n D R) (kk pp : Int) (hkk : -9223372036854775808 ≤ kk ∧ kk < 9223372036854775808) (hpp : -9223372036854775808 ≤ pp ∧ pp < 9223372036854775808) (v : Value) :
    Calls Tryz.prog 79 #[.pointer (some ⟨r, 0, none⟩), .int .i64 (bs.length : Int), .agg #[.int .i64 1, .int .i64 kk, .int .i64 pp, v]] w fun e w' => e = .returned (.bool true) ∧ LeftK True lo w r bx bmx bs l0 n D R w' := by
  obtain ⟨k, hk, PK⟩ := pick_nat kk bs.length hkk (by have := h.one; omega) (by have := h.len; omega)
  have HPK : Hid _ := PK
  have HR : Hid _ := h
  have HMY : Hid (∀ wx, Below w.heap.size w wx → Calls Tryz.prog 73 #[.pointer (some ⟨r, 0, none⟩)] wx fun e w' => e = .returned (.int .i64 (R.fl.length : Int)) ∧ Below wx.heap.size wx w') := fun wx hb => rmMany_any (h.grow hb).room
  have hfl := h.inv.room
  obtain ⟨β, hβ⟩ : ∃ β, w.heap.size = β := ⟨_, rfl⟩
  have HBT : Hid (w.heap.size = β) := hβ
  by_cases hf : R.fl.length = 0
  · have hgt : ¬ (0 : Int) < (0 : Int) := by decide
    have HCQ : Hid (∀ wx, Below w.heap.size w wx → Calls Tryz.prog 64 #[.pointer (some ⟨r, 0, none⟩), .int .i64 (k : Int)] wx fun e w' => e = .returned .nilIface ∧ LeftK True lo w r bx bmx bs l0 n D R w') := fun wx hb => by
      have H := HR.out.grow hb
      refine (rmSendC_ok H.room H.inv (k := k) (by rw [← H.cl]; exact hk) (by have := H.len; omega) (by have := H.pot; omega)).mono ?_
      rintro e w' ⟨rfl, a, c⟩
      exact ⟨rfl, touchM_below hb c, _, a, stp_send H.inv H.inv2 (by rw [← H.cl]; exact hk)⟩
    rw [hf] at HMY
    clear hf hfl PK hkk hpp h hk
    skip
    go_enter Tryz.func79, Tryz.ntmps79
    go_wp2_with (first
      | (go_at_call 20; refine (HPK.out _).mono ?_; rintro e w1 ⟨rfl, hb1⟩
         obtain ⟨hx1, hy1⟩ := box4 HBT.out hb1
         have HB1 : Hid _ := hy1
         have HBH1 : Hid _ := hx1
         have b0_1 : w1.cell? ⟨β, 0, none⟩ = some (.int .i64 1) := Lib.cell_of_heap HBH1.out 0
         have b1_1 : w1.cell? ⟨β, 1, none⟩ = some (.int .i64 kk) := Lib.cell_of_heap HBH1.out 1
         have b2_1 : w1.cell? ⟨β, 2, none⟩ = some (.int .i64 pp) := Lib.cell_of_heap HBH1.out 2
         have b3_1 : w1.cell? ⟨β, 3, none⟩ = some (v) := Lib.cell_of_heap HBH1.out 3
         clear hb1 hx1 hy1 HPK)
      | (go_at_call 73; refine (HMY.out _ HB1.out).mono ?_; rintro e w2 ⟨rfl, hb2⟩
         clear b0_1 b1_1 b2_1 b3_1
         have HB2 : Hid (Below w.heap.size w w2) := HB1.out.trans (hb2.mono HB1.out.size)
         have HBH2 : Hid _ := box_gr HBH1.out hb2
         have b0_2 : w2.cell? ⟨β, 0, none⟩ = some (.int .i64 1) := Lib.cell_of_heap HBH2.out 0
         have b1_2 : w2.cell? ⟨β, 1, none⟩ = some (.int .i64 kk) := Lib.cell_of_heap HBH2.out 1
         have b2_2 : w2.cell? ⟨β, 2, none⟩ = some (.int .i64 pp) := Lib.cell_of_heap HBH2.out 2
         have b3_2 : w2.cell? ⟨β, 3, none⟩ = some (v) := Lib.cell_of_heap HBH2.out 3
         clear hb2)
      | (go_at_call 64; refine (HCQ.out _ HB2.out).mono ?_; rintro e w4 ⟨rfl, hL⟩; have HL : Hid _ := hL; clear hL)
      | fail)
    go_ret
    exact ⟨rfl, HL.out⟩
  · obtain ⟨i, hi, PQ⟩ := pick_nat pp R.fl.length hpp (by omega) (by omega)
    have HPQ : Hid _ := PQ
    have hgt : (0 : Int) < (R.fl.length : Int) := by omega
    have HCQ : Hid (∀ wx, Below w.heap.size w wx → Calls Tryz.prog 64 #[.pointer (some ⟨r, 0, none⟩), .int .i64 (k : Int)] wx fun e w' => e = .returned .nilIface ∧ LeftK True lo w r bx bmx bs l0 n D R w') := fun wx hb => by
      have H := HR.out.grow hb
      refine (rmSendC_ok H.room H.inv (k := k) (by rw [← H.cl]; exact hk) (by have := H.len; omega) (by have := H.pot; omega)).mono ?_
      rintro e w' ⟨rfl, a, c⟩
      exact ⟨rfl, touchM_below hb c, _, a, stp_send H.inv H.inv2 (by rw [← H.cl]; exact hk)⟩
    clear hf hfl PK hkk hpp h hk PQ hi
    generalize R.fl.length = m at *
    go_enter Tryz.func79, Tryz.ntmps79
    go_wp2_with (first
      | (go_at_call 20; refine (HPK.out _).mono ?_; rintro e w1 ⟨rfl, hb1⟩
         obtain ⟨hx1, hy1⟩ := box4 HBT.out hb1
         have HB1 : Hid _ := hy1
         have HBH1 : Hid _ := hx1
         have b0_1 : w1.cell? ⟨β, 0, none⟩ = some (.int .i64 1) := Lib.cell_of_heap HBH1.out 0
         have b1_1 : w1.cell? ⟨β, 1, none⟩ = some (.int .i64 kk) := Lib.cell_of_heap HBH1.out 1
         have b2_1 : w1.cell? ⟨β, 2, none⟩ = some (.int .i64 pp) := Lib.cell_of_heap HBH1.out 2
         have b3_1 : w1.cell? ⟨β, 3, none⟩ = some (v) := Lib.cell_of_heap HBH1.out 3
         clear hb1 hx1 hy1 HPK)
      | (go_at_call 73; refine (HMY.out _ HB1.out).mono ?_; rintro e w2 ⟨rfl, hb2⟩
         clear b0_1 b1_1 b2_1 b3_1
         have HB2 : Hid (Below w.heap.size w w2) := HB1.out.trans (hb2.mono HB1.out.size)
         have HBH2 : Hid _ := box_gr HBH1.out hb2
         have b0_2 : w2.cell? ⟨β, 0, none⟩ = some (.int .i64 1) := Lib.cell_of_heap HBH2.out 0
         have b1_2 : w2.cell? ⟨β, 1, none⟩ = some (.int .i64 kk) := Lib.cell_of_heap HBH2.out 1
         have b2_2 : w2.cell? ⟨β, 2, none⟩ = some (.int .i64 pp) := Lib.cell_of_heap HBH2.out 2
         have b3_2 : w2.cell? ⟨β, 3, none⟩ = some (v) := Lib.cell_of_heap HBH2.out 3
         clear hb2)
      | (go_at_call 20; refine (HPQ.out _).mono ?_; rintro e w3 ⟨rfl, hb3⟩
         clear b0_2 b1_2 b2_2 b3_2
         have HB3 : Hid (Below w.heap.size w w3) := HB2.out.trans (hb3.mono HB2.out.size)
         have HBH3 : Hid _ := box_gr HBH2.out hb3
         have b0_3 : w3.cell? ⟨β, 0, none⟩ = some (.int .i64 1) := Lib.cell_of_heap HBH3.out 0
         have b1_3 : w3.cell? ⟨β, 1, none⟩ = some (.int .i64 kk) := Lib.cell_of_heap HBH3.out 1
         have b2_3 : w3.cell? ⟨β, 2, none⟩ = some (.int .i64 pp) := Lib.cell_of_heap HBH3.out 2
         have b3_3 : w3.cell? ⟨β, 3, none⟩ = some (v) := Lib.cell_of_heap HBH3.out 3
         clear hb3)
      | (go_at_call 64; refine (HCQ.out _ HB3.out).mono ?_; rintro e w4 ⟨rfl, hL⟩; have HL : Hid _ := hL; clear hL)
      | fail)
    go_ret
    exact ⟨rfl, HL.out⟩
set_option maxRecDepth 100000 in
set_option maxHeartbeats 4000000 in
theorem plays_deliv {lo : Nat} {w : World} {r bx bmx : Nat} {bs : List Nat} {l0 n : Int} {D : List (List UInt8)} {R : Rm} (h : Rok lo w r bx bmx bs l0 n D R) (kk pp : Int) (hkk : -9223372036854775808 ≤ kk ∧ kk < 9223372036854775808) (hpp : -9223372036854775808 ≤ pp ∧ pp < 9223372036854775808) (v : Value) :
    Calls Tryz.prog 79 #[.pointer (some ⟨r, 0, none⟩), .int .i64 (bs.length : Int), .agg #[.int .i64 2, .int .i64 kk, .int .i64 pp, v]] w fun e w' => e = .returned (.bool true) ∧ LeftK True lo w r bx bmx bs l0 n D R w' := by
  obtain ⟨k, hk, PK⟩ := pick_nat kk bs.length hkk (by have := h.one; omega) (by have := h.len; omega)
  have HPK : Hid _ := PK
  have HR : Hid _ := h
  have HMY : Hid (∀ wx, Below w.heap.size w wx → Calls Tryz.prog 73 #[.pointer (some ⟨r, 0, none⟩)] wx fun e w' => e = .returned (.int .i64 (R.fl.length : Int)) ∧ Below wx.heap.size wx w') := fun wx hb => rmMany_any (h.grow hb).room
  have hfl := h.inv.room
  obtain ⟨β, hβ⟩ : ∃ β, w.heap.size = β := ⟨_, rfl⟩
  have HBT : Hid (w.heap.size = β) := hβ
  by_cases hf : R.fl.length = 0
  · have hgt : ¬ (0 : Int) < (0 : Int) := by decide
    have HCQ : Hid (∀ wx, Below w.heap.size w wx → Calls Tryz.prog 67 #[.pointer (some ⟨r, 0, none⟩), .int .i64 0] wx fun e w' => ∃ x, e = .returned x ∧ LeftK True lo w r bx bmx bs l0 n D R w') := fun wx hb => by
      have H := HR.out.grow hb
      refine (rmDeliver_bad H.room 0 (.inr (by omega))).mono ?_
      rintro e w' ⟨rfl, c⟩
      exact ⟨_, rfl, LeftK.same HR.out (hb.trans (c.mono hb.size))⟩
    rw [hf] at HMY
    clear hf hfl PK hkk hpp h hk
    skip
    go_enter Tryz.func79, Tryz.ntmps79
    go_wp2_with (first
      | (go_at_call 20; refine (HPK.out _).mono ?_; rintro e w1 ⟨rfl, hb1⟩
         obtain ⟨hx1, hy1⟩ := box4 HBT.out hb1
         have HB1 : Hid _ := hy1
         have HBH1 : Hid _ := hx1
         have b0_1 : w1.cell? ⟨β, 0, none⟩ = some (.int .i64 2) := Lib.cell_of_heap HBH1.out 0
         have b1_1 : w1.cell? ⟨β, 1, none⟩ = some (.int .i64 kk) := Lib.cell_of_heap HBH1.out 1
         have b2_1 : w1.cell? ⟨β, 2, none⟩ = some (.int .i64 pp) := Lib.cell_of_heap HBH1.out 2
         have b3_1 : w1.cell? ⟨β, 3, none⟩ = some (v) := Lib.cell_of_heap HBH1.out 3
         clear hb1 hx1 hy1 HPK)
      | (go_at_call 73; refine (HMY.out _ HB1.out).mono ?_; rintro e w2 ⟨rfl, hb2⟩
         clear b0_1 b1_1 b2_1 b3_1
         have HB2 : Hid (Below w.heap.size w w2) := HB1.out.trans (hb2.mono HB1.out.size)
         have HBH2 : Hid _ := box_gr HBH1.out hb2
         have b0_2 : w2.cell? ⟨β, 0, none⟩ = some (.int .i64 2) := Lib.cell_of_heap HBH2.out 0
         have b1_2 : w2.cell? ⟨β, 1, none⟩ = some (.int .i64 kk) := Lib.cell_of_heap HBH2.out 1
         have b2_2 : w2.cell? ⟨β, 2, none⟩ = some (.int .i64 pp) := Lib.cell_of_heap HBH2.out 2
         have b3_2 : w2.cell? ⟨β, 3, none⟩ = some (v) := Lib.cell_of_heap HBH2.out 3
         clear hb2)
      | (go_at_call 67; refine (HCQ.out _ HB2.out).mono ?_; rintro e w4 ⟨x, rfl, hL⟩; have HL : Hid _ := hL; clear hL)
      | fail)
    go_ret
    exact ⟨rfl, HL.out⟩
  · obtain ⟨i, hi, PQ⟩ := pick_nat pp R.fl.length hpp (by omega) (by omega)
    have HPQ : Hid _ := PQ
    have hgt : (0 : Int) < (R.fl.length : Int) := by omega
    have hp : R.fl[i]? = some R.fl[i] := List.getElem?_eq_getElem hi
    have HCQ : Hid (∀ wx, Below w.heap.size w wx → Calls Tryz.prog 67 #[.pointer (some ⟨r, 0, none⟩), .int .i64 (i : Int)] wx fun e w' => ∃ x, e = .returned x ∧ LeftK True lo w r bx bmx bs l0 n D R w') := fun wx hb => by
      have H := HR.out.grow hb
      refine (rmDeliver_ok H.env H.room H.inv (by have := H.num; omega) hp (by have := H.len; omega) (by have := H.pot; omega)).mono ?_
      rintro e w' ⟨rfl, a, c⟩
      exact ⟨_, rfl, touchM_below hb c, _, a, stp_deliv H.inv H.inv2 _⟩
    clear hf hfl PK hkk hpp h hk PQ hi hp
    generalize R.fl.length = m at *
    go_enter Tryz.func79, Tryz.ntmps79
    go_wp2_with (first
      | (go_at_call 20; refine (HPK.out _).mono ?_; rintro e w1 ⟨rfl, hb1⟩
         obtain ⟨hx1, hy1⟩ := box4 HBT.out hb1
         have HB1 : Hid _ := hy1
         have HBH1 : Hid _ := hx1
         have b0_1 : w1.cell? ⟨β, 0, none⟩ = some (.int .i64 2) := Lib.cell_of_heap HBH1.out 0
         have b1_1 : w1.cell? ⟨β, 1, none⟩ = some (.int .i64 kk) := Lib.cell_of_heap HBH1.out 1
         have b2_1 : w1.cell? ⟨β, 2, none⟩ = some (.int .i64 pp) := Lib.cell_of_heap HBH1.out 2
         have b3_1 : w1.cell? ⟨β, 3, none⟩ = some (v) := Lib.cell_of_heap HBH1.out 3
         clear hb1 hx1 hy1 HPK)
      | (go_at_call 73; refine (HMY.out _ HB1.out).mono ?_; rintro e w2 ⟨rfl, hb2⟩
         clear b0_1 b1_1 b2_1 b3_1
         have HB2 : Hid (Below w.heap.size w w2) := HB1.out.trans (hb2.mono HB1.out.size)
         have HBH2 : Hid _ := box_gr HBH1.out hb2
         have b0_2 : w2.cell? ⟨β, 0, none⟩ = some (.int .i64 2) := Lib.cell_of_heap HBH2.out 0
         have b1_2 : w2.cell? ⟨β, 1, none⟩ = some (.int .i64 kk) := Lib.cell_of_heap HBH2.out 1
         have b2_2 : w2.cell? ⟨β, 2, none⟩ = some (.int .i64 pp) := Lib.cell_of_heap HBH2.out 2
         have b3_2 : w2.cell? ⟨β, 3, none⟩ = some (v) := Lib.cell_of_heap HBH2.out 3
         clear hb2)
      | (go_at_call 20; refine (HPQ.out _).mono ?_; rintro e w3 ⟨rfl, hb3⟩
         clear b0_2 b1_2 b2_2 b3_2
         have HB3 : Hid (Below w.heap.size w w3) := HB2.out.trans (hb3.mono HB2.out.size)
         have HBH3 : Hid _ := box_gr HBH2.out hb3
         have b0_3 : w3.cell? ⟨β, 0, none⟩ = some (.int .i64 2) := Lib.cell_of_heap HBH3.out 0
         have b1_3 : w3.cell? ⟨β, 1, none⟩ = some (.int .i64 kk) := Lib.cell_of_heap HBH3.out 1
         have b2_3 : w3.cell? ⟨β, 2, none⟩ = some (.int .i64 pp) := Lib.cell_of_heap HBH3.out 2
         have b3_3 : w3.cell? ⟨β, 3, none⟩ = some (v) := Lib.cell_of_heap HBH3.out 3
         clear hb3)
      | (go_at_call 67; refine (HCQ.out _ HB3.out).mono ?_; rintro e w4 ⟨x, rfl, hL⟩; have HL : Hid _ := hL; clear hL)
      | fail)
    go_ret
    exact ⟨rfl, HL.out⟩
set_option maxRecDepth 100000 in
set_option maxHeartbeats 4000000 in
theorem plays_lose {lo : Nat} {w : World} {r bx bmx : Nat} {bs : List Nat} {l0 n : Int} {D : List (List UInt8)} {R : Rm} (h : Rok lo w r bx bmx bs l0 n D R) (kk pp : Int) (hkk : -9223372036854775808 ≤ kk ∧ kk < 9223372036854775808) (hpp : -9223372036854775808 ≤ pp ∧ pp < 9223372036854775808) (v : Value) :
    Calls Tryz.prog 79 #[.pointer (some ⟨r, 0, none⟩), .int .i64 (bs.length : Int), .agg #[.int .i64 3, .int .i64 kk, .int .i64 pp, v]] w fun e w' => e = .returned (.bool true) ∧ LeftK True lo w r bx bmx bs l0 n D R w' := by
  obtain ⟨k, hk, PK⟩ := pick_nat kk bs.length hkk (by have := h.one; omega) (by have := h.len; omega)
  have HPK : Hid _ := PK
  have HR : Hid _ := h
  have HMY : Hid (∀ wx, Below w.heap.size w wx → Calls Tryz.prog 73 #[.pointer (some ⟨r, 0, none⟩)] wx fun e w' => e = .returned (.int .i64 (R.fl.length : Int)) ∧ Below wx.heap.size wx w') := fun wx hb => rmMany_any (h.grow hb).room
  have hfl := h.inv.room
  obtain ⟨β, hβ⟩ : ∃ β, w.heap.size = β := ⟨_, rfl⟩
  have HBT : Hid (w.heap.size = β) := hβ
  by_cases hf : R.fl.length = 0
  · have hgt : ¬ (0 : Int) < (0 : Int) := by decide
    have HCQ : Hid (∀ wx, Below w.heap.size w wx → Calls Tryz.prog 68 #[.pointer (some ⟨r, 0, none⟩), .int .i64 0] wx fun e w' => ∃ x, e = .returned x ∧ LeftK True lo w r bx bmx bs l0 n D R w') := fun wx hb => by
      have H := HR.out.grow hb
      refine (rmLose_bad H.room 0 (.inr (by omega))).mono ?_
      rintro e w' ⟨rfl, c⟩
      exact ⟨_, rfl, LeftK.same HR.out (hb.trans (c.mono hb.size))⟩
    rw [hf] at HMY
    clear hf hfl PK hkk hpp h hk
    skip
    go_enter Tryz.func79, Tryz.ntmps79
    go_wp2_with (first
      | (go_at_call 20; refine (HPK.out _).mono ?_; rintro e w1 ⟨rfl, hb1⟩
         obtain ⟨hx1, hy1⟩ := box4 HBT.out hb1
         have HB1 : Hid _ := hy1
         have HBH1 : Hid _ := hx1
         have b0_1 : w1.cell? ⟨β, 0, none⟩ = some (.int .i64 3) := Lib.cell_of_heap HBH1.out 0
         have b1_1 : w1.cell? ⟨β, 1, none⟩ = some (.int .i64 kk) := Lib.cell_of_heap HBH1.out 1
         have b2_1 : w1.cell? ⟨β, 2, none⟩ = some (.int .i64 pp) := Lib.cell_of_heap HBH1.out 2
         have b3_1 : w1.cell? ⟨β, 3, none⟩ = some (v) := Lib.cell_of_heap HBH1.out 3
         clear hb1 hx1 hy1 HPK)
      | (go_at_call 73; refine (HMY.out _ HB1.out).mono ?_; rintro e w2 ⟨rfl, hb2⟩
         clear b0_1 b1_1 b2_1 b3_1
         have HB2 : Hid (Below w.heap.size w w2) := HB1.out.trans (hb2.mono HB1.out.size)
         have HBH2 : Hid _ := box_gr HBH1.out hb2
         have b0_2 : w2.cell? ⟨β, 0, none⟩ = some (.int .i64 3) := Lib.cell_of_heap HBH2.out 0
         have b1_2 : w2.cell? ⟨β, 1, none⟩ = some (.int .i64 kk) := Lib.cell_of_heap HBH2.out 1
         have b2_2 : w2.cell? ⟨β, 2, none⟩ = some (.int .i64 pp) := Lib.cell_of_heap HBH2.out 2
         have b3_2 : w2.cell? ⟨β, 3, none⟩ = some (v) := Lib.cell_of_heap HBH2.out 3
         clear hb2)
      | (go_at_call 68; refine (HCQ.out _ HB2.out).mono ?_; rintro e w4 ⟨x, rfl, hL⟩; have HL : Hid _ := hL; clear hL)
      | fail)
    go_ret
    exact ⟨rfl, HL.out⟩
  · obtain ⟨i, hi, PQ⟩ := pick_nat pp R.fl.length hpp (by omega) (by omega)
    have HPQ : Hid _ := PQ
    have hgt : (0 : Int) < (R.fl.length : Int) := by omega
    have HCQ : Hid (∀ wx, Below w.heap.size w wx → Calls Tryz.prog 68 #[.pointer (some ⟨r, 0, none⟩), .int .i64 (i : Int)] wx fun e w' => ∃ x, e = .returned x ∧ LeftK True lo w r bx bmx bs l0 n D R w') := fun wx hb => by
      have H := HR.out.grow hb
      refine (rmLose_ok H.room hi H.inv.room).mono ?_
      rintro e w' ⟨rfl, a, c⟩
      exact ⟨_, rfl, touchM_below hb c, _, a, stp_lose H.inv H.inv2 _⟩
    clear hf hfl PK hkk hpp h hk PQ hi
    generalize R.fl.length = m at *
    go_enter Tryz.func79, Tryz.ntmps79
    go_wp2_with (first
      | (go_at_call 20; refine (HPK.out _).mono ?_; rintro e w1 ⟨rfl, hb1⟩
         obtain ⟨hx1, hy1⟩ := box4 HBT.out hb1
         have HB1 : Hid _ := hy1
         have HBH1 : Hid _ := hx1
         have b0_1 : w1.cell? ⟨β, 0, none⟩ = some (.int .i64 3) := Lib.cell_of_heap HBH1.out 0
         have b1_1 : w1.cell? ⟨β, 1, none⟩ = some (.int .i64 kk) := Lib.cell_of_heap HBH1.out 1
         have b2_1 : w1.cell? ⟨β, 2, none⟩ = some (.int .i64 pp) := Lib.cell_of_heap HBH1.out 2
         have b3_1 : w1.cell? ⟨β, 3, none⟩ = some (v) := Lib.cell_of_heap HBH1.out 3
         clear hb1 hx1 hy1 HPK)
      | (go_at_call 73; refine (HMY.out _ HB1.out).mono ?_; rintro e w2 ⟨rfl, hb2⟩
         clear b0_1 b1_1 b2_1 b3_1
         have HB2 : Hid (Below w.heap.size w w2) := HB1.out.trans (hb2.mono HB1.out.size)
         have HBH2 : Hid _ := box_gr HBH1.out hb2
         have b0_2 : w2.cell? ⟨β, 0, none⟩ = some (.int .i64 3) := Lib.cell_of_heap HBH2.out 0
         have b1_2 : w2.cell? ⟨β, 1, none⟩ = some (.int .i64 kk) := Lib.cell_of_heap HBH2.out 1
         have b2_2 : w2.cell? ⟨β, 2, none⟩ = some (.int .i64 pp) := Lib.cell_of_heap HBH2.out 2
         have b3_2 : w2.cell? ⟨β, 3, none⟩ = some (v) := Lib.cell_of_heap HBH2.out 3
         clear hb2)
      | (go_at_call 20; refine (HPQ.out _).mono ?_; rintro e w3 ⟨rfl, hb3⟩
         clear b0_2 b1_2 b2_2 b3_2
         have HB3 : Hid (Below w.heap.size w w3) := HB2.out.trans (hb3.mono HB2.out.size)
         have HBH3 : Hid _ := box_gr HBH2.out hb3
         have b0_3 : w3.cell? ⟨β, 0, none⟩ = some (.int .i64 3) := Lib.cell_of_heap HBH3.out 0
         have b1_3 : w3.cell? ⟨β, 1, none⟩ = some (.int .i64 kk) := Lib.cell_of_heap HBH3.out 1
         have b2_3 : w3.cell? ⟨β, 2, none⟩ = some (.int .i64 pp) := Lib.cell_of_heap HBH3.out 2
         have b3_3 : w3.cell? ⟨β, 3, none⟩ = some (v) := Lib.cell_of_heap HBH3.out 3
         clear hb3)
      | (go_at_call 68; refine (HCQ.out _ HB3.out).mono ?_; rintro e w4 ⟨x, rfl, hL⟩; have HL : Hid _ := hL; clear hL)
      | fail)
    go_ret
    exact ⟨rfl, HL.out⟩
set_option maxRecDepth 100000 in
set_option maxHeartbeats 4000000 in
theorem plays_twice {lo : Nat} {w : World} {r bx bmx : Nat} {bs : List Nat} {l0 n : Int} {D : List (List UInt8)} {R : Rm} (h : Rok lo w r bx bmx bs l0 n D R) (kk pp : Int) (hkk : -9223372036854775808 ≤ kk ∧ kk < 9223372036854775808) (hpp : -9223372036854775808 ≤ pp ∧ pp < 9223372036854775808) (v : Value) :
    Calls Tryz.prog 79 #[.pointer (some ⟨r, 0, none⟩), .int .i64 (bs.length : Int), .agg #[.int .i64 4, .int .i64 kk, .int .i64 pp, v]] w fun e w' => e = .returned (.bool true) ∧ LeftK True lo w r bx bmx bs l0 n D R w' := by
  obtain ⟨k, hk, PK⟩ := pick_nat kk bs.length hkk (by have := h.one; omega) (by have := h.len; omega)
  have HPK : Hid _ := PK
  have HR : Hid _ := h
  have HMY : Hid (∀ wx, Below w.heap.size w wx → Calls Tryz.prog 73 #[.pointer (some ⟨r, 0, none⟩)] wx fun e w' => e = .returned (.int .i64 (R.fl.length : Int)) ∧ Below wx.heap.size wx w') := fun wx hb => rmMany_any (h.grow hb).room
  have hfl := h.inv.room
  obtain ⟨β, hβ⟩ : ∃ β, w.heap.size = β := ⟨_, rfl⟩
  have HBT : Hid (w.heap.size = β) := hβ
  by_cases hf : R.fl.length = 0
  · have hgt : ¬ (0 : Int) < (0 : Int) := by decide
    have HCQ : Hid (∀ wx, Below w.heap.size w wx → Calls Tryz.prog 70 #[.pointer (some ⟨r, 0, none⟩), .int .i64 0] wx fun e w' => ∃ x, e = .returned x ∧ LeftK True lo w r bx bmx bs l0 n D R w') := fun wx hb => by
      have H := HR.out.grow hb
      refine (rmTwice_bad H.room 0 (.inr (by omega))).mono ?_
      rintro e w' ⟨rfl, c⟩
      exact ⟨_, rfl, LeftK.same HR.out (hb.trans (c.mono hb.size))⟩
    rw [hf] at HMY
    clear hf hfl PK hkk hpp h hk
    skip
    go_enter Tryz.func79, Tryz.ntmps79
    go_wp2_with (first
      | (go_at_call 20; refine (HPK.out _).mono ?_; rintro e w1 ⟨rfl, hb1⟩
         obtain ⟨hx1, hy1⟩ := box4 HBT.out hb1
         have HB1 : Hid _ := hy1
         have HBH1 : Hid _ := hx1
         have b0_1 : w1.cell? ⟨β, 0, none⟩ = some (.int .i64 4) := Lib.cell_of_heap HBH1.out 0
         have b1_1 : w1.cell? ⟨β, 1, none⟩ = some (.int .i64 kk) := Lib.cell_of_heap HBH1.out 1
         have b2_1 : w1.cell? ⟨β, 2, none⟩ = some (.int .i64 pp) := Lib.cell_of_heap HBH1.out 2
         have b3_1 : w1.cell? ⟨β, 3, none⟩ = some (v) := Lib.cell_of_heap HBH1.out 3
         clear hb1 hx1 hy1 HPK)
      | (go_at_call 73; refine (HMY.out _ HB1.out).mono ?_; rintro e w2 ⟨rfl, hb2⟩
         clear b0_1 b1_1 b2_1 b3_1
         have HB2 : Hid (Below w.heap.size w w2) := HB1.out.trans (hb2.mono HB1.out.size)
         have HBH2 : Hid _ := box_gr HBH1.out hb2
         have b0_2 : w2.cell? ⟨β, 0, none⟩ = some (.int .i64 4) := Lib.cell_of_heap HBH2.out 0
         have b1_2 : w2.cell? ⟨β, 1, none⟩ = some (.int .i64 kk) := Lib.cell_of_heap HBH2.out 1
         have b2_2 : w2.cell? ⟨β, 2, none⟩ = some (.int .i64 pp) := Lib.cell_of_heap HBH2.out 2
         have b3_2 : w2.cell? ⟨β, 3, none⟩ = some (v) := Lib.cell_of_heap HBH2.out 3
         clear hb2)
      | (go_at_call 70; refine (HCQ.out _ HB2.out).mono ?_; rintro e w4 ⟨x, rfl, hL⟩; have HL : Hid _ := hL; clear hL)
      | fail)
    go_ret
    exact ⟨rfl, HL.out⟩
  · obtain ⟨i, hi, PQ⟩ := pick_nat pp R.fl.length hpp (by omega) (by omega)
    have HPQ : Hid _ := PQ
    have hgt : (0 : Int) < (R.fl.length : Int) := by omega
    have hp : R.fl[i]? = some R.fl[i] := List.getElem?_eq_getElem hi
    have HCQ : Hid (∀ wx, Below w.heap.size w wx → Calls Tryz.prog 70 #[.pointer (some ⟨r, 0, none⟩), .int .i64 (i : Int)] wx fun e w' => ∃ x, e = .returned x ∧ LeftK True lo w r bx bmx bs l0 n D R w') := fun wx hb => by
      have H := HR.out.grow hb
      refine (rmTwice_ok H.room hp (by have := H.pot; unfold potR at this; omega) H.inv.room).mono ?_
      rintro e w' ⟨rfl, a, c⟩
      exact ⟨_, rfl, touchM_below hb c, _, a, stp_twice H.inv H.inv2 hp⟩
    clear hf hfl PK hkk hpp h hk PQ hi hp
    generalize R.fl.length = m at *
    go_enter Tryz.func79, Tryz.ntmps79
    go_wp2_with (first
      | (go_at_call 20; refine (HPK.out _).mono ?_; rintro e w1 ⟨rfl, hb1⟩
         obtain ⟨hx1, hy1⟩ := box4 HBT.out hb1
         have HB1 : Hid _ := hy1
         have HBH1 : Hid _ := hx1
         have b0_1 : w1.cell? ⟨β, 0, none⟩ = some (.int .i64 4) := Lib.cell_of_heap HBH1.out 0
         have b1_1 : w1.cell? ⟨β, 1, none⟩ = some (.int .i64 kk) := Lib.cell_of_heap HBH1.out 1
         have b2_1 : w1.cell? ⟨β, 2, none⟩ = some (.int .i64 pp) := Lib.cell_of_heap HBH1.out 2
         have b3_1 : w1.cell? ⟨β, 3, none⟩ = some (v) := Lib.cell_of_heap HBH1.out 3
         clear hb1 hx1 hy1 HPK)
      | (go_at_call 73; refine (HMY.out _ HB1.out).mono ?_; rintro e w2 ⟨rfl, hb2⟩
         clear b0_1 b1_1 b2_1 b3_1
         have HB2 : Hid (Below w.heap.size w w2) := HB1.out.trans (hb2.mono HB1.out.size)
         have HBH2 : Hid _ := box_gr HBH1.out hb2
         have b0_2 : w2.cell? ⟨β, 0, none⟩ = some (.int .i64 4) := Lib.cell_of_heap HBH2.out 0
         have b1_2 : w2.cell? ⟨β, 1, none⟩ = some (.int .i64 kk) := Lib.cell_of_heap HBH2.out 1
         have b2_2 : w2.cell? ⟨β, 2, none⟩ = some (.int .i64 pp) := Lib.cell_of_heap HBH2.out 2
         have b3_2 : w2.cell? ⟨β, 3, none⟩ = some (v) := Lib.cell_of_heap HBH2.out 3
         clear hb2)
      | (go_at_call 20; refine (HPQ.out _).mono ?_; rintro e w3 ⟨rfl, hb3⟩
         clear b0_2 b1_2 b2_2 b3_2
         have HB3 : Hid (Below w.heap.size w w3) := HB2.out.trans (hb3.mono HB2.out.size)
         have HBH3 : Hid _ := box_gr HBH2.out hb3
         have b0_3 : w3.cell? ⟨β, 0, none⟩ = some (.int .i64 4) := Lib.cell_of_heap HBH3.out 0
         have b1_3 : w3.cell? ⟨β, 1, none⟩ = some (.int .i64 kk) := Lib.cell_of_heap HBH3.out 1
         have b2_3 : w3.cell? ⟨β, 2, none⟩ = some (.int .i64 pp) := Lib.cell_of_heap HBH3.out 2
         have b3_3 : w3.cell? ⟨β, 3, none⟩ = some (v) := Lib.cell_of_heap HBH3.out 3
         clear hb3)
      | (go_at_call 70; refine (HCQ.out _ HB3.out).mono ?_; rintro e w4 ⟨x, rfl, hL⟩; have HL : Hid _ := hL; clear hL)
      | fail)
    go_ret
    exact ⟨rfl, HL.out⟩
set_option maxRecDepth 100000 in
set_option maxHeartbeats 4000000 in
theorem plays_quiet {lo : Nat} {w : World} {r bx bmx : Nat} {bs : List Nat} {l0 n : Int} {D : List (List UInt8)} {R : Rm} (h : Rok lo w r bx bmx bs l0 n D R) (kk pp : Int) (hkk : -9223372036854775808 ≤ kk ∧ kk < 9223372036854775808) (hpp : -9223372036854775808 ≤ pp ∧ pp < 9223372036854775808) (v : Value) :
    Calls Tryz.prog 79 #[.pointer (some ⟨r, 0, none⟩), .int .i64 (bs.length : Int), .agg #[.int .i64 5, .int .i64 kk, .int .i64 pp, v]] w fun e w' => e = .returned (.bool true) ∧ LeftK False lo w r bx bmx bs l0 n D R w' := by
  obtain ⟨k, hk, PK⟩ := pick_nat kk bs.length hkk (by have := h.one; omega) (by have := h.len; omega)
  have HPK : Hid _ := PK
  have HR : Hid _ := h
  have HMY : Hid (∀ wx, Below w.heap.size w wx → Calls Tryz.prog 73 #[.pointer (some ⟨r, 0, none⟩)] wx fun e w' => e = .returned (.int .i64 (R.fl.length : Int)) ∧ Below wx.heap.size wx w') := fun wx hb => rmMany_any (h.grow hb).room
  have hfl := h.inv.room
  obtain ⟨β, hβ⟩ : ∃ β, w.heap.size = β := ⟨_, rfl⟩
  have HBT : Hid (w.heap.size = β) := hβ
  by_cases hf : R.fl.length = 0
  · have hgt : ¬ (0 : Int) < (0 : Int) := by decide
    have HCQ : Hid (∀ wx, Below w.heap.size w wx → Calls Tryz.prog 71 #[.pointer (some ⟨r, 0, none⟩)] wx fun e w' => e = .returned (.tuple #[]) ∧ LeftK False lo w r bx bmx bs l0 n D R w') := fun wx hb => by
      have H := HR.out.grow hb
      refine (rmQuiet_any H.env H.room H.inv (by have := H.num; omega) (by have := H.len; omega) (by have := H.pot; omega)).mono ?_
      rintro e w' ⟨rfl, a, c⟩
      exact ⟨rfl, touchM_below hb c, _, a, stp_quiet H.inv H.inv2 (by rw [← H.cl]; exact H.len)⟩
    rw [hf] at HMY
    clear hf hfl PK hkk hpp h hk
    skip
    go_enter Tryz.func79, Tryz.ntmps79
    go_wp2_with (first
      | (go_at_call 20; refine (HPK.out _).mono ?_; rintro e w1 ⟨rfl, hb1⟩
         obtain ⟨hx1, hy1⟩ := box4 HBT.out hb1
         have HB1 : Hid _ := hy1
         have HBH1 : Hid _ := hx1
         have b0_1 : w1.cell? ⟨β, 0, none⟩ = some (.int .i64 5) := Lib.cell_of_heap HBH1.out 0
         have b1_1 : w1.cell? ⟨β, 1, none⟩ = some (.int .i64 kk) := Lib.cell_of_heap HBH1.out 1
         have b2_1 : w1.cell? ⟨β, 2, none⟩ = some (.int .i64 pp) := Lib.cell_of_heap HBH1.out 2
         have b3_1 : w1.cell? ⟨β, 3, none⟩ = some (v) := Lib.cell_of_heap HBH1.out 3
         clear hb1 hx1 hy1 HPK)
      | (go_at_call 73; refine (HMY.out _ HB1.out).mono ?_; rintro e w2 ⟨rfl, hb2⟩
         clear b0_1 b1_1 b2_1 b3_1
         have HB2 : Hid (Below w.heap.size w w2) := HB1.out.trans (hb2.mono HB1.out.size)
         have HBH2 : Hid _ := box_gr HBH1.out hb2
         have b0_2 : w2.cell? ⟨β, 0, none⟩ = some (.int .i64 5) := Lib.cell_of_heap HBH2.out 0
         have b1_2 : w2.cell? ⟨β, 1, none⟩ = some (.int .i64 kk) := Lib.cell_of_heap HBH2.out 1
         have b2_2 : w2.cell? ⟨β, 2, none⟩ = some (.int .i64 pp) := Lib.cell_of_heap HBH2.out 2
         have b3_2 : w2.cell? ⟨β, 3, none⟩ = some (v) := Lib.cell_of_heap HBH2.out 3
         clear hb2)
      | (go_at_call 71; refine (HCQ.out _ HB2.out).mono ?_; rintro e w4 ⟨rfl, hL⟩; have HL : Hid _ := hL; clear hL)
      | fail)
    go_ret
    exact ⟨rfl, HL.out⟩
  · obtain ⟨i, hi, PQ⟩ := pick_nat pp R.fl.length hpp (by omega) (by omega)
    have HPQ : Hid _ := PQ
    have hgt : (0 : Int) < (R.fl.length : Int) := by omega
    have HCQ : Hid (∀ wx, Below w.heap.size w wx → Calls Tryz.prog 71 #[.pointer (some ⟨r, 0, none⟩)] wx fun e w' => e = .returned (.tuple #[]) ∧ LeftK False lo w r bx bmx bs l0 n D R w') := fun wx hb => by
      have H := HR.out.grow hb
      refine (rmQuiet_any H.env H.room H.inv (by have := H.num; omega) (by have := H.len; omega) (by have := H.pot; omega)).mono ?_
      rintro e w' ⟨rfl, a, c⟩
      exact ⟨rfl, touchM_below hb c, _, a, stp_quiet H.inv H.inv2 (by rw [← H.cl]; exact H.len)⟩
    clear hf hfl PK hkk hpp h hk PQ hi
    generalize R.fl.length = m at *
    go_enter Tryz.func79, Tryz.ntmps79
    go_wp2_with (first
      | (go_at_call 20; refine (HPK.out _).mono ?_; rintro e w1 ⟨rfl, hb1⟩
         obtain ⟨hx1, hy1⟩ := box4 HBT.out hb1
         have HB1 : Hid _ := hy1
         have HBH1 : Hid _ := hx1
         have b0_1 : w1.cell? ⟨β, 0, none⟩ = some (.int .i64 5) := Lib.cell_of_heap HBH1.out 0
         have b1_1 : w1.cell? ⟨β, 1, none⟩ = some (.int .i64 kk) := Lib.cell_of_heap HBH1.out 1
         have b2_1 : w1.cell? ⟨β, 2, none⟩ = some (.int .i64 pp) := Lib.cell_of_heap HBH1.out 2
         have b3_1 : w1.cell? ⟨β, 3, none⟩ = some (v) := Lib.cell_of_heap HBH1.out 3
         clear hb1 hx1 hy1 HPK)
      | (go_at_call 73; refine (HMY.out _ HB1.out).mono ?_; rintro e w2 ⟨rfl, hb2⟩
         clear b0_1 b1_1 b2_1 b3_1
         have HB2 : Hid (Below w.heap.size w w2) := HB1.out.trans (hb2.mono HB1.out.size)
         have HBH2 : Hid _ := box_gr HBH1.out hb2
         have b0_2 : w2.cell? ⟨β, 0, none⟩ = some (.int .i64 5) := Lib.cell_of_heap HBH2.out 0
         have b1_2 : w2.cell? ⟨β, 1, none⟩ = some (.int .i64 kk) := Lib.cell_of_heap HBH2.out 1
         have b2_2 : w2.cell? ⟨β, 2, none⟩ = some (.int .i64 pp) := Lib.cell_of_heap HBH2.out 2
         have b3_2 : w2.cell? ⟨β, 3, none⟩ = some (v) := Lib.cell_of_heap HBH2.out 3
         clear hb2)
      | (go_at_call 20; refine (HPQ.out _).mono ?_; rintro e w3 ⟨rfl, hb3⟩
         clear b0_2 b1_2 b2_2 b3_2
         have HB3 : Hid (Below w.heap.size w w3) := HB2.out.trans (hb3.mono HB2.out.size)
         have HBH3 : Hid _ := box_gr HBH2.out hb3
         have b0_3 : w3.cell? ⟨β, 0, none⟩ = some (.int .i64 5) := Lib.cell_of_heap HBH3.out 0
         have b1_3 : w3.cell? ⟨β, 1, none⟩ = some (.int .i64 kk) := Lib.cell_of_heap HBH3.out 1
         have b2_3 : w3.cell? ⟨β, 2, none⟩ = some (.int .i64 pp) := Lib.cell_of_heap HBH3.out 2
         have b3_3 : w3.cell? ⟨β, 3, none⟩ = some (v) := Lib.cell_of_heap HBH3.out 3
         clear hb3)
      | (go_at_call 71; refine (HCQ.out _ HB3.out).mono ?_; rintro e w4 ⟨rfl, hL⟩; have HL : Hid _ := hL; clear hL)
      | fail)
    go_ret
    exact ⟨rfl, HL.out⟩
set_option maxRecDepth 100000 in
set_option maxHeartbeats 4000000 in
theorem plays_none {lo : Nat} {w : World} {r bx bmx : Nat} {bs : List Nat} {l0 n : Int} {D : List (List UInt8)} {R : Rm} (h : Rok lo w r bx bmx bs l0 n D R) (what : Int) (n0 : what ≠ 0) (n1 : what ≠ 1) (n2 : what ≠ 2) (n3 : what ≠ 3) (n4 : what ≠ 4) (n5 : what ≠ 5) (kk pp : Int) (hkk : -9223372036854775808 ≤ kk ∧ kk < 9223372036854775808) (hpp : -9223372036854775808 ≤ pp ∧ pp < 9223372036854775808) (v : Value) :
    Calls Tryz.prog 79 #[.pointer (some ⟨r, 0, none⟩), .int .i64 (bs.length : Int), .agg #[.int .i64 what, .int .i64 kk, .int .i64 pp, v]] w fun e w' => e = .returned (.bool true) ∧ LeftK True lo w r bx bmx bs l0 n D R w' := by
  obtain ⟨k, hk, PK⟩ := pick_nat kk bs.length hkk (by have := h.one; omega) (by have := h.len; omega)
  have HPK : Hid _ := PK
  have HR : Hid _ := h
  have HMY : Hid (∀ wx, Below w.heap.size w wx → Calls Tryz.prog 73 #[.pointer (some ⟨r, 0, none⟩)] wx fun e w' => e = .returned (.int .i64 (R.fl.length : Int)) ∧ Below wx.heap.size wx w') := fun wx hb => rmMany_any (h.grow hb).room
  have hfl := h.inv.room
  obtain ⟨β, hβ⟩ : ∃ β, w.heap.size = β := ⟨_, rfl⟩
  have HBT : Hid (w.heap.size = β) := hβ
  have e0 : (what == 0) = false := beq_eq_false_iff_ne.2 n0
  have e1 : (what == 1) = false := beq_eq_false_iff_ne.2 n1
  have e2 : (what == 2) = false := beq_eq_false_iff_ne.2 n2
  have e3 : (what == 3) = false := beq_eq_false_iff_ne.2 n3
  have e4 : (what == 4) = false := beq_eq_false_iff_ne.2 n4
  have e5 : (what == 5) = false := beq_eq_false_iff_ne.2 n5
  clear n0 n1 n2 n3 n4 n5
  by_cases hf : R.fl.length = 0
  · have hgt : ¬ (0 : Int) < (0 : Int) := by decide
    rw [hf] at HMY
    clear hf hfl PK hkk hpp h hk
    skip
    go_enter Tryz.func79, Tryz.ntmps79
    go_wp2_with (first
      | (go_at_call 20; refine (HPK.out _).mono ?_; rintro e w1 ⟨rfl, hb1⟩
         obtain ⟨hx1, hy1⟩ := box4 HBT.out hb1
         have HB1 : Hid _ := hy1
         have HBH1 : Hid _ := hx1
         have b0_1 : w1.cell? ⟨β, 0, none⟩ = some (.int .i64 what) := Lib.cell_of_heap HBH1.out 0
         have b1_1 : w1.cell? ⟨β, 1, none⟩ = some (.int .i64 kk) := Lib.cell_of_heap HBH1.out 1
         have b2_1 : w1.cell? ⟨β, 2, none⟩ = some (.int .i64 pp) := Lib.cell_of_heap HBH1.out 2
         have b3_1 : w1.cell? ⟨β, 3, none⟩ = some (v) := Lib.cell_of_heap HBH1.out 3
         clear hb1 hx1 hy1 HPK)
      | (go_at_call 73; refine (HMY.out _ HB1.out).mono ?_; rintro e w2 ⟨rfl, hb2⟩
         clear b0_1 b1_1 b2_1 b3_1
         have HB2 : Hid (Below w.heap.size w w2) := HB1.out.trans (hb2.mono HB1.out.size)
         have HBH2 : Hid _ := box_gr HBH1.out hb2
         have b0_2 : w2.cell? ⟨β, 0, none⟩ = some (.int .i64 what) := Lib.cell_of_heap HBH2.out 0
         have b1_2 : w2.cell? ⟨β, 1, none⟩ = some (.int .i64 kk) := Lib.cell_of_heap HBH2.out 1
         have b2_2 : w2.cell? ⟨β, 2, none⟩ = some (.int .i64 pp) := Lib.cell_of_heap HBH2.out 2
         have b3_2 : w2.cell? ⟨β, 3, none⟩ = some (v) := Lib.cell_of_heap HBH2.out 3
         clear hb2)
      | fail)
    go_ret
    exact ⟨rfl, LeftK.same HR.out HB2.out⟩
  · obtain ⟨i, hi, PQ⟩ := pick_nat pp R.fl.length hpp (by omega) (by omega)
    have HPQ : Hid _ := PQ
    have hgt : (0 : Int) < (R.fl.length : Int) := by omega
    clear hf hfl PK hkk hpp h hk PQ hi
    generalize R.fl.length = m at *
    go_enter Tryz.func79, Tryz.ntmps79
    go_wp2_with (first
      | (go_at_call 20; refine (HPK.out _).mono ?_; rintro e w1 ⟨rfl, hb1⟩
         obtain ⟨hx1, hy1⟩ := box4 HBT.out hb1
         have HB1 : Hid _ := hy1
         have HBH1 : Hid _ := hx1
         have b0_1 : w1.cell? ⟨β, 0, none⟩ = some (.int .i64 what) := Lib.cell_of_heap HBH1.out 0
         have b1_1 : w1.cell? ⟨β, 1, none⟩ = some (.int .i64 kk) := Lib.cell_of_heap HBH1.out 1
         have b2_1 : w1.cell? ⟨β, 2, none⟩ = some (.int .i64 pp) := Lib.cell_of_heap HBH1.out 2
         have b3_1 : w1.cell? ⟨β, 3, none⟩ = some (v) := Lib.cell_of_heap HBH1.out 3
         clear hb1 hx1 hy1 HPK)
      | (go_at_call 73; refine (HMY.out _ HB1.out).mono ?_; rintro e w2 ⟨rfl, hb2⟩
         clear b0_1 b1_1 b2_1 b3_1
         have HB2 : Hid (Below w.heap.size w w2) := HB1.out.trans (hb2.mono HB1.out.size)
         have HBH2 : Hid _ := box_gr HBH1.out hb2
         have b0_2 : w2.cell? ⟨β, 0, none⟩ = some (.int .i64 what) := Lib.cell_of_heap HBH2.out 0
         have b1_2 : w2.cell? ⟨β, 1, none⟩ = some (.int .i64 kk) := Lib.cell_of_heap HBH2.out 1
         have b2_2 : w2.cell? ⟨β, 2, none⟩ = some (.int .i64 pp) := Lib.cell_of_heap HBH2.out 2
         have b3_2 : w2.cell? ⟨β, 3, none⟩ = some (v) := Lib.cell_of_heap HBH2.out 3
         clear hb2)
      | (go_at_call 20; refine (HPQ.out _).mono ?_; rintro e w3 ⟨rfl, hb3⟩
         clear b0_2 b1_2 b2_2 b3_2
         have HB3 : Hid (Below w.heap.size w w3) := HB2.out.trans (hb3.mono HB2.out.size)
         have HBH3 : Hid _ := box_gr HBH2.out hb3
         have b0_3 : w3.cell? ⟨β, 0, none⟩ = some (.int .i64 what) := Lib.cell_of_heap HBH3.out 0
         have b1_3 : w3.cell? ⟨β, 1, none⟩ = some (.int .i64 kk) := Lib.cell_of_heap HBH3.out 1
         have b2_3 : w3.cell? ⟨β, 2, none⟩ = some (.int .i64 pp) := Lib.cell_of_heap HBH3.out 2
         have b3_3 : w3.cell? ⟨β, 3, none⟩ = some (v) := Lib.cell_of_heap HBH3.out 3
         clear hb3)
      | fail)
    go_ret
    exact ⟨rfl, LeftK.same HR.out HB3.out⟩
end Go.Proofs.YtedgnlgjmnccgabGreatDoor
