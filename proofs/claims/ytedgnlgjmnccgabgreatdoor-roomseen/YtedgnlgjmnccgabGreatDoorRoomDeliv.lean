/-
  room.Deliver.
-/
import Derived.Test.YtedgnlgjmnccgabGreatDoorRoomAsk
namespace Go.Proofs.YtedgnlgjmnccgabGreatDoor
open Go.RowKit Go.Maps
set_option linter.unusedVariables false
attribute [local go_sem] Oper.semAt_some yieldsUpon okUpon

theorem pot_out (R : Rm) (i : Nat) : potR (outR R i) ≤ potR R := by
  unfold potR outR
  have h : ∀ (fl : List Pk) (i : Nat), weightR (fl.eraseIdx i) ≤ weightR fl := fun fl => by
    induction fl with
    | nil => intro i; simp
    | cons p fl ih =>
      intro i
      cases i with
      | zero => simp [weightR]
      | succ i => have := ih i; simp [weightR] at this ⊢; omega
  have := h R.fl i
  simp only
  omega
theorem opX_F {lo : Nat} {w w' : World} {r bx bmx : Nat} {bs : List Nat} {R : Rm} {v : Value} {q : List Pt} (h : opX lo w v q) (hr : isRoom lo w r bx bmx bs R) (hk : keptF w w' r) : opX lo w' v q :=
  opX_same h hk.1 fun k _ hk => by
    obtain ⟨a, _, cs, T, hc, hT⟩ := ownF_of hr hk
    exact ⟨a, noPart_of hc (by rcases hT with rfl | rfl <;> decide)⟩
set_option maxRecDepth 100000 in
set_option maxHeartbeats 1000000 in
theorem rmDeliver_ok {lo : Nat} {w : World} {r bx bmx : Nat} {bs : List Nat} {R : Rm} {l0 n : Int} {D : List (List UInt8)} (he : Env lo w) (h : isRoom lo w r bx bmx bs R) (hi : Inv l0 n D R) (hn : n ≤ 100000) {i : Nat} {p : Pk} (hp : R.fl[i]? = some p) (hbl : bs.length ≤ 1000) (hpot : potR R ≤ 100000000) :
    Calls Tryz.prog 67 #[.pointer (some ⟨r, 0, none⟩), .int .i64 (i : Int)] w fun e w' => e = .returned .nilIface ∧ isRoom lo w' r bx bmx bs (delivR l0 R i) ∧ sameBut w w' (touchM lo w bmx) := by
  have hil : i < R.fl.length := (List.getElem?_eq_some_iff.1 hp).1
  have hfl := hi.room
  have CP : Hid _ := rmPacket_ok h i hp hfl
  have HD : Hid (delivR l0 R i = comesR l0 (outR R i) p) := by show delivR l0 R i = _; unfold delivR; rw [hp]
  have CD : Hid (∀ wx, Below w.heap.size w wx → Calls Tryz.prog 132 #[.pointer (some ⟨r, 0, none⟩), .int .i64 (i : Int)] wx fun e w' => e = .returned (.tuple #[]) ∧ isRoom lo w' r bx bmx bs (outR R i) ∧ Env lo w' ∧ sameBut w w' (touchM lo w bmx) ∧ (∀ v, opX lo wx v p.x.op → opX lo w' v p.x.op) ∧ ∀ β, w.heap.size ≤ β → β < wx.heap.size → w'.heap[β]? = wx.heap[β]?) := fun wx hb => by
    have hr := isRoom_below h hb
    refine (rmDrop_any hr hil hfl).mono ?_
    rintro e w' ⟨rfl, a, c⟩
    have hs := touchM_below (bmx := bmx) hb (touchF_M (c.touch hr))
    refine ⟨rfl, a, he.room hs, hs, fun v hv => opX_F hv hr c, fun β h1 h2 => c.1.2 β h2 fun e => ?_⟩
    have := (ownF_of h (ownF_below (isRoom_lt h) hb e)).2.1
    omega
  have CC : Hid (∀ wx v, isRoom lo wx r bx bmx bs (outR R i) → Env lo wx → opX lo wx v p.x.op → Calls Tryz.prog 133 #[.pointer (some ⟨r, 0, none⟩), pkV p v] wx fun e w' => e = .returned (.tuple #[]) ∧ isRoom lo w' r bx bmx bs (delivR l0 R i) ∧ sameBut wx w' (touchM lo wx bmx)) := fun wx v hr he hx => by
    rw [HD.out]
    exact rmComes_any he hr (hi.out i) hn p (hi.pks p (List.mem_of_getElem? hp)) v hx hbl (Nat.le_trans (pot_out R i) hpot)
  unfold pkV at CP CC
  generalize delivR l0 R i = RD at *
  generalize outR R i = RO at *
  obtain ⟨a, c, rv, id, x⟩ := p
  simp only at CP CD CC
  generalize x.op.length = xl at *
  clear he h hi hp hil hfl hbl hpot
  go_enter Tryz.func67, Tryz.ntmps67
  go_wp2_with (first
    | (go_at_call 131; refine Calls.mono CP.out ?_; rintro e w1 ⟨v, rfl, ho, hb1⟩; obtain ⟨pv, cv, rfl⟩ := opX_shape ho
       have HB1 : Hid (Below w.heap.size w w1) := hb1
       have HBX : Hid (∀ o, Below w.heap.size w (w1.alloc o)) := fun o => hb1.alloc hb1.size o
       have HO : Hid _ := ho
       obtain ⟨β, hβ⟩ : ∃ β, w1.heap.size = β := ⟨_, rfl⟩
       have HBT : Hid (w1.heap.size = β) := hβ
       clear ho hb1)
    | (go_at_call 132; refine (CD.out _ (HBX.out _)).mono ?_
       rintro e w2 ⟨rfl, h2, he2, hs2, ho2, hk2⟩
       have H2 : Hid _ := h2; have HE2 : Hid _ := he2; have HS2 : Hid _ := hs2
       have hbox := (hk2 β (by rw [← HBT.out]; exact HB1.out.size) (by rw [World.size_alloc, HBT.out]; omega)).trans (HBT.out ▸ heap_alloc_new w1 _)
       have HO2 : Hid _ := ho2 _ (opX_grown HO.out ((Below.refl _ _).alloc (Nat.le_refl _) _))
       have y0 := Lib.cell_of_heap hbox 0; have y1 := Lib.cell_of_heap hbox 1; have y2 := Lib.cell_of_heap hbox 2; have y3 := Lib.cell_of_heap hbox 3; have y4 := Lib.cell_of_heap hbox 4; have y5 := Lib.cell_of_heap hbox 5; have y6 := Lib.cell_of_heap hbox 6
       simp only [List.getElem?_toArray, List.getElem?_cons_zero, List.getElem?_cons_succ] at y0 y1 y2 y3 y4 y5 y6
       clear h2 he2 hs2 ho2 hk2 hbox)
    | (go_at_call 133; refine (CC.out w2 _ H2.out HE2.out HO2.out).mono ?_; rintro e w3 ⟨rfl, h3, hs3⟩; have H3 : Hid _ := h3; have HS3 : Hid _ := touchM_trans HS2.out hs3; clear h3 hs3)
    | fail)
  go_ret
  exact ⟨rfl, H3.out, HS3.out⟩
set_option maxRecDepth 100000 in
set_option maxHeartbeats 1000000 in
theorem rmDeliver_bad {lo : Nat} {w : World} {r bx bmx : Nat} {bs : List Nat} {R : Rm} (h : isRoom lo w r bx bmx bs R) (k : Int) (hk : k < 0 ∨ (R.fl.length : Int) ≤ k) :
    Calls Tryz.prog 67 #[.pointer (some ⟨r, 0, none⟩), .int .i64 k] w fun e w' => e = .returned (.iface 26 (.int .i64 2)) ∧ Below w.heap.size w w' := by
  have CP : Hid _ := rmPacket_bad h k hk
  clear h hk
  go_enter Tryz.func67, Tryz.ntmps67
  go_wp2_with (first
    | (go_at_call 131; refine Calls.mono CP.out ?_; rintro e w1 ⟨rfl, hb1⟩; have HB1 : Hid (Below w.heap.size w w1) := hb1; have HB1A : Hid (∀ o, Below w.heap.size w (w1.alloc o)) := fun o => hb1.alloc hb1.size o; clear hb1)
    | fail)
  go_ret
  exact ⟨rfl, HB1A.out _⟩
end Go.Proofs.YtedgnlgjmnccgabGreatDoor
