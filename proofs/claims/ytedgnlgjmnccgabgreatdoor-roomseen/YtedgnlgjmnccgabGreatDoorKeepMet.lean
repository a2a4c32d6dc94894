/-
  rosettakeep.met: a room that meets, known beforehand.
-/
import Derived.Test.YtedgnlgjmnccgabGreatDoorRoomNew
namespace Go.Proofs.YtedgnlgjmnccgabGreatDoor
open Go.RowKit Go.Maps
set_option linter.unusedVariables false
attribute [local go_sem] Oper.semAt_some yieldsUpon okUpon

def mq0 : List Pt := [⟨0, 0, [120]⟩, ⟨1, 0, []⟩]
def mq1 : List Pt := [⟨1, 0, []⟩, ⟨0, 0, [121]⟩]
def mt0 : Rm := firstR [45] [1, 2]
def mt1 : Rm := editC mt0 0 mq0
def mt2 : Rm := editC mt1 1 mq1
def mt3 : Rm := quietR 1 (quietR 1 mt2)
set_option maxRecDepth 100000 in
theorem mt_e0 : edE 1 (clK mt0 0).2 mq0 = 0 := by decide +kernel
set_option maxRecDepth 100000 in
theorem mt_e1 : edE 2 (clK mt1 1).2 mq1 = 0 := by decide +kernel
set_option maxRecDepth 100000 in
theorem mt_t : mt3.t = [120, 45, 121] := by decide +kernel
set_option maxRecDepth 100000 in
theorem mt_d0 : (clK mt3 0).2.doc = [120, 45, 121] := by decide +kernel
set_option maxRecDepth 100000 in
theorem mt_d1 : (clK mt3 1).2.doc = [120, 45, 121] := by decide +kernel
set_option maxRecDepth 100000 in
theorem mt_pot : potR mt2 = 0 ∧ potR (quietR 1 mt2) ≤ 1000 := by decide +kernel
theorem mt_V : V [45] := ⟨[45], fun r h => by rw [List.mem_singleton.1 h]; unfold isRune; decide, by decide +kernel⟩
theorem unit12 : ∀ u ∈ [(1 : Int), 2], unitOk u := fun u hu => by
  simp at hu
  rcases hu with rfl | rfl
  · exact .inl rfl
  · exact .inr (.inl rfl)
theorem mt_inv : Inv 1 0 [[45]] mt0 := (firstR_inv mt_V (by decide) (us := [1, 2]) unit12).1
theorem low_touch {lo bmx : Nat} {w0 w w' : World} (hb : Below lo w0 w) (hlo : lo ≤ w.heap.size) (hs : sameBut w w' (touchM lo w bmx)) : Below lo w0 w' :=
  hb.trans ⟨hs.os, hs.tape, hs.output, hs.size, fun k hlt => hs.block k (Nat.lt_of_lt_of_le hlt hlo) fun e => absurd e.1 (Nat.not_le.2 hlt)⟩
theorem opAt_two (w : World) (a b : Pt) : opAt (w.alloc (.cells #[.int .i64 a.keep, .int .i64 a.drop, .string ⟨a.put.toArray⟩, .int .i64 b.keep, .int .i64 b.drop, .string ⟨b.put.toArray⟩] 50)) (.slice (some ⟨w.heap.size, 0, none⟩) 2 2) [a, b] := by
  have hb := heap_alloc_new w (.cells #[.int .i64 a.keep, .int .i64 a.drop, .string ⟨a.put.toArray⟩, .int .i64 b.keep, .int .i64 b.drop, .string ⟨b.put.toArray⟩] 50)
  refine ⟨_, 2, rfl, Nat.le_refl _, by decide, fun _ => ⟨w.heap.size, 0, rfl, by rw [World.size_alloc]; omega, fun i q hq => ?_⟩⟩
  match i, hq with
  | 0, hq => obtain rfl := Option.some.inj hq; exact ⟨Lib.cell_of_heap hb 0, Lib.cell_of_heap hb 1, Lib.cell_of_heap hb 2⟩
  | 1, hq => obtain rfl := Option.some.inj hq; exact ⟨Lib.cell_of_heap hb 3, Lib.cell_of_heap hb 4, Lib.cell_of_heap hb 5⟩
  | i + 2, hq => simp at hq
theorem ints_two (w : World) (a b : Int) : intsAt (w.alloc (.cells #[.int .i64 a, .int .i64 b] 3)) (.slice (some ⟨w.heap.size, 0, none⟩) 2 2) [a, b] := by
  have hb := heap_alloc_new w (.cells #[.int .i64 a, .int .i64 b] 3)
  refine ⟨_, 2, rfl, Nat.le_refl _, by decide, fun _ => ⟨w.heap.size, 0, rfl, by rw [World.size_alloc]; omega, fun i q hq => ?_⟩⟩
  match i, hq with
  | 0, hq => obtain rfl := Option.some.inj hq; exact Lib.cell_of_heap hb 0
  | 1, hq => obtain rfl := Option.some.inj hq; exact Lib.cell_of_heap hb 1
  | i + 2, hq => simp at hq
/-- The room of met, as it goes. -/
structure Mt (lo : Nat) (w0 : World) (r bx bmx : Nat) (bs : List Nat) (R : Rm) (w : World) : Prop where
  room : isRoom lo w r bx bmx bs R
  low : Below lo w0 w
  env : Env lo w
  le : lo ≤ w.heap.size
theorem Mt.grow {lo : Nat} {w0 : World} {r bx bmx : Nat} {bs : List Nat} {R : Rm} {w w' : World} (h : Mt lo w0 r bx bmx bs R w) (hb : Below w.heap.size w w') : Mt lo w0 r bx bmx bs R w' := ⟨isRoom_below h.room hb, h.low.trans (hb.mono h.le), h.env.below hb, Nat.le_trans h.le hb.size⟩
theorem Mt.edit {lo : Nat} {w0 : World} {r bx bmx : Nat} {bs : List Nat} {R : Rm} {w : World} (h : Mt lo w0 r bx bmx bs R w) {l0 n : Int} {D : List (List UInt8)} (hi : Inv l0 n D R) (hn : n ≤ 1000) {k b : Nat} (hk : k < R.cl.length) (hb : bs[k]? = some b) (v : Value) (q : List Pt) (hq : opAt w v q) (hqs : ∀ p ∈ q, wfP p ∧ p.put.length ≤ 300) (hl : q.length ≤ 100) (he : edE (clK R k).1 (clK R k).2 q = 0) :
    Calls Tryz.prog 47 #[.pointer (some ⟨b, 0, none⟩), v] w fun e w' => e = .returned .nilIface ∧ Mt lo w0 r bx bmx bs (editC R k q) w' := by
  obtain ⟨b', hb', hcl⟩ := rm_client h.room hk
  obtain rfl : b = b' := by rw [hb] at hb'; exact Option.some.inj hb'
  obtain ⟨_, hck⟩ := hi.clk hk
  have hsm := hck.small hi.lk
  refine (clEdit_any hcl hck.ok hck.unit v q hq (fun p hp => (hqs p hp).1) (fun p hp => (hqs p hp).2) hl (by omega) ⟨hck.id.1, by have := hck.id.2; split at this <;> omega⟩ h.env.g2 h.env.tabs).mono ?_
  rintro e w' ⟨rfl, a, c⟩
  obtain ⟨m1, m2⟩ := isRoom_client h.room hb a c
  refine ⟨by rw [he]; rfl, m1, low_touch h.low h.le m2, h.env.room m2, Nat.le_trans h.le m2.size⟩
theorem Mt.quiet {lo : Nat} {w0 : World} {r bx bmx : Nat} {bs : List Nat} {R : Rm} {w : World} (h : Mt lo w0 r bx bmx bs R w) {l0 n : Int} {D : List (List UInt8)} (hi : Inv l0 n D R) (hn : n ≤ 1000) (hl : bs.length ≤ 6) (hp : potR R ≤ 10000) :
    Calls Tryz.prog 71 #[.pointer (some ⟨r, 0, none⟩)] w fun e w' => e = .returned (.tuple #[]) ∧ Mt lo w0 r bx bmx bs (quietR l0 R) w' := by
  refine (rmQuiet_any h.env h.room hi (by omega) (by omega) (by omega)).mono ?_
  rintro e w' ⟨rfl, a, c⟩
  exact ⟨rfl, a, low_touch h.low h.le c, h.env.room c, Nat.le_trans h.le c.size⟩
set_option maxRecDepth 100000 in
set_option maxHeartbeats 4000000 in
theorem met_any (w : World) (he : Env w.heap.size w) : Calls Tryz.prog 77 #[] w fun e w' => e = .returned (.bool true) ∧ Below w.heap.size w w' := by
  have I0 := mt_inv
  have I1 : Inv 1 1 [[45]] mt1 := I0.edit (k := 0) (by decide) mq0
  have I2 : Inv 1 2 [[45]] mt2 := I1.edit (k := 1) (by decide +kernel) mq1
  obtain ⟨D3, I3, _, l3, _, _⟩ := I2.quiet
  obtain ⟨D4, I4, _, l4, _, _⟩ := I3.quiet
  obtain ⟨p2, p3⟩ := mt_pot
  have L1 : mt1.cl.length = 2 := by decide +kernel
  have L2 : mt2.cl.length = 2 := by decide +kernel
  have L4 : mt3.cl.length = 2 := by rw [show mt3 = quietR 1 (quietR 1 mt2) from rfl, l4, l3, L2]
  have HB0 : Hid (∀ o, Below w.heap.size w (w.alloc o)) := fun o => (Below.refl _ _).alloc (Nat.le_refl _) _
  have CN : Hid (∀ wx v, Below w.heap.size w wx → intsAt wx v [1, 2] → Calls Tryz.prog 60 #[.string ⟨[45].toArray⟩, v] wx fun e w' => ∃ r bx bmx a b, e = .returned (.tuple #[.pointer (some ⟨r, 0, none⟩), .nilIface]) ∧ Mt w.heap.size w r bx bmx [a, b] mt0 w') := fun wx v hb hv =>
    (rmNew_good [45] mt_V (by decide) [1, 2] unit12 (by decide) v w.heap.size wx (he.below hb) hb.size hv).mono fun e w' ⟨r, bx, bmx, bs, h1, h2, h3, h4⟩ => by
      have hlen := h2.cls.len
      match bs, hlen, h2 with
      | [a, b], _, h2 => exact ⟨r, bx, bmx, a, b, h1, h2, hb.trans (h3.mono hb.size), (he.below hb).below h3, Nat.le_trans hb.size h3.size⟩
  have CC0 : Hid (∀ {r bx bmx a b : Nat} {R : Rm} wx, Mt w.heap.size w r bx bmx [a, b] R wx → Calls Tryz.prog 62 #[.pointer (some ⟨r, 0, none⟩), .int .i64 0] wx fun e w' => e = .returned (.tuple #[.pointer (some ⟨a, 0, none⟩), .nilIface]) ∧ Mt w.heap.size w r bx bmx [a, b] R w') := fun wx h => (rmClient_ok h.room (k := 0) rfl (by simp)).mono fun e w' ⟨h1, h2⟩ => ⟨h1, h.grow h2⟩
  have CC1 : Hid (∀ {r bx bmx a b : Nat} {R : Rm} wx, Mt w.heap.size w r bx bmx [a, b] R wx → Calls Tryz.prog 62 #[.pointer (some ⟨r, 0, none⟩), .int .i64 1] wx fun e w' => e = .returned (.tuple #[.pointer (some ⟨b, 0, none⟩), .nilIface]) ∧ Mt w.heap.size w r bx bmx [a, b] R w') := fun wx h => (rmClient_ok h.room (k := 1) rfl (by simp)).mono fun e w' ⟨h1, h2⟩ => ⟨h1, h.grow h2⟩
  have CE0 : Hid (∀ {r bx bmx a b : Nat} wx v, Mt w.heap.size w r bx bmx [a, b] mt0 wx → opAt wx v mq0 → Calls Tryz.prog 47 #[.pointer (some ⟨a, 0, none⟩), v] wx fun e w' => e = .returned .nilIface ∧ Mt w.heap.size w r bx bmx [a, b] mt1 w') := fun wx v h hv => h.edit I0 (by omega) (k := 0) (by decide) rfl v mq0 hv (by unfold mq0 wfP; decide) (by decide) mt_e0
  have CE1 : Hid (∀ {r bx bmx a b : Nat} wx v, Mt w.heap.size w r bx bmx [a, b] mt1 wx → opAt wx v mq1 → Calls Tryz.prog 47 #[.pointer (some ⟨b, 0, none⟩), v] wx fun e w' => e = .returned .nilIface ∧ Mt w.heap.size w r bx bmx [a, b] mt2 w') := fun wx v h hv => h.edit I1 (by omega) (k := 1) (by rw [L1]; decide) rfl v mq1 hv (by unfold mq1 wfP; decide) (by decide) mt_e1
  have CQ2 : Hid (∀ {r bx bmx a b : Nat} wx, Mt w.heap.size w r bx bmx [a, b] mt2 wx → Calls Tryz.prog 71 #[.pointer (some ⟨r, 0, none⟩)] wx fun e w' => e = .returned (.tuple #[]) ∧ Mt w.heap.size w r bx bmx [a, b] (quietR 1 mt2) w') := fun wx h => h.quiet I2 (by omega) (by simp) (by omega)
  have CQ3 : Hid (∀ {r bx bmx a b : Nat} wx, Mt w.heap.size w r bx bmx [a, b] (quietR 1 mt2) wx → Calls Tryz.prog 71 #[.pointer (some ⟨r, 0, none⟩)] wx fun e w' => e = .returned (.tuple #[]) ∧ Mt w.heap.size w r bx bmx [a, b] mt3 w') := fun wx h => h.quiet I3 (by omega) (by simp) (by omega)
  have CT : Hid (∀ {r bx bmx a b : Nat} wx, Mt w.heap.size w r bx bmx [a, b] mt3 wx → Calls Tryz.prog 75 #[.pointer (some ⟨r, 0, none⟩)] wx fun e w' => e = .returned (.string { data := #[120, 45, 121] }) ∧ Mt w.heap.size w r bx bmx [a, b] mt3 w') := fun wx h => (rmText_any h.room).mono fun e w' ⟨h1, h2⟩ => ⟨by rw [h1, mt_t], h.grow h2⟩
  have CA : Hid (∀ {r bx bmx a b : Nat} wx, Mt w.heap.size w r bx bmx [a, b] mt3 wx → Calls Tryz.prog 54 #[.pointer (some ⟨a, 0, none⟩)] wx fun e w' => e = .returned (.string { data := #[120, 45, 121] }) ∧ Mt w.heap.size w r bx bmx [a, b] mt3 w') := fun wx h => by
    obtain ⟨b', hb', hcl⟩ := rm_client h.room (k := 0) (by omega)
    obtain rfl := Option.some.inj hb'
    exact (clText_any hcl).mono fun e w' ⟨h1, h2⟩ => ⟨by rw [h1, mt_d0], h.grow h2⟩
  have CB : Hid (∀ {r bx bmx a b : Nat} wx, Mt w.heap.size w r bx bmx [a, b] mt3 wx → Calls Tryz.prog 54 #[.pointer (some ⟨b, 0, none⟩)] wx fun e w' => e = .returned (.string { data := #[120, 45, 121] }) ∧ Mt w.heap.size w r bx bmx [a, b] mt3 w') := fun wx h => by
    obtain ⟨b', hb', hcl⟩ := rm_client h.room (k := 1) (by omega)
    obtain rfl := Option.some.inj hb'
    exact (clText_any hcl).mono fun e w' ⟨h1, h2⟩ => ⟨by rw [h1, mt_d1], h.grow h2⟩
  clear I0 I1 I2 I3 I4 l3 l4 p2 p3 L1 L2 L4 he
  go_enter Tryz.func77, Tryz.ntmps77
  go_wp2_with (first
    | (go_at_call 60; refine (CN.out _ _ (HB0.out _) (ints_two w 1 2)).mono ?_; rintro e w1 ⟨r, bx, bmx, a, b, rfl, h1⟩; have H1 : Hid _ := h1; clear h1)
    | (go_at_call 62; refine (CC0.out _ H1.out).mono ?_; rintro e w2 ⟨rfl, h1⟩; have H2 : Hid _ := h1; clear h1 H1)
    | (go_at_call 62; refine (CC1.out _ H2.out).mono ?_; rintro e w3 ⟨rfl, h1⟩; have H3 : Hid _ := h1; clear h1 H2)
    | (go_at_call 47; refine (CE0.out _ _ (H3.out.grow ((Below.refl _ _).alloc (Nat.le_refl _) _)) (opAt_two w3 ⟨0, 0, [120]⟩ ⟨1, 0, []⟩)).mono ?_; rintro e w4 ⟨rfl, h1⟩; have H4 : Hid _ := h1; clear h1 H3)
    | (go_at_call 47; refine (CE1.out _ _ (H4.out.grow ((Below.refl _ _).alloc (Nat.le_refl _) _)) (opAt_two w4 ⟨1, 0, []⟩ ⟨0, 0, [121]⟩)).mono ?_; rintro e w5 ⟨rfl, h1⟩; have H5 : Hid _ := h1; clear h1 H4)
    | (go_at_call 71; refine (CQ2.out _ H5.out).mono ?_; rintro e w6 ⟨rfl, h1⟩; have H6 : Hid _ := h1; clear h1 H5)
    | (go_at_call 71; refine (CQ3.out _ H6.out).mono ?_; rintro e w7 ⟨rfl, h1⟩; have H7 : Hid _ := h1; clear h1 H6)
    | (go_at_call 75; refine (CT.out _ H7.out).mono ?_; rintro e w8 ⟨rfl, h1⟩; have H8 : Hid _ := h1; clear h1 H7)
    | (go_at_call 54; refine (CA.out _ H8.out).mono ?_; rintro e w9 ⟨rfl, h1⟩; have H9 : Hid _ := h1; clear h1 H8)
    | (go_at_call 54; refine (CB.out _ H9.out).mono ?_; rintro e w10 ⟨rfl, h1⟩; have H10 : Hid _ := h1; clear h1 H9)
    | fail)
  go_ret
  exact ⟨rfl, H10.out.low⟩
end Go.Proofs.YtedgnlgjmnccgabGreatDoor
