/-
  room.comes: what a packet brings about.
-/
import Derived.Test.YtedgnlgjmnccgabGreatDoorRoomTell
import Derived.Test.YtedgnlgjmnccgabGreatDoorClNew
import Derived.Test.YtedgnlgjmnccgabGreatDoorSrvStep
namespace Go.Proofs.YtedgnlgjmnccgabGreatDoor
open Go.RowKit Go.Maps
set_option linter.unusedVariables false
attribute [local go_sem] Oper.semAt_some yieldsUpon okUpon

/-- What the program finds laid. -/
structure Env (lo : Nat) (w : World) : Prop where
  lay : asLaid w
  tabs : Lib.Utf8Tabs 2 3 w
  g1 : 0 < lo
  g2 : 2 < lo ∧ 3 < lo
theorem Env.below {lo : Nat} {w w' : World} (h : Env lo w) (hb : Below w.heap.size w w') : Env lo w' := ⟨asLaid_below h.lay hb, Go.Proofs.Utf8Tabs_below h.tabs hb, h.g1, h.g2⟩
theorem Env.same {lo : Nat} {w w' : World} {X : Nat → Prop} (h : Env lo w) (hs : sameBut w w' X) (hX : ∀ k, X k → lo ≤ k) : Env lo w' :=
  ⟨asLaid_same h.lay hs fun e => absurd (hX _ e) (Nat.not_le.2 h.g1), tabs_same h.tabs hs (fun e => absurd (hX _ e) (Nat.not_le.2 h.g2.1)) fun e => absurd (hX _ e) (Nat.not_le.2 h.g2.2), h.g1, h.g2⟩
theorem Env.room {lo bmx : Nat} {w w' : World} (h : Env lo w) (hs : sameBut w w' (touchM lo w bmx)) : Env lo w' := h.same hs fun k e => e.1
theorem good_small {x : List Pt} {t : List UInt8} (h : good x t) (h1 : t.length ≤ 10000) (h2 : putsP x ≤ 10000) : (∀ p ∈ x, wfP p) ∧ x.length ≤ 20000 := by
  refine ⟨h.wf (by omega), ?_⟩
  have h3 := len_wts x h.one
  rw [h.wt] at h3
  omega
/-- Three blocks that stand. -/
structure ZB (r β g : Nat) (Br Bβ Bg : Obj) (wx : World) : Prop where
  b1 : wx.heap[r]? = some Br
  b2 : wx.heap[β]? = some Bβ
  b3 : wx.heap[g]? = some Bg
theorem ZB.grow {r β g : Nat} {Br Bβ Bg : Obj} {w w' : World} (h : ZB r β g Br Bβ Bg w) (hb : Below w.heap.size w w') : ZB r β g Br Bβ Bg w' :=
  ⟨(hb.block r (Array.getElem?_eq_some_iff.1 h.b1).1).trans h.b1, (hb.block β (Array.getElem?_eq_some_iff.1 h.b2).1).trans h.b2, (hb.block g (Array.getElem?_eq_some_iff.1 h.b3).1).trans h.b3⟩
theorem ZB.same {r β g : Nat} {Br Bβ Bg : Obj} {w w' : World} {X : Nat → Prop} (h : ZB r β g Br Bβ Bg w) (hs : sameBut w w' X) (n1 : ¬ X r) (n2 : ¬ X β) (n3 : ¬ X g) : ZB r β g Br Bβ Bg w' :=
  ⟨(hs.2 r (Array.getElem?_eq_some_iff.1 h.b1).1 n1).trans h.b1, (hs.2 β (Array.getElem?_eq_some_iff.1 h.b2).1 n2).trans h.b2, (hs.2 g (Array.getElem?_eq_some_iff.1 h.b3).1 n3).trans h.b3⟩
/-- A packet in its box, beside a room. -/
theorem rm_box {lo : Nat} {w : World} {r bx bmx : Nat} {bs : List Nat} {R : Rm} (h : isRoom lo w r bx bmx bs R) (p : Pk) {pv : Option Addr} {cv : Nat} (hx : opX lo w (.slice pv p.x.op.length cv) p.x.op) :
    isRoom lo (w.alloc (.cells #[.int .i64 p.kind, .int .i64 (p.c : Int), .int .i64 p.rev, .int .i64 p.id, .int .i64 p.x.c, .int .i64 p.x.i, .slice pv p.x.op.length cv] 219)) r bx bmx bs R ∧ opX lo (w.alloc (.cells #[.int .i64 p.kind, .int .i64 (p.c : Int), .int .i64 p.rev, .int .i64 p.id, .int .i64 p.x.c, .int .i64 p.x.i, .slice pv p.x.op.length cv] 219)) (.slice pv p.x.op.length cv) p.x.op ∧
      Below w.heap.size w (w.alloc (.cells #[.int .i64 p.kind, .int .i64 (p.c : Int), .int .i64 p.rev, .int .i64 p.id, .int .i64 p.x.c, .int .i64 p.x.i, .slice pv p.x.op.length cv] 219)) ∧ (w.alloc (.cells #[.int .i64 p.kind, .int .i64 (p.c : Int), .int .i64 p.rev, .int .i64 p.id, .int .i64 p.x.c, .int .i64 p.x.i, .slice pv p.x.op.length cv] 219)).heap[w.heap.size]? = some (.cells #[.int .i64 p.kind, .int .i64 (p.c : Int), .int .i64 p.rev, .int .i64 p.id, .int .i64 p.x.c, .int .i64 p.x.i, .slice pv p.x.op.length cv] 219 (0, 0)) := by
  have hb : Below w.heap.size w (w.alloc (.cells #[.int .i64 p.kind, .int .i64 (p.c : Int), .int .i64 p.rev, .int .i64 p.id, .int .i64 p.x.c, .int .i64 p.x.i, .slice pv p.x.op.length cv] 219)) := (Below.refl _ _).alloc (Nat.le_refl _) _
  exact ⟨isRoom_below h hb, opX_grown hx hb, hb, heap_alloc_new _ _⟩
/-- One of the clients. -/
theorem rm_client {lo : Nat} {w : World} {r bx bmx : Nat} {bs : List Nat} {R : Rm} (h : isRoom lo w r bx bmx bs R) {k : Nat} (hk : k < R.cl.length) : ∃ b, bs[k]? = some b ∧ isCl lo w b (k : Int) (clK R k).1 (clK R k).2 := by
  have hkb : k < bs.length := by rw [h.cls.len]; exact hk
  refine ⟨bs[k], List.getElem?_eq_getElem hkb, h.cls.each k _ _ (List.getElem?_eq_getElem hkb) ?_⟩
  unfold clK
  rw [List.getElem?_eq_getElem hk]; rfl
theorem rm_row {lo : Nat} {w : World} {bs : List Nat} {pc : Option Addr} {cc k b : Nat} (h : w.ownsRow lo 93 1 (.slice pc bs.length cc) bs.length (ptrs bs)) (hb : bs[k]? = some b) : ∃ g cur, pc = some ⟨g, 0, none⟩ ∧ w.heap[g]? = some (.cells cur 93 (0, 0)) ∧ cur[k]? = some (.pointer (some ⟨b, 0, none⟩)) := by
  have hk : k < bs.length := (List.getElem?_eq_some_iff.1 hb).1
  rcases h.2 with ⟨_, hz⟩ | ⟨g, cap, cur, e, h3, h4, h5, h6, h7, h8⟩
  · rw [hz] at hk; exact absurd hk (Nat.not_lt_zero _)
  · injection e with e1 _ _
    refine ⟨g, cur, e1, h4, ?_⟩
    have e2 := congrArg (·[k]?) h8
    simp only [List.getElem?_take, show k < bs.length * 1 by omega, if_true, ptrs_get hb] at e2
    rw [← Array.getElem?_toList]; exact e2
theorem Inv.counts {l0 n : Int} {D : List (List UInt8)} {R : Rm} (h : Inv l0 n D R) (hp : potR R ≤ 10000000000) : R.lost ≤ 10000000000 ∧ R.n ≤ 10000000000 ∧ R.fl.length ≤ 400 := by
  unfold potR at hp
  exact ⟨by omega, by omega, h.room⟩

set_option maxRecDepth 100000 in
set_option maxHeartbeats 2000000 in
theorem rmComes_look {lo : Nat} {w : World} {r bx bmx : Nat} {bs : List Nat} {R : Rm} {l0 n : Int} {D : List (List UInt8)} (h : isRoom lo w r bx bmx bs R) (hi : Inv l0 n D R) (p : Pk) (hp : okPk R.E D R.cl.length p) (hk : p.kind = 2) (v : Value) (hx : opX lo w v p.x.op) (hpot : potR R ≤ 10000000000) :
    Calls Tryz.prog 133 #[.pointer (some ⟨r, 0, none⟩), pkV p v] w fun e w' => e = .returned (.tuple #[]) ∧ isRoom lo w' r bx bmx bs (tellR R p.c p.rev) ∧ sameBut w w' (touchM lo w bmx) := by
  obtain ⟨pv, cv, rfl⟩ := opX_shape hx
  obtain ⟨g1, g2, g3, g4⟩ := rm_box h p hx
  obtain ⟨k1, k2, k3⟩ := hi.counts hpot
  obtain ⟨m, hm⟩ : ∃ m : Nat, p.rev = (m : Int) := ⟨p.rev.toNat, by have := hp.rev.1; omega⟩
  have hml : m ≤ R.E.length := by have := hp.rev.2; omega
  have CT : Hid (∀ wx, Below w.heap.size w wx → Calls Tryz.prog 192 #[.pointer (some ⟨r, 0, none⟩), .int .i64 (p.c : Int), .int .i64 (m : Int)] wx fun e w' => e = .returned (.tuple #[]) ∧ isRoom lo w' r bx bmx bs (tellR R p.c p.rev) ∧ sameBut w w' (touchM lo w bmx)) := fun wx hb => by
    have hr := isRoom_below h hb
    refine (rmTell_ok hr hi.srv hi.few p.c m hml (by omega) k3).mono ?_
    rintro e w' ⟨rfl, a, b⟩
    exact ⟨rfl, by rw [hm]; exact a, touchM_below hb (touchF_M (b.touch hr))⟩
  have HB : Hid _ := g3
  rw [hm] at g3 g4 HB
  unfold pkV
  rw [hm, hk] at *
  generalize p.c = a1 at *
  generalize p.id = a3 at *
  generalize p.x.c = a4 at *
  generalize p.x.i = a5 at *
  generalize p.x.op.length = a6 at *
  clear h hi hp hx g1 g2 g3 g4 hpot k1 k2 k3 hml
  go_enter Tryz.func133, Tryz.ntmps133
  go_wp2_with (first
    | (go_at_call 192; refine (CT.out _ HB.out).mono ?_; rintro e w2 ⟨rfl, h2, hs2⟩; have H2 : Hid _ := h2; have HS2 : Hid _ := hs2; clear h2 hs2)
    | fail)
  go_end0
  exact ⟨rfl, H2.out, HS2.out⟩
set_option maxRecDepth 100000 in
set_option maxHeartbeats 2000000 in
theorem rmComes_told {lo : Nat} {w : World} {r bx bmx : Nat} {bs : List Nat} {R : Rm} {l0 n : Int} {D : List (List UInt8)} (he : Env lo w) (h : isRoom lo w r bx bmx bs R) (hi : Inv l0 n D R) (hn : n ≤ 100000) (p : Pk) (hp : okPk R.E D R.cl.length p) (hk : p.kind = 3) (v : Value) (hx : opX lo w v p.x.op) (hbl : bs.length ≤ 1000) :
    Calls Tryz.prog 133 #[.pointer (some ⟨r, 0, none⟩), pkV p v] w fun e w' => e = .returned (.tuple #[]) ∧ isRoom lo w' r bx bmx bs (setC R p.c (tkS (p.c : Int) (clK R p.c).2 p.rev p.x.c p.x.i p.x.op)) ∧ sameBut w w' (touchM lo w bmx) := by
  obtain ⟨pv, cv, rfl⟩ := opX_shape hx
  obtain ⟨g1, g2, g3, g4⟩ := rm_box h p hx
  obtain ⟨b, hb, _⟩ := rm_client h hp.c
  obtain ⟨pc, cc, pf, cf, h2, h3, _⟩ := isRoom_cells h
  obtain ⟨g, cur, rfl, hg, hcur⟩ := rm_row h3 hb
  obtain ⟨_, hck⟩ := hi.clk hp.c
  have hsm := hck.small hi.lk
  have hrl := hck.revle hi.lk
  have hE := hi.few
  have hpx := hi.lk.puts (hp.told hk)
  obtain ⟨d, hd, _, hdl⟩ := hi.lk.at_ (i := p.rev.toNat) (by have := hp.rev; omega)
  obtain ⟨hgd, _⟩ := hi.lk.link _ _ _ (hp.told hk) hd
  obtain ⟨hwf, hxl⟩ := good_small hgd (by omega) (by omega)
  have CC : Hid (∀ wx, Below w.heap.size w wx → Calls Tryz.prog 49 #[.pointer (some ⟨b, 0, none⟩), .int .i64 p.rev, .agg #[.int .i64 p.x.c, .int .i64 p.x.i, .slice pv p.x.op.length cv]] wx fun e w' => ∃ u, e = .returned u ∧ isRoom lo w' r bx bmx bs (setC R p.c (tkS (p.c : Int) (clK R p.c).2 p.rev p.x.c p.x.i p.x.op)) ∧ sameBut w w' (touchM lo w bmx) ∧ ∀ β, w.heap.size ≤ β → ZB r β g (.cells #[.pointer (some ⟨bx, 0, none⟩), .slice (some ⟨g, 0, none⟩) bs.length cc, .slice pf R.fl.length cf, .int .i64 (R.lost : Int)] 215 (0, 0)) (.cells #[.int .i64 p.kind, .int .i64 (p.c : Int), .int .i64 p.rev, .int .i64 p.id, .int .i64 p.x.c, .int .i64 p.x.i, .slice pv p.x.op.length cv] 219 (0, 0)) (.cells cur 93 (0, 0)) wx → ZB r β g (.cells #[.pointer (some ⟨bx, 0, none⟩), .slice (some ⟨g, 0, none⟩) bs.length cc, .slice pf R.fl.length cf, .int .i64 (R.lost : Int)] 215 (0, 0)) (.cells #[.int .i64 p.kind, .int .i64 (p.c : Int), .int .i64 p.rev, .int .i64 p.id, .int .i64 p.x.c, .int .i64 p.x.i, .slice pv p.x.op.length cv] 219 (0, 0)) (.cells cur 93 (0, 0)) w') := fun wx hbw => by
    have hr := isRoom_below h hbw
    have he := he.below hbw
    have hx := opX_grown hx hbw
    obtain ⟨b', hb', hc⟩ := rm_client hr hp.c
    rw [hb] at hb'
    obtain rfl := Option.some.inj hb'
    refine Calls.mono (clTake_any hc hck.ok hck.unit p.rev p.x.c p.x.i (.slice pv p.x.op.length cv) p.x.op (opX_grown hx (Below.refl _ _)) hwf (by omega) (by omega) (by omega) ⟨hck.id.1, by have := hck.id.2; split at this <;> omega⟩ ⟨hck.rev, by omega⟩ he.g2 he.tabs) ?_
    rintro e w' ⟨rfl, a, c⟩
    obtain ⟨i1, i2⟩ := isRoom_client hr hb a c
    have no : ∀ x cs T fz, wx.heap[x]? = some (.cells cs T fz) → T ≠ 203 → T ≠ 23 → ¬ ownC wx b x := fun x cs T fz hx t1 t2 ho => by
      obtain ⟨_, _, cs', T', hc', hT⟩ := ownC_of hc ho
      have := not_type hx hc'
      subst this
      rcases hT with e | e
      · exact t1 e
      · exact t2 e
    exact ⟨_, rfl, i1, touchM_below hbw i2, fun β _ hz => hz.same c.1 (no _ _ _ _ hz.b1 (by decide) (by decide)) (no _ _ _ _ hz.b2 (by decide) (by decide)) (no _ _ _ _ hz.b3 (by decide) (by decide))⟩
  have HB : Hid _ := g3
  have HZ : Hid (ZB r w.heap.size g (.cells #[.pointer (some ⟨bx, 0, none⟩), .slice (some ⟨g, 0, none⟩) bs.length cc, .slice pf R.fl.length cf, .int .i64 (R.lost : Int)] 215 (0, 0)) (.cells #[.int .i64 p.kind, .int .i64 (p.c : Int), .int .i64 p.rev, .int .i64 p.id, .int .i64 p.x.c, .int .i64 p.x.i, .slice pv p.x.op.length cv] 219 (0, 0)) (.cells cur 93 (0, 0)) (w.alloc (.cells #[.int .i64 p.kind, .int .i64 (p.c : Int), .int .i64 p.rev, .int .i64 p.id, .int .i64 p.x.c, .int .i64 p.x.i, .slice pv p.x.op.length cv] 219))) :=
    ⟨(g3.block r (isRoom_lt h)).trans h2, g4, (g3.block g (Array.getElem?_eq_some_iff.1 hg).1).trans hg⟩
  have hkb : p.c < bs.length := (List.getElem?_eq_some_iff.1 hb).1
  have hki : (p.c : Int) < (bs.length : Int) := by omega
  have hbi : (bs.length : Int) ≤ 1000 := by omega
  unfold pkV
  rw [hk] at *
  obtain ⟨β, hβ⟩ : ∃ β, w.heap.size = β := ⟨_, rfl⟩
  have HBT : Hid (w.heap.size = β) := hβ
  rw [hβ] at HZ
  generalize hR' : setC R p.c (tkS (p.c : Int) (clK R p.c).2 p.rev p.x.c p.x.i p.x.op) = R' at *
  generalize p.c = a1 at *
  generalize p.rev = a2 at *
  generalize p.id = a3 at *
  generalize p.x.c = a4 at *
  generalize p.x.i = a5 at *
  generalize p.x.op.length = a6 at *
  generalize R.fl.length = a7 at *
  generalize (R.lost : Int) = a8 at *
  have HCUR : Hid (cur[a1]? = some (.pointer (some ⟨b, 0, none⟩))) := hcur
  clear h hi hp hx g1 g2 g3 g4 h2 h3 hg hcur hck hsm hrl hE he hb hR' hβ hpx hd hdl hgd hwf hxl
  go_enter Tryz.func133, Tryz.ntmps133
  go_wp2
  refine wp_region_set (fun wx : World => ZB r β g (.cells #[.pointer (some ⟨bx, 0, none⟩), .slice (some ⟨g, 0, none⟩) bs.length cc, .slice pf a7 cf, .int .i64 a8] 215 (0, 0)) (.cells #[.int .i64 3, .int .i64 (a1 : Int), .int .i64 a2, .int .i64 a3, .int .i64 a4, .int .i64 a5, .slice pv a6 cv] 219 (0, 0)) (.cells cur 93 (0, 0)) wx) 13 13 (by kernel_rfl) rfl ?_
  intro w30 hb30
  have hz1 := HZ.out.grow hb30
  have hbA := HB.out.trans (hb30.mono HB.out.size)
  obtain ⟨G, hG⟩ := exists_growZ (Z := fun wx : World => ZB r β g (.cells #[.pointer (some ⟨bx, 0, none⟩), .slice (some ⟨g, 0, none⟩) bs.length cc, .slice pf a7 cf, .int .i64 a8] 215 (0, 0)) (.cells #[.int .i64 3, .int .i64 (a1 : Int), .int .i64 a2, .int .i64 a3, .int .i64 a4, .int .i64 a5, .slice pv a6 cv] 219 (0, 0)) (.cells cur 93 (0, 0)) wx) hz1 (fun {w w'} h hb => ZB.grow h hb)
  have y1 : ∀ y, (G y).cell? ⟨r, 1, none⟩ = some (.slice (some ⟨g, 0, none⟩) bs.length cc) := fun y => Lib.cell_of_heap (hG.but y).b1 1
  have yg : ∀ y, (G y).cell? ⟨g, a1, none⟩ = some (.pointer (some ⟨b, 0, none⟩)) := fun y => (Lib.cell_of_heap (hG.but y).b3 a1).trans HCUR.out
  have c1 : ∀ y, (G y).cell? ⟨β, 1, none⟩ = some (.int .i64 (a1 : Int)) := fun y => Lib.cell_of_heap (hG.but y).b2 1
  have c2 : ∀ y, (G y).cell? ⟨β, 2, none⟩ = some (.int .i64 a2) := fun y => Lib.cell_of_heap (hG.but y).b2 2
  have c3 : ∀ y, (G y).cell? ⟨β, 3, none⟩ = some (.int .i64 a3) := fun y => Lib.cell_of_heap (hG.but y).b2 3
  have c4 : ∀ y, (G y).cell? ⟨β, 4, none⟩ = some (.int .i64 a4) := fun y => Lib.cell_of_heap (hG.but y).b2 4
  have c5 : ∀ y, (G y).cell? ⟨β, 5, none⟩ = some (.int .i64 a5) := fun y => Lib.cell_of_heap (hG.but y).b2 5
  have c6 : ∀ y, (G y).cell? ⟨β, 6, none⟩ = some (.slice pv a6 cv) := fun y => Lib.cell_of_heap (hG.but y).b2 6
  rw [HBT.out]
  (refine anyZ_step hG hz1 (i := 0) rfl (by kernel_rfl) (by kernel_rfl) (by kernel_rfl) (fun K hK => ?_); go_simp; refine hK _ ?_; clear hK K)
  (refine anyZ_step hG hz1 (i := 1) rfl (by kernel_rfl) (by kernel_rfl) (by kernel_rfl) (fun K hK => ?_); go_simp; refine hK _ ?_; clear hK K)
  (refine anyZ_step hG hz1 (i := 2) rfl (by kernel_rfl) (by kernel_rfl) (by kernel_rfl) (fun K hK => ?_); go_simp; refine hK _ ?_; clear hK K)
  (refine anyZ_step hG hz1 (i := 3) rfl (by kernel_rfl) (by kernel_rfl) (by kernel_rfl) (fun K hK => ?_); go_simp; refine hK _ ?_; clear hK K)
  (refine anyZ_step hG hz1 (i := 4) rfl (by kernel_rfl) (by kernel_rfl) (by kernel_rfl) (fun K hK => ?_); go_simp; refine hK _ ?_; clear hK K)
  (refine anyZ_step hG hz1 (i := 5) rfl (by kernel_rfl) (by kernel_rfl) (by kernel_rfl) (fun K hK => ?_); go_simp; refine hK _ ?_; clear hK K)
  (refine anyZ_step hG hz1 (i := 6) rfl (by kernel_rfl) (by kernel_rfl) (by kernel_rfl) (fun K hK => ?_); go_simp; refine hK _ ?_; clear hK K)
  (refine anyZ_step hG hz1 (i := 7) rfl (by kernel_rfl) (by kernel_rfl) (by kernel_rfl) (fun K hK => ?_); go_simp; refine hK _ ?_; clear hK K)
  (refine anyZ_step hG hz1 (i := 8) rfl (by kernel_rfl) (by kernel_rfl) (by kernel_rfl) (fun K hK => ?_); go_simp; refine hK _ ?_; clear hK K)
  (refine anyZ_step hG hz1 (i := 9) rfl (by kernel_rfl) (by kernel_rfl) (by kernel_rfl) (fun K hK => ?_); go_simp; refine hK _ ?_; clear hK K)
  (refine anyZ_step hG hz1 (i := 10) rfl (by kernel_rfl) (by kernel_rfl) (by kernel_rfl) (fun K hK => ?_); go_simp; refine hK _ ?_; clear hK K)
  (refine anyZ_step hG hz1 (i := 11) rfl (by kernel_rfl) (by kernel_rfl) (by kernel_rfl) (fun K hK => ?_); go_simp; refine hK _ ?_; clear hK K)
  clear y1 yg c1 c2 c3 c4 c5 c6 hG
  refine anyZ_one (i := 12) (by kernel_rfl) ⟨_, rfl, ?_⟩
  intro w31 hb31 K hK
  have hz2 := hz1.grow hb31
  have hbB := hbA.trans (hb31.mono hbA.size)
  go_simp
  refine (CC.out w31 hbB).mono ?_
  rintro e w2 ⟨u, rfl, h2, hs2, hzz⟩
  refine ⟨_, rfl, hK _ _ (fun hz => hzz β (Nat.le_of_eq HBT.out) hz) ?_⟩
  have H2 : Hid _ := h2
  have HS2 : Hid _ := hs2
  clear hK K hz1 hz2 hbA hbB hb30 hb31 h2 hs2 hzz
  refine anyZ_end (by kernel_rfl) ?_
  intro w3 hb3
  have HB3 : Hid _ := hb3
  clear hb3
  go_wp2
  go_end0
  exact ⟨rfl, isRoom_below H2.out HB3.out, touchM_after HS2.out HB3.out⟩
set_option maxRecDepth 100000 in
set_option maxHeartbeats 2000000 in
theorem rmComes_refuse {lo : Nat} {w : World} {r bx bmx : Nat} {bs : List Nat} {R : Rm} {l0 n : Int} {D : List (List UInt8)} (he : Env lo w) (h : isRoom lo w r bx bmx bs R) (hi : Inv l0 n D R) (hn : n ≤ 100000) (p : Pk) (hp : okPk R.E D R.cl.length p) (hk : p.kind = 4) (v : Value) (hx : opX lo w v p.x.op) (hbl : bs.length ≤ 1000) :
    Calls Tryz.prog 133 #[.pointer (some ⟨r, 0, none⟩), pkV p v] w fun e w' => e = .returned (.tuple #[]) ∧ isRoom lo w' r bx bmx bs (setC R p.c (rfS (clK R p.c).2 p.id)) ∧ sameBut w w' (touchM lo w bmx) := by
  obtain ⟨pv, cv, rfl⟩ := opX_shape hx
  obtain ⟨g1, g2, g3, g4⟩ := rm_box h p hx
  obtain ⟨b, hb, _⟩ := rm_client h hp.c
  obtain ⟨pc, cc, pf, cf, h2, h3, _⟩ := isRoom_cells h
  obtain ⟨g, cur, rfl, hg, hcur⟩ := rm_row h3 hb
  obtain ⟨_, hck⟩ := hi.clk hp.c
  have hsm := hck.small hi.lk
  have hrl := hck.revle hi.lk
  have hE := hi.few
  have CC : Hid (∀ wx, Below w.heap.size w wx → Calls Tryz.prog 51 #[.pointer (some ⟨b, 0, none⟩), .int .i64 p.id] wx fun e w' => e = .returned (.tuple #[]) ∧ isRoom lo w' r bx bmx bs (setC R p.c (rfS (clK R p.c).2 p.id)) ∧ sameBut w w' (touchM lo w bmx) ∧ ∀ β, w.heap.size ≤ β → ZB r β g (.cells #[.pointer (some ⟨bx, 0, none⟩), .slice (some ⟨g, 0, none⟩) bs.length cc, .slice pf R.fl.length cf, .int .i64 (R.lost : Int)] 215 (0, 0)) (.cells #[.int .i64 p.kind, .int .i64 (p.c : Int), .int .i64 p.rev, .int .i64 p.id, .int .i64 p.x.c, .int .i64 p.x.i, .slice pv p.x.op.length cv] 219 (0, 0)) (.cells cur 93 (0, 0)) wx → ZB r β g (.cells #[.pointer (some ⟨bx, 0, none⟩), .slice (some ⟨g, 0, none⟩) bs.length cc, .slice pf R.fl.length cf, .int .i64 (R.lost : Int)] 215 (0, 0)) (.cells #[.int .i64 p.kind, .int .i64 (p.c : Int), .int .i64 p.rev, .int .i64 p.id, .int .i64 p.x.c, .int .i64 p.x.i, .slice pv p.x.op.length cv] 219 (0, 0)) (.cells cur 93 (0, 0)) w') := fun wx hbw => by
    have hr := isRoom_below h hbw
    have he := he.below hbw
    have hx := opX_grown hx hbw
    obtain ⟨b', hb', hc⟩ := rm_client hr hp.c
    rw [hb] at hb'
    obtain rfl := Option.some.inj hb'
    refine Calls.mono (clRefuse_any hc p.id ⟨hck.dr.1, by have := hck.dr.2; have := hck.id.2; split at this <;> split at * <;> omega⟩) ?_
    rintro e w' ⟨rfl, a, c⟩
    obtain ⟨i1, i2⟩ := isRoom_client hr hb a c
    have no : ∀ x cs T fz, wx.heap[x]? = some (.cells cs T fz) → T ≠ 203 → T ≠ 23 → ¬ ownC wx b x := fun x cs T fz hx t1 t2 ho => by
      obtain ⟨_, _, cs', T', hc', hT⟩ := ownC_of hc ho
      have := not_type hx hc'
      subst this
      rcases hT with e | e
      · exact t1 e
      · exact t2 e
    exact ⟨rfl, i1, touchM_below hbw i2, fun β _ hz => hz.same c.1 (no _ _ _ _ hz.b1 (by decide) (by decide)) (no _ _ _ _ hz.b2 (by decide) (by decide)) (no _ _ _ _ hz.b3 (by decide) (by decide))⟩
  have HB : Hid _ := g3
  have HZ : Hid (ZB r w.heap.size g (.cells #[.pointer (some ⟨bx, 0, none⟩), .slice (some ⟨g, 0, none⟩) bs.length cc, .slice pf R.fl.length cf, .int .i64 (R.lost : Int)] 215 (0, 0)) (.cells #[.int .i64 p.kind, .int .i64 (p.c : Int), .int .i64 p.rev, .int .i64 p.id, .int .i64 p.x.c, .int .i64 p.x.i, .slice pv p.x.op.length cv] 219 (0, 0)) (.cells cur 93 (0, 0)) (w.alloc (.cells #[.int .i64 p.kind, .int .i64 (p.c : Int), .int .i64 p.rev, .int .i64 p.id, .int .i64 p.x.c, .int .i64 p.x.i, .slice pv p.x.op.length cv] 219))) :=
    ⟨(g3.block r (isRoom_lt h)).trans h2, g4, (g3.block g (Array.getElem?_eq_some_iff.1 hg).1).trans hg⟩
  have hkb : p.c < bs.length := (List.getElem?_eq_some_iff.1 hb).1
  have hki : (p.c : Int) < (bs.length : Int) := by omega
  have hbi : (bs.length : Int) ≤ 1000 := by omega
  unfold pkV
  rw [hk] at *
  obtain ⟨β, hβ⟩ : ∃ β, w.heap.size = β := ⟨_, rfl⟩
  have HBT : Hid (w.heap.size = β) := hβ
  rw [hβ] at HZ
  generalize hR' : setC R p.c (rfS (clK R p.c).2 p.id) = R' at *
  generalize p.c = a1 at *
  generalize p.rev = a2 at *
  generalize p.id = a3 at *
  generalize p.x.c = a4 at *
  generalize p.x.i = a5 at *
  generalize p.x.op.length = a6 at *
  generalize R.fl.length = a7 at *
  generalize (R.lost : Int) = a8 at *
  have HCUR : Hid (cur[a1]? = some (.pointer (some ⟨b, 0, none⟩))) := hcur
  clear h hi hp hx g1 g2 g3 g4 h2 h3 hg hcur hck hsm hrl hE he hb hR' hβ 
  go_enter Tryz.func133, Tryz.ntmps133
  go_wp2
  refine wp_region_set (fun wx : World => ZB r β g (.cells #[.pointer (some ⟨bx, 0, none⟩), .slice (some ⟨g, 0, none⟩) bs.length cc, .slice pf a7 cf, .int .i64 a8] 215 (0, 0)) (.cells #[.int .i64 4, .int .i64 (a1 : Int), .int .i64 a2, .int .i64 a3, .int .i64 a4, .int .i64 a5, .slice pv a6 cv] 219 (0, 0)) (.cells cur 93 (0, 0)) wx) 11 11 (by kernel_rfl) rfl ?_
  intro w30 hb30
  have hz1 := HZ.out.grow hb30
  have hbA := HB.out.trans (hb30.mono HB.out.size)
  obtain ⟨G, hG⟩ := exists_growZ (Z := fun wx : World => ZB r β g (.cells #[.pointer (some ⟨bx, 0, none⟩), .slice (some ⟨g, 0, none⟩) bs.length cc, .slice pf a7 cf, .int .i64 a8] 215 (0, 0)) (.cells #[.int .i64 4, .int .i64 (a1 : Int), .int .i64 a2, .int .i64 a3, .int .i64 a4, .int .i64 a5, .slice pv a6 cv] 219 (0, 0)) (.cells cur 93 (0, 0)) wx) hz1 (fun {w w'} h hb => ZB.grow h hb)
  have y1 : ∀ y, (G y).cell? ⟨r, 1, none⟩ = some (.slice (some ⟨g, 0, none⟩) bs.length cc) := fun y => Lib.cell_of_heap (hG.but y).b1 1
  have yg : ∀ y, (G y).cell? ⟨g, a1, none⟩ = some (.pointer (some ⟨b, 0, none⟩)) := fun y => (Lib.cell_of_heap (hG.but y).b3 a1).trans HCUR.out
  have c1 : ∀ y, (G y).cell? ⟨β, 1, none⟩ = some (.int .i64 (a1 : Int)) := fun y => Lib.cell_of_heap (hG.but y).b2 1
  have c2 : ∀ y, (G y).cell? ⟨β, 2, none⟩ = some (.int .i64 a2) := fun y => Lib.cell_of_heap (hG.but y).b2 2
  have c3 : ∀ y, (G y).cell? ⟨β, 3, none⟩ = some (.int .i64 a3) := fun y => Lib.cell_of_heap (hG.but y).b2 3
  have c4 : ∀ y, (G y).cell? ⟨β, 4, none⟩ = some (.int .i64 a4) := fun y => Lib.cell_of_heap (hG.but y).b2 4
  have c5 : ∀ y, (G y).cell? ⟨β, 5, none⟩ = some (.int .i64 a5) := fun y => Lib.cell_of_heap (hG.but y).b2 5
  have c6 : ∀ y, (G y).cell? ⟨β, 6, none⟩ = some (.slice pv a6 cv) := fun y => Lib.cell_of_heap (hG.but y).b2 6
  rw [HBT.out]
  (refine anyZ_step hG hz1 (i := 0) rfl (by kernel_rfl) (by kernel_rfl) (by kernel_rfl) (fun K hK => ?_); go_simp; refine hK _ ?_; clear hK K)
  (refine anyZ_step hG hz1 (i := 1) rfl (by kernel_rfl) (by kernel_rfl) (by kernel_rfl) (fun K hK => ?_); go_simp; refine hK _ ?_; clear hK K)
  (refine anyZ_step hG hz1 (i := 2) rfl (by kernel_rfl) (by kernel_rfl) (by kernel_rfl) (fun K hK => ?_); go_simp; refine hK _ ?_; clear hK K)
  (refine anyZ_step hG hz1 (i := 3) rfl (by kernel_rfl) (by kernel_rfl) (by kernel_rfl) (fun K hK => ?_); go_simp; refine hK _ ?_; clear hK K)
  (refine anyZ_step hG hz1 (i := 4) rfl (by kernel_rfl) (by kernel_rfl) (by kernel_rfl) (fun K hK => ?_); go_simp; refine hK _ ?_; clear hK K)
  (refine anyZ_step hG hz1 (i := 5) rfl (by kernel_rfl) (by kernel_rfl) (by kernel_rfl) (fun K hK => ?_); go_simp; refine hK _ ?_; clear hK K)
  (refine anyZ_step hG hz1 (i := 6) rfl (by kernel_rfl) (by kernel_rfl) (by kernel_rfl) (fun K hK => ?_); go_simp; refine hK _ ?_; clear hK K)
  (refine anyZ_step hG hz1 (i := 7) rfl (by kernel_rfl) (by kernel_rfl) (by kernel_rfl) (fun K hK => ?_); go_simp; refine hK _ ?_; clear hK K)
  (refine anyZ_step hG hz1 (i := 8) rfl (by kernel_rfl) (by kernel_rfl) (by kernel_rfl) (fun K hK => ?_); go_simp; refine hK _ ?_; clear hK K)
  (refine anyZ_step hG hz1 (i := 9) rfl (by kernel_rfl) (by kernel_rfl) (by kernel_rfl) (fun K hK => ?_); go_simp; refine hK _ ?_; clear hK K)
  clear y1 yg c1 c2 c3 c4 c5 c6 hG
  refine anyZ_one (i := 10) (by kernel_rfl) ⟨_, rfl, ?_⟩
  intro w31 hb31 K hK
  have hz2 := hz1.grow hb31
  have hbB := hbA.trans (hb31.mono hbA.size)
  go_simp
  refine (CC.out w31 hbB).mono ?_
  rintro e w2 ⟨rfl, h2, hs2, hzz⟩
  refine ⟨_, rfl, hK _ _ (fun hz => hzz β (Nat.le_of_eq HBT.out) hz) ?_⟩
  have H2 : Hid _ := h2
  have HS2 : Hid _ := hs2
  clear hK K hz1 hz2 hbA hbB hb30 hb31 h2 hs2 hzz
  refine anyZ_end (by kernel_rfl) ?_
  intro w3 hb3
  have HB3 : Hid _ := hb3
  clear hb3
  go_wp2
  go_end0
  exact ⟨rfl, isRoom_below H2.out HB3.out, touchM_after HS2.out HB3.out⟩
end Go.Proofs.YtedgnlgjmnccgabGreatDoor
