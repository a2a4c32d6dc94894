/-
  ops.Apply: what an operation makes of a text.
-/
import Derived.Test.YtedgnlgjmnccgabGreatDoorOpsOrd
import Derived.Test.YtedgnlgjmnccgabGreatDoorOpsBuild
import Derived.Test.YtedgnlgjmnccgabGreatDoorLoopOwnD
import Derived.Laws.EntriesVeiled
import Derived.Shelf.Strings.BuilderK
namespace Go.Proofs.YtedgnlgjmnccgabGreatDoor
open Go.RowKit
set_option linter.unusedVariables false
attribute [local go_sem] Oper.semAt_some

theorem String_any (B b : Nat) (l : List UInt8) (w : World) (h : Lib.IsBuilder 184 5 B b (Lib.byteCells l) w) (hBw : B ≤ w.heap.size) :
    Calls Tryz.prog 109 #[.pointer (some ⟨b, 0, none⟩)] w fun e w' => e = .returned (.string ⟨l.toArray⟩) ∧ (Below B w w' ∧ Lib.OthersKept 5 (some b) w w') := by
  have c : Calls Tryz.prog 109 #[.pointer (some ⟨b, 0, none⟩)] w fun e w' => e = .returned (.string ⟨l.toArray⟩) ∧ (Lib.IsBuilderF 184 5 B b (Lib.byteCells l) w' ∧ Below B w w' ∧ Lib.OthersKept 5 (some b) w w') := Any.Builder_String_any_k Tryz.lays169 Tryz.Builder_Extra_169 B b l w (.of h) hBw
  exact c.mono fun e w' h => ⟨h.1, h.2.2⟩

/-- What a part makes of its piece. -/
def madeP (x : Pt × List UInt8) : List UInt8 := (if 0 < x.1.keep then x.2 else []) ++ x.1.put
def applyP (ps : List Pt) (s : List UInt8) : List UInt8 := (pcs ps s).flatMap madeP

theorem pcs_len (ps : List Pt) (s : List UInt8) (h : fitsP ps s) : (((pcs ps s).map fun x => x.2.length).sum : Nat) ≤ s.length := by
  induction ps generalizing s with
  | nil => simp [pcs]
  | cons p ps ih =>
    obtain ⟨h1, h2, h3, h4⟩ := h
    have := ih _ h4
    simp only [pcs, List.map_cons, List.sum_cons]
    rw [List.length_take]
    rw [List.length_drop] at this
    omega
theorem pcs_puts (ps : List Pt) (s : List UInt8) : (pcs ps s).map (fun x => x.1.put.length) = ps.map fun p => p.put.length := by
  induction ps generalizing s with
  | nil => rfl
  | cons p ps ih => simp [pcs, ih]
def putsP (ps : List Pt) : Nat := (ps.map fun p => p.put.length).sum
theorem made_len (l : List (Pt × List UInt8)) : (l.flatMap madeP).length ≤ (l.map fun x => x.2.length).sum + (l.map fun x => x.1.put.length).sum := by
  induction l with
  | nil => simp
  | cons x l ih =>
    simp only [List.flatMap_cons, List.length_append, List.map_cons, List.sum_cons]
    have : (madeP x).length ≤ x.2.length + x.1.put.length := by
      unfold madeP
      rw [List.length_append]
      split <;> simp
    omega
theorem made_pre {ps : List Pt} {s : List UInt8} (h : fitsP ps s) {pre rest : List (Pt × List UInt8)} (e : pcs ps s = pre ++ rest) : (pre.flatMap madeP).length ≤ s.length + putsP ps := by
  have h1 := made_len pre
  have h2 := pcs_len ps s h
  have h3 := congrArg List.sum (pcs_puts ps s)
  rw [e] at h2 h3
  rw [List.map_append, List.sum_append] at h2 h3
  unfold putsP
  omega

theorem own_put {A B : World} {n N e size k : Nat} {v : Value} {xs : List Value} {r : Loop} (h : A.ownsRow N e size v k xs) (hn : A.heap[n]? = some (.loop r)) (hp : Put1 n A B) : B.ownsRow N e size v k xs := by
  obtain ⟨h0, hrow⟩ := h
  refine ⟨h0, ?_⟩
  rcases hrow with hx | ⟨g, cap, cur, rfl, hg, hgg, rest⟩
  · exact .inl hx
  · refine .inr ⟨g, cap, cur, rfl, hg, (hp.block g ?_).trans hgg, rest⟩
    rintro rfl
    rw [hn] at hgg
    cases hgg
theorem bld_at {T e B b : Nat} {p : Value} {bs : List Value} {w w' : World} (h : Lib.BuilderAt T e B b p bs w) (hb : w'.heap[b]? = w.heap[b]?) (ho : ∀ v, w.ownsRow B e 1 v bs.length bs → w'.ownsRow B e 1 v bs.length bs) : Lib.BuilderAt T e B b p bs w' := by
  obtain ⟨h1, v, h2, h3, h4⟩ := h
  exact ⟨h1, v, hb.trans h2, ho v h3, h4⟩
theorem bld_is {T e B b : Nat} {bs : List Value} {w w' : World} (h : Lib.IsBuilder T e B b bs w) (hb : w'.heap[b]? = w.heap[b]?) (ho : ∀ v, w.ownsRow B e 1 v bs.length bs → w'.ownsRow B e 1 v bs.length bs) : Lib.IsBuilder T e B b bs w' :=
  h.elim (fun h => .inl (bld_at h hb ho)) (fun h => .inr (bld_at h hb ho))
/-- What a round of Apply's loop keeps. -/
structure apI (w : World) (β : Nat) (v1 v2 : Value) (r : Loop) (bs : List UInt8) (A : World) : Prop where
  below : Below w.heap.size w A
  size : β + 5 ≤ A.heap.size
  bld : Lib.IsBuilder 184 5 β β (Lib.byteCells bs) A
  h1 : A.heap[β + 1]? = some (.cells #[v1] 23 (0, 0))
  h2 : A.heap[β + 2]? = some (.cells #[v2] 9 (0, 0))
  h3 : A.heap[β + 3]? = some (.deferred (some []))
  h4 : A.heap[β + 4]? = some (.loop r)
theorem apI.grow {w : World} {β : Nat} {v1 v2 : Value} {r : Loop} {bs : List UInt8} {A B : World} (h : apI w β v1 v2 r bs A) (hb : Below A.heap.size A B) : apI w β v1 v2 r bs B := by
  have hs := h.size
  exact ⟨h.below.trans (hb.mono h.below.size), Nat.le_trans hs hb.size, bld_is h.bld (hb.block β (by omega)) (fun v hv => own_below hv hb), (hb.block (β + 1) (by omega)).trans h.h1, (hb.block (β + 2) (by omega)).trans h.h2, (hb.block (β + 3) (by omega)).trans h.h3, (hb.block (β + 4) (by omega)).trans h.h4⟩
theorem apI.put {w : World} {β : Nat} {v1 v2 : Value} {r r' : Loop} {bs : List UInt8} {A B : World} (h : apI w β v1 v2 r bs A) (hw : w.heap.size ≤ β) (hp : Put1 (β + 4) A B) (hl : B.heap[β + 4]? = some (.loop r')) : apI w β v1 v2 r' bs B :=
  ⟨h.below.trans (hp.below (by omega)), by rw [hp.size]; exact h.size, bld_is h.bld (hp.block β (by omega)) (fun v hv => own_put hv h.h4 hp), (hp.block (β + 1) (by omega)).trans h.h1, (hp.block (β + 2) (by omega)).trans h.h2, (hp.block (β + 3) (by omega)).trans h.h3, hl⟩
theorem apI.wrote {w : World} {β : Nat} {v1 v2 : Value} {r : Loop} {bs u : List UInt8} {A B : World} (h : apI w β v1 v2 r bs A) (hw : w.heap.size ≤ β) (h1 : Lib.IsBuilder 184 5 β β (Lib.byteCells bs ++ Lib.strCells ⟨u.toArray⟩) B) (h2 : Below β A B) (h3 : Lib.OthersKept 5 (some β) A B) : apI w β v1 v2 r (bs ++ u) B := by
  refine ⟨h.below.trans (h2.mono hw), Nat.le_trans h.size h2.size, ?_, h3 _ _ h.h1 (by simp) (by intro c fz e; cases e), h3 _ _ h.h2 (by simp) (by intro c fz e; cases e), h3 _ _ h.h3 (by simp) (by intro c fz e; cases e), h3 _ _ h.h4 (by simp) (by intro c fz e; cases e)⟩
  rw [Lib.byteCells_append]
  exact h1

theorem apI.kept {w : World} {β : Nat} {v1 v2 : Value} {r : Loop} {bs bs' : List UInt8} {A B : World} (h : apI w β v1 v2 r bs A) (h' : apI w β v1 v2 r bs' B) (hs : A.heap.size ≤ B.heap.size) :
    Same2 (β + 3) A B ∧ A.heap.size ≤ B.heap.size ∧ ∀ (x : Nat), x = β + 1 ∨ x = β + 1 + 1 ∨ x < w.heap.size → B.heap[x]? = A.heap[x]? := by
  refine ⟨⟨h'.h3.trans h.h3.symm, h'.h4.trans h.h4.symm⟩, hs, ?_⟩
  rintro x (rfl | rfl | hx)
  · exact h'.h1.trans h.h1.symm
  · exact h'.h2.trans h.h2.symm
  · exact (h'.below.block x hx).trans (h.below.block x hx).symm

set_option maxRecDepth 100000 in
set_option maxHeartbeats 2000000 in
theorem Apply_err (v : Value) (ps : List Pt) (s : List UInt8) (w : World) (hT : Lib.Utf8Tabs 2 3 w) (hr : opAt w v ps) (hwf : ∀ p ∈ ps, wfP p) (hs : s.length < 1000000000) (hl : ps.length < 10000000) (he : ordE ps s ≠ 0) :
    Calls Tryz.prog 29 #[v, .string ⟨s.toArray⟩] w fun e w' => e = .returned (.tuple #[.string ⟨#[]⟩, errV (ordE ps s)]) ∧ Below w.heap.size w w' := by
  have cC : Hid _ := checkOver_any v ps s w hT hr hwf hs hl
  have hV : errV (ordE ps s) = .iface 26 (.int .i64 (ordE ps s)) := by unfold errV; rw [if_neg he]
  rw [hV] at cC ⊢
  generalize ordE ps s = E at *
  obtain ⟨p, c, rfl, _⟩ := hr
  clear hT hwf hV
  go_enter Tryz.func29, Tryz.ntmps29
  go_wp2_with (first | (go_at_call 105; refine Calls.mono cC.out ?_; rintro e w1 ⟨rfl, hb1⟩) | fail)
  go_ret2
  exact ⟨rfl, hb1⟩

set_option maxRecDepth 100000 in
set_option maxHeartbeats 16000000 in
theorem Apply_fine (v : Value) (ps : List Pt) (s : List UInt8) (w : World) (hT : Lib.Utf8Tabs 2 3 w) (hr : opAt w v ps) (hwf : ∀ p ∈ ps, wfP p) (hs : s.length < 1000000000) (hl : ps.length < 10000000) (hpu : putsP ps < 100000000000) (he : chkE ps (s.length : Int) = 0) (hbad : badO ps s = false) :
    Calls Tryz.prog 29 #[v, .string ⟨s.toArray⟩] w fun e w' => e = .returned (.tuple #[.string ⟨(applyP ps s).toArray⟩, .nilIface]) ∧ Below w.heap.size w w' := by
  have cC : Hid _ := checkOver_any v ps s w hT hr hwf hs hl
  obtain ⟨hfit, hleft⟩ := chkE_fits he
  have hV : errV (ordE ps s) = .nilIface := by unfold ordE; rw [if_pos he, hbad]; rfl
  rw [hV] at cC
  have HF : Hid (fitsP ps s) := hfit
  have HR : Hid (opAt w v ps) := hr
  have HSL : Hid (s.length < 1000000000) := hs
  have HLP : Hid (ps.length < 10000000) := hl
  have HPU : Hid (putsP ps < 100000000000) := hpu
  have hrow : ∀ x o n c, v = .slice (some ⟨x, o, none⟩) n c → ps ≠ [] → x < w.heap.size := by
    intro x o n c e hne
    obtain ⟨p, c', rfl, _, _, h3⟩ := hr
    obtain ⟨b, o', e1, e2, _⟩ := h3 hne
    simp only [Value.slice.injEq] at e
    rw [e.1] at e1
    simp only [Option.some.injEq, Addr.mk.injEq] at e1
    rw [e1.1]; exact e2
  have HROW : Hid _ := hrow
  obtain ⟨p, c, rfl, _⟩ := hr
  obtain ⟨S, hS⟩ : ∃ S : ByteArray, (ByteArray.mk (applyP ps s).toArray) = S := ⟨_, rfl⟩
  have HS : Hid (ByteArray.mk (applyP ps s).toArray = S) := hS
  rw [hS]
  clear hT hwf hV hfit hleft hrow he hbad hS hpu
  have cO := fun (wx : World) => over_any p ps.length c ⟨s.toArray⟩ wx
  refine (callsIn_wide (n := 3)).1 ?_
  refine callsIn_of_wp_marks Tryz.func29 rfl trivial ?_ rfl
  simp only [Tryz.ntmps29, List.size_toArray, List.length_cons, List.length_nil, Nat.reduceAdd, Nat.reduceSub, Array.replicate_succ, Array.replicate_zero, List.push_toArray, List.append_toArray, List.nil_append, List.cons_append]
  gi_wp2_with (first
    | (refine ⟨trivial, ?_⟩; gi_at_call 105; refine (callsIn_wide.2 cC.out).mono ?_; rintro e w1 ⟨rfl, hb1⟩)
    | (refine ⟨trivial, ?_⟩; gi_at_call 106; refine (callsIn_wide.2 (cO _)).mono ?_; rintro e w13 ⟨rfl, rfl⟩)
    | fail)
  have hlt1 : w.heap.size ≤ w1.heap.size := hb1.size
  obtain ⟨β, hβ⟩ : ∃ β, w1.heap.size = β := ⟨_, rfl⟩
  obtain ⟨W4, hW4⟩ : ∃ W4, W4 = ((w1.alloc (.cells #[.pointer none, .slice none 0 0] 184)).alloc (.cells #[.slice p ps.length c] 23)).alloc (.cells #[.string ⟨s.toArray⟩] 9) := ⟨_, rfl⟩
  have hb4 : Below w.heap.size w W4 := by rw [hW4]; exact ((hb1.alloc hb1.size _).alloc (by simp; omega) _).alloc (by simp; omega) _
  have hs4 : W4.heap.size = β + 3 := by rw [hW4, ← hβ]; simp
  have q0 : W4.heap[β]? = some (.cells #[.pointer none, .slice none 0 0] 184 (0, 0)) := by rw [hW4, ← hβ]; exact (heap_alloc_old _ _ (by rw [World.size_alloc, World.size_alloc]; omega)).trans ((heap_alloc_old _ _ (by rw [World.size_alloc]; omega)).trans (heap_alloc_new _ _))
  have q1 : W4.heap[β + 1]? = some (.cells #[.slice p ps.length c] 23 (0, 0)) := by rw [hW4, ← hβ]; exact (heap_alloc_old _ _ (by simp)).trans (by have := heap_alloc_new (w1.alloc (.cells #[.pointer none, .slice none 0 0] 184)) (.cells #[.slice p ps.length c] 23); rwa [World.size_alloc] at this)
  have q2 : W4.heap[β + 2]? = some (.cells #[.string ⟨s.toArray⟩] 9 (0, 0)) := by rw [hW4, ← hβ]; have := heap_alloc_new ((w1.alloc (.cells #[.pointer none, .slice none 0 0] 184)).alloc (.cells #[.slice p ps.length c] 23)) (.cells #[.string ⟨s.toArray⟩] 9); rwa [World.size_alloc, World.size_alloc] at this
  rw [← hW4, hβ]
  rw [hβ] at hlt1
  clear hW4 cC cO hb1 hβ
  refine wp_range_ownD (gf := 174) (lb := #[.pointer (some ⟨β + 1 + 1, 0, none⟩), .pointer (some ⟨β + 1, 0, none⟩)]) rfl (enters_of Tryz.func174 (by kernel_rfl) rfl) (encs := fun _ (x : Pt × List UInt8) => #[partV x.1, .string ⟨x.2.toArray⟩]) (fun _ _ => rfl)
    (It := fun A B => Below A.heap.size A B ∧ β + 5 ≤ A.heap.size) (Kp := fun A B => A.heap.size ≤ B.heap.size ∧ ∀ x, (x = β + 1 ∨ x = β + 1 + 1 ∨ x < w.heap.size) → B.heap[x]? = A.heap[x]?) (Z := fun _ => True) (S := fun xs => xs = pcs ps s) (Sp := fun pre => ∃ rest, pcs ps s = pre ++ rest)
    ?seq ?its (fun h k => ⟨Nat.le_trans h.1 k.1, fun x hx => (k.2 x hx).trans (h.2 x hx)⟩) ?hkb
    (fun pre W => ∃ r, apI w β (.slice p ps.length c) (.string ⟨s.toArray⟩) r (pre.flatMap madeP) W)
    (fun _ _ _ => False) (fun _ _ _ => trivial) (fun _ _ _ h => h.elim) ?ii ?ib (fun _ _ _ _ h _ => h) (fun _ _ _ _ h => h) ?h0 ?round ?done (fun _ _ _ _ h => h.elim)
  case seq =>
    intro W hs1 hb1
    rw [hs4] at hs1 hb1
    have hb9 : Below w.heap.size w W := hb4.trans (hb1.mono (by omega))
    have := over_seq (.slice p ps.length c) ps s HSL.out HLP.out HF.out (fun x => (x = β + 1 ∨ x = β + 1 + 1 ∨ x < w.heap.size)) (β + 1) W (Lib.cell_of_heap ((hb1.block (β + 1) (by omega)).trans q1) 0) (Lib.cell_of_heap ((hb1.block (β + 2) (by omega)).trans q2) 0) (opAt_below HR.out hb9 (Nat.le_refl _)) (.inl rfl) (.inr (.inl rfl)) (fun b o n c' e hne => .inr (.inr (HROW.out b o n c' e hne))) (by rintro x (rfl | rfl | hx) <;> omega) (fun _ => True)
    rw [hs1] at this
    exact this
  case its => exact fun A B h => Same2.of_below h.1 (by rw [hs4]; omega)
  case hkb =>
    intro A r
    rw [hs4]
    exact ⟨by simp, fun x hx => World.putObj_heap_other (by omega)⟩
  case ii => exact fun pre A B h hb => by obtain ⟨r, h⟩ := h; exact ⟨r, h.grow hb.1⟩
  case ib =>
    rintro pre A r ⟨r0, h⟩
    rw [hs4]
    exact ⟨r, h.put hlt1 (Put1.putObj _ _ _) (World.putObj_heap_same (by have := h.size; omega))⟩
  case h0 =>
    rintro W hs hb ⟨r, hr⟩ hd
    rw [hs4] at hs hb hr hd
    exact ⟨r, hb4.trans (hb.mono (by omega)), by omega, .inl ⟨Nat.le_refl _, .slice none 0 0, (hb.block β (by omega)).trans q0, World.ownsRow_nil _ _ _ _, by simp [Value.ownBlock]⟩, (hb.block (β + 1) (by omega)).trans q1, (hb.block (β + 2) (by omega)).trans q2, hd, hr⟩
  case round =>
    rintro l pre ⟨q, T⟩ W ⟨r0, hI⟩ hlW ⟨rest, hSp⟩
    rw [hs4] at hlW ⊢
    have hml := made_pre HF.out hSp
    have hpp := HPU.out
    have hss := HSL.out
    have HML : Hid ((pre.flatMap madeP).length + T.length + q.put.length ≤ 1000000000000) := by
      show _ ≤ _
      have h1 := pcs_len ps s HF.out
      have h2 := congrArg List.sum (pcs_puts ps s)
      have h3 := made_len pre
      rw [hSp] at h1 h2
      simp only [List.map_append, List.sum_append, List.map_cons, List.map_nil, List.sum_cons, List.sum_nil] at h1 h2
      unfold putsP at hpp
      omega
    have HI : Hid (apI w β (.slice p ps.length c) (.string ⟨s.toArray⟩) r0 (pre.flatMap madeP) W) := hI
    have HNX : Hid ((pre ++ [(q, T)]).flatMap madeP = pre.flatMap madeP ++ madeP (q, T)) := by show _ = _; simp
    have HWB : Hid (¬ β = W.heap.size) := by show ¬ _; omega
    have cK := isKeep_any q
    unfold partV at cK ⊢
    clear hI hSp q0 q1 q2 hb4 hml hpp hss
    gi_wp2
    refine ⟨(Same2.refl _ W).alloc (by omega) _, ⟨by simp, fun x hx => heap_alloc_old _ _ (by omega)⟩, ?_⟩
    intro w2 hp ⟨r, hr⟩
    have hI1 := HI.out.grow (B := W.alloc (.cells #[.int .i64 q.keep, .int .i64 q.drop, .string ⟨q.put.toArray⟩] 50)) ((Below.refl _ _).alloc (Nat.le_refl _) _)
    have HI2 : Hid (apI w β (.slice p ps.length c) (.string ⟨s.toArray⟩) r (pre.flatMap madeP) w2) := hI1.put hlt1 hp hr
    have hbx : w2.heap[W.heap.size]? = some (.cells #[.int .i64 q.keep, .int .i64 q.drop, .string ⟨q.put.toArray⟩] 50 (0, 0)) := (hp.block W.heap.size (by omega)).trans (heap_alloc_new _ _)
    have HBX : Hid (w2.heap[W.heap.size]? = some (.cells #[.int .i64 q.keep, .int .i64 q.drop, .string ⟨q.put.toArray⟩] 50 (0, 0))) := hbx
    have x0 : w2.cell? ⟨W.heap.size, 0, none⟩ = some (.int .i64 q.keep) := Lib.cell_of_heap hbx 0
    have x1 : w2.cell? ⟨W.heap.size, 1, none⟩ = some (.int .i64 q.drop) := Lib.cell_of_heap hbx 1
    have x2 : w2.cell? ⟨W.heap.size, 2, none⟩ = some (.string ⟨q.put.toArray⟩) := Lib.cell_of_heap hbx 2
    clear hp hr hbx hI1
    by_cases hk : 0 < q.keep
    · have hkd : decide (0 < q.keep) = true := decide_eq_true hk
      rw [hkd] at cK
      have HMK : Hid (madeP (q, T) = T ++ q.put) := by show _ = _; unfold madeP; rw [if_pos hk]
      clear hk hkd
      gi_wp2_with (first
        | (refine ⟨trivial, rfl, ?_⟩; gi_at_call 107; refine (CallsIn.inRound l (callsIn_wide.2 (cK _))).mono ?_; rintro e w3 ⟨rfl, hb3⟩; have hI3 := HI2.out.grow hb3; have hL3 : (Lib.byteCells (pre.flatMap madeP)).length + (ByteArray.mk T.toArray).size ≤ 1000000000000 := (by have := HML.out; rw [Lib.byteCells_length]; show _ + T.toArray.size ≤ _; simp only [List.size_toArray]; omega); have hB3 : β ≤ w3.heap.size := (by have := hI3.size; omega); have hx3 := (hb3.block W.heap.size (World.block_lt_of_cell? w2 _ x0)).trans HBX.out)
        | (refine ⟨trivial, rfl, ?_⟩; gi_at_call 108; refine (CallsIn.inRound l (callsIn_wide.2 (WriteString_any β β _ _ _ hI4.bld hL4 hB4))).mono ?_; rintro e w5 ⟨⟨v5, rfl⟩, hw5, hb5, hk5⟩; have hI5 := hI4.wrote hlt1 hw5 hb5 hk5)
        | (refine ⟨trivial, rfl, ?_⟩; gi_at_call 108; refine (CallsIn.inRound l (callsIn_wide.2 (WriteString_any β β _ _ _ hI3.bld hL3 hB3))).mono ?_; rintro e w4 ⟨⟨v4, rfl⟩, hw4, hb4, hk4⟩; have hI4 := hI3.wrote hlt1 hw4 hb4 hk4; have hx4 := hk4 _ _ hx3 (fun e => HWB.out (Option.some.inj e).symm) (by intro c fz e; cases e); have hy4 : w4.cell? ⟨W.heap.size, 2, none⟩ = some (.string ⟨q.put.toArray⟩) := Lib.cell_of_heap hx4 2; have hL4 : (Lib.byteCells (pre.flatMap madeP ++ T)).length + (ByteArray.mk q.put.toArray).size ≤ 1000000000000 := (by have := HML.out; rw [Lib.byteCells_length, List.length_append]; show _ + q.put.toArray.size ≤ _; simp only [List.size_toArray]; omega); have hB4 : β ≤ w4.heap.size := (by have := hI4.size; omega))
        | fail)
      have hK := HI2.out.kept hI5 (Nat.le_trans hb3.size (Nat.le_trans hb4.size hb5.size))
      refine ⟨hK.1, hK.2, r, ?_⟩
      rw [HNX.out, HMK.out, ← List.append_assoc]
      exact hI5
    · have hkd : decide (0 < q.keep) = false := decide_eq_false hk
      rw [hkd] at cK
      have HMK : Hid (madeP (q, T) = q.put) := by show _ = _; unfold madeP; rw [if_neg hk, List.nil_append]
      clear hk hkd
      gi_wp2_with (first
        | (refine ⟨trivial, rfl, ?_⟩; gi_at_call 107; refine (CallsIn.inRound l (callsIn_wide.2 (cK _))).mono ?_; rintro e w3 ⟨rfl, hb3⟩; have hI3 := HI2.out.grow hb3; have hL3 : (Lib.byteCells (pre.flatMap madeP)).length + (ByteArray.mk q.put.toArray).size ≤ 1000000000000 := (by have := HML.out; rw [Lib.byteCells_length]; show _ + q.put.toArray.size ≤ _; simp only [List.size_toArray]; omega); have hB3 : β ≤ w3.heap.size := (by have := hI3.size; omega); have y3 : w3.cell? ⟨W.heap.size, 2, none⟩ = some (.string ⟨q.put.toArray⟩) := Lib.cell_of_heap ((hb3.block W.heap.size (World.block_lt_of_cell? w2 _ x0)).trans HBX.out) 2)
        | (refine ⟨trivial, rfl, ?_⟩; gi_at_call 108; refine (CallsIn.inRound l (callsIn_wide.2 (WriteString_any β β _ _ _ hI3.bld hL3 hB3))).mono ?_; rintro e w4 ⟨⟨v4, rfl⟩, hw4, hb4, hk4⟩; have hI4 := hI3.wrote hlt1 hw4 hb4 hk4)
        | (refine ⟨trivial, ?_⟩)
        | fail)
      have hK := HI2.out.kept hI4 (Nat.le_trans hb3.size hb4.size)
      refine ⟨hK.1, hK.2, r, ?_⟩
      rw [HNX.out, HMK.out]
      exact hI4
  case done =>
    rintro xs W rfl ⟨r, hI⟩ hDef
    rw [hs4] at hDef ⊢
    have HI : Hid (apI w β (.slice p ps.length c) (.string ⟨s.toArray⟩) r (applyP ps s) W) := hI
    have cS := String_any β β (applyP ps s) W HI.out.bld (by have := HI.out.size; omega)
    rw [HS.out] at cS
    clear hI q0 q1 q2 hb4
    gi_wp2_with (first
      | (refine ⟨trivial, ?_⟩; gi_at_call 109; refine (callsIn_wide.2 cS).mono ?_; rintro e w6 ⟨rfl, hb6, hk6⟩)
      | fail)
    have hDef6 := hk6 _ _ hDef (fun e => by have := Option.some.inj e; omega) (by intro c fz e; cases e)
    have hP := Put1.putObj (β + 3) w6 (.deferred none)
    refine ⟨by simp, .inl ⟨_, _, rfl, run_takeDeferred hDef6, ?_⟩⟩
    exact ⟨.tuple #[.string S, .nilIface], by simp [results, Tryz.results29, go_sem], rfl, (HI.out.below.trans (hb6.mono hlt1)).trans (hP.below (by omega))⟩

theorem Apply_any (v : Value) (ps : List Pt) (s : List UInt8) (w : World) (hT : Lib.Utf8Tabs 2 3 w) (hr : opAt w v ps) (hwf : ∀ p ∈ ps, wfP p) (hs : s.length < 1000000000) (hl : ps.length < 10000000) (hpu : putsP ps < 100000000000) :
    Calls Tryz.prog 29 #[v, .string ⟨s.toArray⟩] w fun e w' => e = .returned (.tuple #[.string ⟨(if ordE ps s = 0 then applyP ps s else []).toArray⟩, errV (ordE ps s)]) ∧ Below w.heap.size w w' := by
  by_cases he : ordE ps s = 0
  · rw [if_pos he, he]
    have hc : chkE ps (s.length : Int) = 0 ∧ badO ps s = false := by
      unfold ordE at he
      split at he
      · rename_i h
        refine ⟨h, ?_⟩
        cases hb : badO ps s with
        | false => rfl
        | true => rw [hb] at he; simp at he
      · rename_i h; exact absurd he h
    exact Apply_fine v ps s w hT hr hwf hs hl hpu hc.1 hc.2
  · rw [if_neg he]
    exact Apply_err v ps s w hT hr hwf hs hl he
end Go.Proofs.YtedgnlgjmnccgabGreatDoor
