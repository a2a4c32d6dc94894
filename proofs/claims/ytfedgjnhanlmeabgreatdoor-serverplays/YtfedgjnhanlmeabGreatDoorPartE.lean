/-
  ops.Apply: what an operation makes of a text.
  ops.Invert: what takes back what an operation made of a text.
  Two operations side by side: the model of what Compose and Transform go through (pure).
  ops.cut: so much off an operation's first part; the operation's own row is written.
  ops.cut where some is left: a first part that keeps, drops or puts more.
  Gaps, from the left on (pure); the document's Transform over them.
  Side by side is gap by gap (pure), where puts stand alone in both.
  What Transform's and Compose's closures take of a pair.
  Side by side: what the walk keeps.
  Transform: the program's pairs add up to the document's parts (pure).
  What a least form is made of (pure).
  Compose, pure: what comes of two operations as cells, and what the pairs that are side by side add up to.
  Compose, pure: the cells' gaps, as the document builds them; and that a least form makes the same cells.
  Two operations that are as long go side by side to their end (pure).
-/
import Derived.Test.YtfedgjnhanlmeabGreatDoorPartD
import Derived.Laws.EntriesVeiled
import Derived.Shelf.Strings.BuilderK
import Derived.Test.YtfedgjnhanlmeabGreatDoorPartA
import Derived.Test.YtfedgjnhanlmeabGreatDoorPartC
namespace Go.Proofs.YtfedgjnhanlmeabGreatDoor
open Go.RowKit
set_option linter.unusedVariables false
attribute [local go_sem] Oper.semAt_some

theorem String_any (B b : Nat) (l : List UInt8) (w : World) (h : Lib.IsBuilder 182 5 B b (Lib.byteCells l) w) (hBw : B ≤ w.heap.size) :
    Calls Tryz.prog 107 #[.pointer (some ⟨b, 0, none⟩)] w fun e w' => e = .returned (.string ⟨l.toArray⟩) ∧ (Below B w w' ∧ Lib.OthersKept 5 (some b) w w') := by
  have c : Calls Tryz.prog 107 #[.pointer (some ⟨b, 0, none⟩)] w fun e w' => e = .returned (.string ⟨l.toArray⟩) ∧ (Lib.IsBuilderF 182 5 B b (Lib.byteCells l) w' ∧ Below B w w' ∧ Lib.OthersKept 5 (some b) w w') := Any.Builder_String_any_k Tryz.lays169 Tryz.Builder_Extra_169 B b l w (.of h) hBw
  exact c.mono fun e w' h => ⟨h.1, h.2.2⟩

/-- What a part makes of its piece. -/
def madeP (x : Pt × List UInt8) : List UInt8 := (if 0 < x.1.keep then x.2 else []) ++ x.1.put
def applyP (ps : List Pt) (s : List UInt8) : List UInt8 := (pcs ps s).flatMap madeP

theorem pcs_len (ps : List Pt) (s : List UInt8) (h : fitsP ps s) : (((pcs ps s).map fun x => x.2.length).sum : Nat) ≤ s.length := by
  induction ps generalizing s with
  | nil => simp [pcs]
  | cons p ps ih =>
    obtain ⟨h1, h2, h3, h4⟩ := h
    have := ih _ h4
    simp only [pcs, List.map_cons, List.sum_cons]
    rw [List.length_take]
    rw [List.length_drop] at this
    omega
theorem pcs_puts (ps : List Pt) (s : List UInt8) : (pcs ps s).map (fun x => x.1.put.length) = ps.map fun p => p.put.length := by
  induction ps generalizing s with
  | nil => rfl
  | cons p ps ih => simp [pcs, ih]
def putsP (ps : List Pt) : Nat := (ps.map fun p => p.put.length).sum
theorem made_len (l : List (Pt × List UInt8)) : (l.flatMap madeP).length ≤ (l.map fun x => x.2.length).sum + (l.map fun x => x.1.put.length).sum := by
  induction l with
  | nil => simp
  | cons x l ih =>
    simp only [List.flatMap_cons, List.length_append, List.map_cons, List.sum_cons]
    have : (madeP x).length ≤ x.2.length + x.1.put.length := by
      unfold madeP
      rw [List.length_append]
      split <;> simp
    omega
theorem made_pre {ps : List Pt} {s : List UInt8} (h : fitsP ps s) {pre rest : List (Pt × List UInt8)} (e : pcs ps s = pre ++ rest) : (pre.flatMap madeP).length ≤ s.length + putsP ps := by
  have h1 := made_len pre
  have h2 := pcs_len ps s h
  have h3 := congrArg List.sum (pcs_puts ps s)
  rw [e] at h2 h3
  rw [List.map_append, List.sum_append] at h2 h3
  unfold putsP
  omega

theorem own_put {A B : World} {n N e size k : Nat} {v : Value} {xs : List Value} {r : Loop} (h : A.ownsRow N e size v k xs) (hn : A.heap[n]? = some (.loop r)) (hp : Put1 n A B) : B.ownsRow N e size v k xs := by
  obtain ⟨h0, hrow⟩ := h
  refine ⟨h0, ?_⟩
  rcases hrow with hx | ⟨g, cap, cur, rfl, hg, hgg, rest⟩
  · exact .inl hx
  · refine .inr ⟨g, cap, cur, rfl, hg, (hp.block g ?_).trans hgg, rest⟩
    rintro rfl
    rw [hn] at hgg
    cases hgg
theorem bld_at {T e B b : Nat} {p : Value} {bs : List Value} {w w' : World} (h : Lib.BuilderAt T e B b p bs w) (hb : w'.heap[b]? = w.heap[b]?) (ho : ∀ v, w.ownsRow B e 1 v bs.length bs → w'.ownsRow B e 1 v bs.length bs) : Lib.BuilderAt T e B b p bs w' := by
  obtain ⟨h1, v, h2, h3, h4⟩ := h
  exact ⟨h1, v, hb.trans h2, ho v h3, h4⟩
theorem bld_is {T e B b : Nat} {bs : List Value} {w w' : World} (h : Lib.IsBuilder T e B b bs w) (hb : w'.heap[b]? = w.heap[b]?) (ho : ∀ v, w.ownsRow B e 1 v bs.length bs → w'.ownsRow B e 1 v bs.length bs) : Lib.IsBuilder T e B b bs w' :=
  h.elim (fun h => .inl (bld_at h hb ho)) (fun h => .inr (bld_at h hb ho))
/-- What a round of Apply's loop keeps. -/
structure apI (w : World) (β : Nat) (v1 v2 : Value) (r : Loop) (bs : List UInt8) (A : World) : Prop where
  below : Below w.heap.size w A
  size : β + 5 ≤ A.heap.size
  bld : Lib.IsBuilder 182 5 β β (Lib.byteCells bs) A
  h1 : A.heap[β + 1]? = some (.cells #[v1] 23 (0, 0))
  h2 : A.heap[β + 2]? = some (.cells #[v2] 9 (0, 0))
  h3 : A.heap[β + 3]? = some (.deferred (some []))
  h4 : A.heap[β + 4]? = some (.loop r)
theorem apI.grow {w : World} {β : Nat} {v1 v2 : Value} {r : Loop} {bs : List UInt8} {A B : World} (h : apI w β v1 v2 r bs A) (hb : Below A.heap.size A B) : apI w β v1 v2 r bs B := by
  have hs := h.size
  exact ⟨h.below.trans (hb.mono h.below.size), Nat.le_trans hs hb.size, bld_is h.bld (hb.block β (by omega)) (fun v hv => own_below hv hb), (hb.block (β + 1) (by omega)).trans h.h1, (hb.block (β + 2) (by omega)).trans h.h2, (hb.block (β + 3) (by omega)).trans h.h3, (hb.block (β + 4) (by omega)).trans h.h4⟩
theorem apI.put {w : World} {β : Nat} {v1 v2 : Value} {r r' : Loop} {bs : List UInt8} {A B : World} (h : apI w β v1 v2 r bs A) (hw : w.heap.size ≤ β) (hp : Put1 (β + 4) A B) (hl : B.heap[β + 4]? = some (.loop r')) : apI w β v1 v2 r' bs B :=
  ⟨h.below.trans (hp.below (by omega)), by rw [hp.size]; exact h.size, bld_is h.bld (hp.block β (by omega)) (fun v hv => own_put hv h.h4 hp), (hp.block (β + 1) (by omega)).trans h.h1, (hp.block (β + 2) (by omega)).trans h.h2, (hp.block (β + 3) (by omega)).trans h.h3, hl⟩
theorem apI.wrote {w : World} {β : Nat} {v1 v2 : Value} {r : Loop} {bs u : List UInt8} {A B : World} (h : apI w β v1 v2 r bs A) (hw : w.heap.size ≤ β) (h1 : Lib.IsBuilder 182 5 β β (Lib.byteCells bs ++ Lib.strCells ⟨u.toArray⟩) B) (h2 : Below β A B) (h3 : Lib.OthersKept 5 (some β) A B) : apI w β v1 v2 r (bs ++ u) B := by
  refine ⟨h.below.trans (h2.mono hw), Nat.le_trans h.size h2.size, ?_, h3 _ _ h.h1 (by simp) (by intro c fz e; cases e), h3 _ _ h.h2 (by simp) (by intro c fz e; cases e), h3 _ _ h.h3 (by simp) (by intro c fz e; cases e), h3 _ _ h.h4 (by simp) (by intro c fz e; cases e)⟩
  rw [Lib.byteCells_append]
  exact h1

theorem apI.kept {w : World} {β : Nat} {v1 v2 : Value} {r : Loop} {bs bs' : List UInt8} {A B : World} (h : apI w β v1 v2 r bs A) (h' : apI w β v1 v2 r bs' B) (hs : A.heap.size ≤ B.heap.size) :
    Same2 (β + 3) A B ∧ A.heap.size ≤ B.heap.size ∧ ∀ (x : Nat), x = β + 1 ∨ x = β + 1 + 1 ∨ x < w.heap.size → B.heap[x]? = A.heap[x]? := by
  refine ⟨⟨h'.h3.trans h.h3.symm, h'.h4.trans h.h4.symm⟩, hs, ?_⟩
  rintro x (rfl | rfl | hx)
  · exact h'.h1.trans h.h1.symm
  · exact h'.h2.trans h.h2.symm
  · exact (h'.below.block x hx).trans (h.below.block x hx).symm

set_option maxRecDepth 100000 in
set_option maxHeartbeats 2000000 in
theorem Apply_err (v : Value) (ps : List Pt) (s : List UInt8) (w : World) (hT : Lib.Utf8Tabs 2 3 w) (hr : opAt w v ps) (hwf : ∀ p ∈ ps, wfP p) (hs : s.length < 1000000000) (hl : ps.length < 10000000) (he : ordE ps s ≠ 0) :
    Calls Tryz.prog 28 #[v, .string ⟨s.toArray⟩] w fun e w' => e = .returned (.tuple #[.string ⟨#[]⟩, errV (ordE ps s)]) ∧ Below w.heap.size w w' := by
  have cC : Hid _ := checkOver_any v ps s w hT hr hwf hs hl
  have hV : errV (ordE ps s) = .iface 26 (.int .i64 (ordE ps s)) := by unfold errV; rw [if_neg he]
  rw [hV] at cC ⊢
  generalize ordE ps s = E at *
  obtain ⟨p, c, rfl, _⟩ := hr
  clear hT hwf hV
  go_enter Tryz.func28, Tryz.ntmps28
  go_wp2_with (first | (go_at_call 103; refine Calls.mono cC.out ?_; rintro e w1 ⟨rfl, hb1⟩) | fail)
  go_ret2
  exact ⟨rfl, hb1⟩

set_option maxRecDepth 100000 in
set_option maxHeartbeats 16000000 in
theorem Apply_fine (v : Value) (ps : List Pt) (s : List UInt8) (w : World) (hT : Lib.Utf8Tabs 2 3 w) (hr : opAt w v ps) (hwf : ∀ p ∈ ps, wfP p) (hs : s.length < 1000000000) (hl : ps.length < 10000000) (hpu : putsP ps < 100000000000) (he : chkE ps (s.length : Int) = 0) (hbad : badO ps s = false) :
    Calls Tryz.prog 28 #[v, .string ⟨s.toArray⟩] w fun e w' => e = .returned (.tuple #[.string ⟨(applyP ps s).toArray⟩, .nilIface]) ∧ Below w.heap.size w w' := by
  have cC : Hid _ := checkOver_any v ps s w hT hr hwf hs hl
  obtain ⟨hfit, hleft⟩ := chkE_fits he
  have hV : errV (ordE ps s) = .nilIface := by unfold ordE; rw [if_pos he, hbad]; rfl
  rw [hV] at cC
  have HF : Hid (fitsP ps s) := hfit
  have HR : Hid (opAt w v ps) := hr
  have HSL : Hid (s.length < 1000000000) := hs
  have HLP : Hid (ps.length < 10000000) := hl
  have HPU : Hid (putsP ps < 100000000000) := hpu
  have hrow : ∀ x o n c, v = .slice (some ⟨x, o, none⟩) n c → ps ≠ [] → x < w.heap.size := by
    intro x o n c e hne
    obtain ⟨p, c', rfl, _, _, h3⟩ := hr
    obtain ⟨b, o', e1, e2, _⟩ := h3 hne
    simp only [Value.slice.injEq] at e
    rw [e.1] at e1
    simp only [Option.some.injEq, Addr.mk.injEq] at e1
    rw [e1.1]; exact e2
  have HROW : Hid _ := hrow
  obtain ⟨p, c, rfl, _⟩ := hr
  obtain ⟨S, hS⟩ : ∃ S : ByteArray, (ByteArray.mk (applyP ps s).toArray) = S := ⟨_, rfl⟩
  have HS : Hid (ByteArray.mk (applyP ps s).toArray = S) := hS
  rw [hS]
  clear hT hwf hV hfit hleft hrow he hbad hS hpu
  have cO := fun (wx : World) => over_any p ps.length c ⟨s.toArray⟩ wx
  refine (callsIn_wide (n := 3)).1 ?_
  refine callsIn_of_wp_marks Tryz.func28 rfl trivial ?_ rfl
  simp only [Tryz.ntmps28, List.size_toArray, List.length_cons, List.length_nil, Nat.reduceAdd, Nat.reduceSub, Array.replicate_succ, Array.replicate_zero, List.push_toArray, List.append_toArray, List.nil_append, List.cons_append]
  gi_wp2_with (first
    | (refine ⟨trivial, ?_⟩; gi_at_call 103; refine (callsIn_wide.2 cC.out).mono ?_; rintro e w1 ⟨rfl, hb1⟩)
    | (refine ⟨trivial, ?_⟩; gi_at_call 104; refine (callsIn_wide.2 (cO _)).mono ?_; rintro e w13 ⟨rfl, rfl⟩)
    | fail)
  have hlt1 : w.heap.size ≤ w1.heap.size := hb1.size
  obtain ⟨β, hβ⟩ : ∃ β, w1.heap.size = β := ⟨_, rfl⟩
  obtain ⟨W4, hW4⟩ : ∃ W4, W4 = ((w1.alloc (.cells #[.pointer none, .slice none 0 0] 182)).alloc (.cells #[.slice p ps.length c] 23)).alloc (.cells #[.string ⟨s.toArray⟩] 9) := ⟨_, rfl⟩
  have hb4 : Below w.heap.size w W4 := by rw [hW4]; exact ((hb1.alloc hb1.size _).alloc (by simp; omega) _).alloc (by simp; omega) _
  have hs4 : W4.heap.size = β + 3 := by rw [hW4, ← hβ]; simp
  have q0 : W4.heap[β]? = some (.cells #[.pointer none, .slice none 0 0] 182 (0, 0)) := by rw [hW4, ← hβ]; exact (heap_alloc_old _ _ (by rw [World.size_alloc, World.size_alloc]; omega)).trans ((heap_alloc_old _ _ (by rw [World.size_alloc]; omega)).trans (heap_alloc_new _ _))
  have q1 : W4.heap[β + 1]? = some (.cells #[.slice p ps.length c] 23 (0, 0)) := by rw [hW4, ← hβ]; exact (heap_alloc_old _ _ (by simp)).trans (by have := heap_alloc_new (w1.alloc (.cells #[.pointer none, .slice none 0 0] 182)) (.cells #[.slice p ps.length c] 23); rwa [World.size_alloc] at this)
  have q2 : W4.heap[β + 2]? = some (.cells #[.string ⟨s.toArray⟩] 9 (0, 0)) := by rw [hW4, ← hβ]; have := heap_alloc_new ((w1.alloc (.cells #[.pointer none, .slice none 0 0] 182)).alloc (.cells #[.slice p ps.length c] 23)) (.cells #[.string ⟨s.toArray⟩] 9); rwa [World.size_alloc, World.size_alloc] at this
  rw [← hW4, hβ]
  rw [hβ] at hlt1
  clear hW4 cC cO hb1 hβ
  refine wp_range_ownD (gf := 167) (lb := #[.pointer (some ⟨β + 1 + 1, 0, none⟩), .pointer (some ⟨β + 1, 0, none⟩)]) rfl (enters_of Tryz.func167 (by kernel_rfl) rfl) (encs := fun _ (x : Pt × List UInt8) => #[partV x.1, .string ⟨x.2.toArray⟩]) (fun _ _ => rfl)
    (It := fun A B => Below A.heap.size A B ∧ β + 5 ≤ A.heap.size) (Kp := fun A B => A.heap.size ≤ B.heap.size ∧ ∀ x, (x = β + 1 ∨ x = β + 1 + 1 ∨ x < w.heap.size) → B.heap[x]? = A.heap[x]?) (Z := fun _ => True) (S := fun xs => xs = pcs ps s) (Sp := fun pre => ∃ rest, pcs ps s = pre ++ rest)
    ?seq ?its (fun h k => ⟨Nat.le_trans h.1 k.1, fun x hx => (k.2 x hx).trans (h.2 x hx)⟩) ?hkb
    (fun pre W => ∃ r, apI w β (.slice p ps.length c) (.string ⟨s.toArray⟩) r (pre.flatMap madeP) W)
    (fun _ _ _ => False) (fun _ _ _ => trivial) (fun _ _ _ h => h.elim) ?ii ?ib (fun _ _ _ _ h _ => h) (fun _ _ _ _ h => h) ?h0 ?round ?done (fun _ _ _ _ h => h.elim)
  case seq =>
    intro W hs1 hb1
    rw [hs4] at hs1 hb1
    have hb9 : Below w.heap.size w W := hb4.trans (hb1.mono (by omega))
    have := over_seq (.slice p ps.length c) ps s HSL.out HLP.out HF.out (fun x => (x = β + 1 ∨ x = β + 1 + 1 ∨ x < w.heap.size)) (β + 1) W (Lib.cell_of_heap ((hb1.block (β + 1) (by omega)).trans q1) 0) (Lib.cell_of_heap ((hb1.block (β + 2) (by omega)).trans q2) 0) (opAt_below HR.out hb9 (Nat.le_refl _)) (.inl rfl) (.inr (.inl rfl)) (fun b o n c' e hne => .inr (.inr (HROW.out b o n c' e hne))) (by rintro x (rfl | rfl | hx) <;> omega) (fun _ => True)
    rw [hs1] at this
    exact this
  case its => exact fun A B h => Same2.of_below h.1 (by rw [hs4]; omega)
  case hkb =>
    intro A r
    rw [hs4]
    exact ⟨by simp, fun x hx => World.putObj_heap_other (by omega)⟩
  case ii => exact fun pre A B h hb => by obtain ⟨r, h⟩ := h; exact ⟨r, h.grow hb.1⟩
  case ib =>
    rintro pre A r ⟨r0, h⟩
    rw [hs4]
    exact ⟨r, h.put hlt1 (Put1.putObj _ _ _) (World.putObj_heap_same (by have := h.size; omega))⟩
  case h0 =>
    rintro W hs hb ⟨r, hr⟩ hd
    rw [hs4] at hs hb hr hd
    exact ⟨r, hb4.trans (hb.mono (by omega)), by omega, .inl ⟨Nat.le_refl _, .slice none 0 0, (hb.block β (by omega)).trans q0, World.ownsRow_nil _ _ _ _, by simp [Value.ownBlock]⟩, (hb.block (β + 1) (by omega)).trans q1, (hb.block (β + 2) (by omega)).trans q2, hd, hr⟩
  case round =>
    rintro l pre ⟨q, T⟩ W ⟨r0, hI⟩ hlW ⟨rest, hSp⟩
    rw [hs4] at hlW ⊢
    have hml := made_pre HF.out hSp
    have hpp := HPU.out
    have hss := HSL.out
    have HML : Hid ((pre.flatMap madeP).length + T.length + q.put.length ≤ 1000000000000) := by
      show _ ≤ _
      have h1 := pcs_len ps s HF.out
      have h2 := congrArg List.sum (pcs_puts ps s)
      have h3 := made_len pre
      rw [hSp] at h1 h2
      simp only [List.map_append, List.sum_append, List.map_cons, List.map_nil, List.sum_cons, List.sum_nil] at h1 h2
      unfold putsP at hpp
      omega
    have HI : Hid (apI w β (.slice p ps.length c) (.string ⟨s.toArray⟩) r0 (pre.flatMap madeP) W) := hI
    have HNX : Hid ((pre ++ [(q, T)]).flatMap madeP = pre.flatMap madeP ++ madeP (q, T)) := by show _ = _; simp
    have HWB : Hid (¬ β = W.heap.size) := by show ¬ _; omega
    have cK := isKeep_any q
    unfold partV at cK ⊢
    clear hI hSp q0 q1 q2 hb4 hml hpp hss
    gi_wp2
    refine ⟨(Same2.refl _ W).alloc (by omega) _, ⟨by simp, fun x hx => heap_alloc_old _ _ (by omega)⟩, ?_⟩
    intro w2 hp ⟨r, hr⟩
    have hI1 := HI.out.grow (B := W.alloc (.cells #[.int .i64 q.keep, .int .i64 q.drop, .string ⟨q.put.toArray⟩] 50)) ((Below.refl _ _).alloc (Nat.le_refl _) _)
    have HI2 : Hid (apI w β (.slice p ps.length c) (.string ⟨s.toArray⟩) r (pre.flatMap madeP) w2) := hI1.put hlt1 hp hr
    have hbx : w2.heap[W.heap.size]? = some (.cells #[.int .i64 q.keep, .int .i64 q.drop, .string ⟨q.put.toArray⟩] 50 (0, 0)) := (hp.block W.heap.size (by omega)).trans (heap_alloc_new _ _)
    have HBX : Hid (w2.heap[W.heap.size]? = some (.cells #[.int .i64 q.keep, .int .i64 q.drop, .string ⟨q.put.toArray⟩] 50 (0, 0))) := hbx
    have x0 : w2.cell? ⟨W.heap.size, 0, none⟩ = some (.int .i64 q.keep) := Lib.cell_of_heap hbx 0
    have x1 : w2.cell? ⟨W.heap.size, 1, none⟩ = some (.int .i64 q.drop) := Lib.cell_of_heap hbx 1
    have x2 : w2.cell? ⟨W.heap.size, 2, none⟩ = some (.string ⟨q.put.toArray⟩) := Lib.cell_of_heap hbx 2
    clear hp hr hbx hI1
    by_cases hk : 0 < q.keep
    · have hkd : decide (0 < q.keep) = true := decide_eq_true hk
      rw [hkd] at cK
      have HMK : Hid (madeP (q, T) = T ++ q.put) := by show _ = _; unfold madeP; rw [if_pos hk]
      clear hk hkd
      gi_wp2_with (first
        | (refine ⟨trivial, rfl, ?_⟩; gi_at_call 105; refine (CallsIn.inRound l (callsIn_wide.2 (cK _))).mono ?_; rintro e w3 ⟨rfl, hb3⟩; have hI3 := HI2.out.grow hb3; have hL3 : (Lib.byteCells (pre.flatMap madeP)).length + (ByteArray.mk T.toArray).size ≤ 1000000000000 := (by have := HML.out; rw [Lib.byteCells_length]; show _ + T.toArray.size ≤ _; simp only [List.size_toArray]; omega); have hB3 : β ≤ w3.heap.size := (by have := hI3.size; omega); have hx3 := (hb3.block W.heap.size (World.block_lt_of_cell? w2 _ x0)).trans HBX.out)
        | (refine ⟨trivial, rfl, ?_⟩; gi_at_call 106; refine (CallsIn.inRound l (callsIn_wide.2 (WriteString_any β β _ _ _ hI4.bld hL4 hB4))).mono ?_; rintro e w5 ⟨⟨v5, rfl⟩, hw5, hb5, hk5⟩; have hI5 := hI4.wrote hlt1 hw5 hb5 hk5)
        | (refine ⟨trivial, rfl, ?_⟩; gi_at_call 106; refine (CallsIn.inRound l (callsIn_wide.2 (WriteString_any β β _ _ _ hI3.bld hL3 hB3))).mono ?_; rintro e w4 ⟨⟨v4, rfl⟩, hw4, hb4, hk4⟩; have hI4 := hI3.wrote hlt1 hw4 hb4 hk4; have hx4 := hk4 _ _ hx3 (fun e => HWB.out (Option.some.inj e).symm) (by intro c fz e; cases e); have hy4 : w4.cell? ⟨W.heap.size, 2, none⟩ = some (.string ⟨q.put.toArray⟩) := Lib.cell_of_heap hx4 2; have hL4 : (Lib.byteCells (pre.flatMap madeP ++ T)).length + (ByteArray.mk q.put.toArray).size ≤ 1000000000000 := (by have := HML.out; rw [Lib.byteCells_length, List.length_append]; show _ + q.put.toArray.size ≤ _; simp only [List.size_toArray]; omega); have hB4 : β ≤ w4.heap.size := (by have := hI4.size; omega))
        | fail)
      have hK := HI2.out.kept hI5 (Nat.le_trans hb3.size (Nat.le_trans hb4.size hb5.size))
      refine ⟨hK.1, hK.2, r, ?_⟩
      rw [HNX.out, HMK.out, ← List.append_assoc]
      exact hI5
    · have hkd : decide (0 < q.keep) = false := decide_eq_false hk
      rw [hkd] at cK
      have HMK : Hid (madeP (q, T) = q.put) := by show _ = _; unfold madeP; rw [if_neg hk, List.nil_append]
      clear hk hkd
      gi_wp2_with (first
        | (refine ⟨trivial, rfl, ?_⟩; gi_at_call 105; refine (CallsIn.inRound l (callsIn_wide.2 (cK _))).mono ?_; rintro e w3 ⟨rfl, hb3⟩; have hI3 := HI2.out.grow hb3; have hL3 : (Lib.byteCells (pre.flatMap madeP)).length + (ByteArray.mk q.put.toArray).size ≤ 1000000000000 := (by have := HML.out; rw [Lib.byteCells_length]; show _ + q.put.toArray.size ≤ _; simp only [List.size_toArray]; omega); have hB3 : β ≤ w3.heap.size := (by have := hI3.size; omega); have y3 : w3.cell? ⟨W.heap.size, 2, none⟩ = some (.string ⟨q.put.toArray⟩) := Lib.cell_of_heap ((hb3.block W.heap.size (World.block_lt_of_cell? w2 _ x0)).trans HBX.out) 2)
        | (refine ⟨trivial, rfl, ?_⟩; gi_at_call 106; refine (CallsIn.inRound l (callsIn_wide.2 (WriteString_any β β _ _ _ hI3.bld hL3 hB3))).mono ?_; rintro e w4 ⟨⟨v4, rfl⟩, hw4, hb4, hk4⟩; have hI4 := hI3.wrote hlt1 hw4 hb4 hk4)
        | (refine ⟨trivial, ?_⟩)
        | fail)
      have hK := HI2.out.kept hI4 (Nat.le_trans hb3.size hb4.size)
      refine ⟨hK.1, hK.2, r, ?_⟩
      rw [HNX.out, HMK.out]
      exact hI4
  case done =>
    rintro xs W rfl ⟨r, hI⟩ hDef
    rw [hs4] at hDef ⊢
    have HI : Hid (apI w β (.slice p ps.length c) (.string ⟨s.toArray⟩) r (applyP ps s) W) := hI
    have cS := String_any β β (applyP ps s) W HI.out.bld (by have := HI.out.size; omega)
    rw [HS.out] at cS
    clear hI q0 q1 q2 hb4
    gi_wp2_with (first
      | (refine ⟨trivial, ?_⟩; gi_at_call 107; refine (callsIn_wide.2 cS).mono ?_; rintro e w6 ⟨rfl, hb6, hk6⟩)
      | fail)
    have hDef6 := hk6 _ _ hDef (fun e => by have := Option.some.inj e; omega) (by intro c fz e; cases e)
    have hP := Put1.putObj (β + 3) w6 (.deferred none)
    refine ⟨by simp, .inl ⟨_, _, rfl, run_takeDeferred hDef6, ?_⟩⟩
    exact ⟨.tuple #[.string S, .nilIface], by simp [results, Tryz.results28, go_sem], rfl, (HI.out.below.trans (hb6.mono hlt1)).trans (hP.below (by omega))⟩

theorem Apply_any (v : Value) (ps : List Pt) (s : List UInt8) (w : World) (hT : Lib.Utf8Tabs 2 3 w) (hr : opAt w v ps) (hwf : ∀ p ∈ ps, wfP p) (hs : s.length < 1000000000) (hl : ps.length < 10000000) (hpu : putsP ps < 100000000000) :
    Calls Tryz.prog 28 #[v, .string ⟨s.toArray⟩] w fun e w' => e = .returned (.tuple #[.string ⟨(if ordE ps s = 0 then applyP ps s else []).toArray⟩, errV (ordE ps s)]) ∧ Below w.heap.size w w' := by
  by_cases he : ordE ps s = 0
  · rw [if_pos he, he]
    have hc : chkE ps (s.length : Int) = 0 ∧ badO ps s = false := by
      unfold ordE at he
      split at he
      · rename_i h
        refine ⟨h, ?_⟩
        cases hb : badO ps s with
        | false => rfl
        | true => rw [hb] at he; simp at he
      · rename_i h; exact absurd he h
    exact Apply_fine v ps s w hT hr hwf hs hl hpu hc.1 hc.2
  · rw [if_neg he]
    exact Apply_err v ps s w hT hr hwf hs hl he
end Go.Proofs.YtfedgjnhanlmeabGreatDoor

namespace Go.Proofs.YtfedgjnhanlmeabGreatDoor
open Go.RowKit
set_option linter.unusedVariables false
attribute [local go_sem] Oper.semAt_some

theorem add_bd {M : Nat} (a : Nat) (s : NSt) (p : Pt) (w : World) (h : gath M w a s) {T : Int} {n : Nat} (hB : Bd s T n) (hp : soundP p) (hT : T + wtP p < 1000000000) (hn : n < 10000000) :
    Calls Tryz.prog 229 #[partV p, .pointer (some ⟨a + 1, 0, none⟩), .pointer (some ⟨a + 2, 0, none⟩), .pointer (some ⟨a + 3, 0, none⟩), .pointer (some ⟨a, 0, none⟩)] w fun e w' => (∃ v, e = .returned v) ∧ gath M w' a (addP s p) ∧ BelowG M a w w' := by
  have h1 := hB.put
  have h2 := hB.d0
  have h3 := hB.dT
  have h4 := hB.len
  obtain ⟨p1, p2⟩ := hp
  unfold wtP at hT
  exact add_anyG a s p w h (by omega) h2 (by omega) p2 p1 (by omega) (fun q hq => by have := hB.keep q hq; omega) (by omega)

theorem gath_put {A B : World} {a n : Nat} {s : NSt} {r : Loop} (h : gath (a + 4) A a s) (hn : A.heap[n]? = some (.loop r)) (ha : a + 3 < n) (hp : Put1 n A B) : gath (a + 4) B a s := by
  have hM := h.le
  have hT := h.top
  obtain ⟨⟨p, c, h1, h2⟩, h3, ⟨p', c', h4, h5⟩, h6, h7, h8, h9⟩ := h
  exact ⟨⟨p, c, (hp.cell (by omega)).trans h1, own_put h2 hn hp⟩, (hp.frozen (by omega)).trans h3, ⟨p', c', (hp.cell (by omega)).trans h4, own_put h5 hn hp⟩, (hp.frozen (by omega)).trans h6, (hp.cell (by omega)).trans h7, (hp.frozen (by omega)).trans h8, (hp.cell (by omega)).trans h9, hM, by rw [hp.size]; exact hT⟩

/-- What a round of Invert's loop keeps. -/
structure ivI (w : World) (a β : Nat) (fv v1 v2 : Value) (r : Loop) (st : NSt) (A : World) : Prop where
  below : Below w.heap.size w A
  size : β + 5 ≤ A.heap.size
  g : gath (a + 4) A a st
  h0 : A.heap[β]? = some (.cells #[fv] 322 (0, 0))
  h1 : A.heap[β + 1]? = some (.cells #[v1] 23 (0, 0))
  h2 : A.heap[β + 2]? = some (.cells #[v2] 9 (0, 0))
  h3 : A.heap[β + 3]? = some (.deferred (some []))
  h4 : A.heap[β + 4]? = some (.loop r)
theorem ivI.grow {w : World} {a β : Nat} {fv v1 v2 : Value} {r : Loop} {st : NSt} {A B : World} (h : ivI w a β fv v1 v2 r st A) (hb : Below A.heap.size A B) : ivI w a β fv v1 v2 r st B := by
  have hs := h.size
  exact ⟨h.below.trans (hb.mono h.below.size), Nat.le_trans hs hb.size, gath_below h.g hb, (hb.block β (by omega)).trans h.h0, (hb.block (β + 1) (by omega)).trans h.h1, (hb.block (β + 2) (by omega)).trans h.h2, (hb.block (β + 3) (by omega)).trans h.h3, (hb.block (β + 4) (by omega)).trans h.h4⟩
theorem ivI.put {w : World} {a β : Nat} {fv v1 v2 : Value} {r r' : Loop} {st : NSt} {A B : World} (h : ivI w a β fv v1 v2 r st A) (hw : w.heap.size ≤ β) (ha : a + 4 ≤ β) (hp : Put1 (β + 4) A B) (hl : B.heap[β + 4]? = some (.loop r')) : ivI w a β fv v1 v2 r' st B :=
  ⟨h.below.trans (hp.below (by omega)), by rw [hp.size]; exact h.size, gath_put h.g h.h4 (by omega) hp, (hp.block β (by omega)).trans h.h0, (hp.block (β + 1) (by omega)).trans h.h1, (hp.block (β + 2) (by omega)).trans h.h2, (hp.block (β + 3) (by omega)).trans h.h3, hl⟩
theorem ivI.kept {w : World} {a β : Nat} {fv v1 v2 : Value} {r : Loop} {st st' : NSt} {A B : World} (h : ivI w a β fv v1 v2 r st A) (h' : ivI w a β fv v1 v2 r st' B) (hs : A.heap.size ≤ B.heap.size) :
    Same2 (β + 3) A B ∧ A.heap.size ≤ B.heap.size ∧ ∀ (x : Nat), x = β + 1 ∨ x = β + 1 + 1 ∨ x < w.heap.size → B.heap[x]? = A.heap[x]? := by
  refine ⟨⟨h'.h3.trans h.h3.symm, h'.h4.trans h.h4.symm⟩, hs, ?_⟩
  rintro x (rfl | rfl | hx)
  · exact h'.h1.trans h.h1.symm
  · exact h'.h2.trans h.h2.symm
  · exact (h'.below.block x hx).trans (h.below.block x hx).symm

end Go.Proofs.YtfedgjnhanlmeabGreatDoor

namespace Go.Proofs.YtfedgjnhanlmeabGreatDoor
set_option linter.unusedVariables false

def lengthP (p : Pt) : Int := p.keep + p.drop + p.put.length
def noP : Pt := ⟨0, 0, []⟩
/-- So much off a first part; what is left of it. -/
def cutP (p : Pt) (n : Int) : Pt × List Pt :=
  if lengthP p = n then (p, [])
  else if 0 < p.keep then (⟨n, 0, []⟩, [⟨p.keep - n, p.drop, p.put⟩])
  else if 0 < p.drop then (⟨0, n, []⟩, [⟨p.keep, p.drop - n, p.put⟩])
  else (⟨0, 0, p.put.take n.toNat⟩, [⟨p.keep, p.drop, p.put.drop n.toNat⟩])
/-- The pairs that are taken, from the left on. -/
def sideP (la lb : Pt → Bool) : Nat → List Pt → List Pt → List (Pt × Pt)
  | 0, _, _ => []
  | f + 1, p :: a, b => if la p then (p, noP) :: sideP la lb f a b else match b with
    | q :: b => if lb q then (noP, q) :: sideP la lb f (p :: a) b else
      ((cutP p (min (lengthP p) (lengthP q))).1, (cutP q (min (lengthP p) (lengthP q))).1) :: sideP la lb f ((cutP p (min (lengthP p) (lengthP q))).2 ++ a) ((cutP q (min (lengthP p) (lengthP q))).2 ++ b)
    | [] => []
  | f + 1, [], q :: b => if lb q then (noP, q) :: sideP la lb f [] b else []
  | f + 1, [], [] => []

def isKeepP (p : Pt) : Bool := decide (0 < p.keep)
def isPutP (p : Pt) : Bool := decide (p.put ≠ [])
/-- What Transform adds of a pair. -/
def turnP (x : Pt × Pt) : List Pt := if isPutP x.2 then [⟨x.2.put.length, 0, []⟩] else if isPutP x.1 || isKeepP x.2 then [x.1] else []

/-- A part that is one thing, and not nothing. -/
def oneP (p : Pt) : Prop := (0 < p.keep ∧ p.drop = 0 ∧ p.put = []) ∨ (p.keep = 0 ∧ 0 < p.drop ∧ p.put = []) ∨ (p.keep = 0 ∧ p.drop = 0 ∧ p.put ≠ [])
theorem length_pos {p : Pt} (h : oneP p) : 0 < lengthP p := by
  unfold lengthP
  rcases h with ⟨h1, h2, h3⟩ | ⟨h1, h2, h3⟩ | ⟨h1, h2, h3⟩
  · rw [h2, h3]; simp; omega
  · rw [h1, h3]; simp; omega
  · have := List.length_pos_iff.2 h3; omega
theorem cut_one {p : Pt} (h : oneP p) {n : Int} (h0 : 0 < n) (hn : n ≤ lengthP p) : oneP (cutP p n).1 ∧ lengthP (cutP p n).1 = n ∧ (∀ q ∈ (cutP p n).2, oneP q ∧ lengthP q = lengthP p - n) ∧ ((cutP p n).2 = [] ↔ lengthP p = n) := by
  unfold cutP
  by_cases e : lengthP p = n
  · rw [if_pos e]; exact ⟨h, e, by simp, by simp [e]⟩
  · rw [if_neg e]
    obtain ⟨K, D, U⟩ := p
    have e' : ¬ K + D + (U.length : Int) = n := e
    have hn' : n ≤ K + D + (U.length : Int) := hn
    clear e hn
    rcases h with ⟨h1, h2, h3⟩ | ⟨h1, h2, h3⟩ | ⟨h1, h2, h3⟩
    · replace h1 : 0 < K := h1
      obtain rfl : D = 0 := h2
      obtain rfl : U = [] := h3
      have hl : (([] : List UInt8).length : Int) = 0 := rfl
      rw [hl] at e' hn'
      rw [if_pos (show 0 < (⟨K, 0, []⟩ : Pt).keep from h1)]
      refine ⟨.inl ⟨h0, rfl, rfl⟩, by simp [lengthP], ?_, ⟨fun h => (by cases h), fun h => absurd h (by simp only [lengthP, List.length_nil]; omega)⟩⟩
      intro q hq
      obtain rfl := List.mem_singleton.1 hq
      exact ⟨.inl ⟨by show 0 < K - n; omega, rfl, rfl⟩, by simp only [lengthP, List.length_nil]; omega⟩
    · obtain rfl : K = 0 := h1
      replace h2 : 0 < D := h2
      obtain rfl : U = [] := h3
      have hl : (([] : List UInt8).length : Int) = 0 := rfl
      rw [hl] at e' hn'
      rw [if_neg (show ¬ 0 < (⟨0, D, []⟩ : Pt).keep from Int.lt_irrefl 0), if_pos (show 0 < (⟨0, D, []⟩ : Pt).drop from h2)]
      refine ⟨.inr (.inl ⟨rfl, h0, rfl⟩), by simp [lengthP], ?_, ⟨fun h => (by cases h), fun h => absurd h (by simp only [lengthP, List.length_nil]; omega)⟩⟩
      intro q hq
      obtain rfl := List.mem_singleton.1 hq
      exact ⟨.inr (.inl ⟨rfl, by show 0 < D - n; omega, rfl⟩), by simp only [lengthP, List.length_nil]; omega⟩
    · obtain rfl : K = 0 := h1
      obtain rfl : D = 0 := h2
      replace h3 : U ≠ [] := h3
      rw [if_neg (show ¬ 0 < (⟨0, 0, U⟩ : Pt).keep from Int.lt_irrefl 0), if_neg (show ¬ 0 < (⟨0, 0, U⟩ : Pt).drop from Int.lt_irrefl 0)]
      have hl : (U.take n.toNat).length = n.toNat := by rw [List.length_take]; omega
      have hd : (U.drop n.toNat).length = U.length - n.toNat := List.length_drop
      refine ⟨.inr (.inr ⟨rfl, rfl, ?_⟩), by simp only [lengthP, hl]; omega, ?_, ⟨fun h => (by cases h), fun h => absurd h (by simp only [lengthP]; omega)⟩⟩
      · intro e'
        have := congrArg List.length e'
        rw [hl, List.length_nil] at this
        omega
      · intro q hq
        obtain rfl := List.mem_singleton.1 hq
        refine ⟨.inr (.inr ⟨rfl, rfl, ?_⟩), by simp only [lengthP, hd]; omega⟩
        intro e'
        have := congrArg List.length e'
        rw [hd, List.length_nil] at this
        omega
end Go.Proofs.YtfedgjnhanlmeabGreatDoor

namespace Go.Proofs.YtfedgjnhanlmeabGreatDoor
open Go.RowKit
set_option linter.unusedVariables false
attribute [local go_sem] Oper.semAt_some

/-- Every block but g that was there stands. -/
structure ButO (g : Nat) (w w' : World) : Prop where
  os : w'.os = w.os
  tape : w'.tape = w.tape
  output : w'.output = w.output
  size : w.heap.size ≤ w'.heap.size
  block : ∀ k, k < w.heap.size → k ≠ g → w'.heap[k]? = w.heap[k]?
theorem ButO.of {g : Nat} {w w' : World} (h : Below w.heap.size w w') : ButO g w w' := ⟨h.os, h.tape, h.output, h.size, fun k hk _ => h.block k hk⟩
theorem ButO.refl (g : Nat) (w : World) : ButO g w w := .of (.refl _ _)
theorem ButO.trans {g : Nat} {a b c : World} (h : ButO g a b) (k : ButO g b c) : ButO g a c :=
  ⟨k.os.trans h.os, k.tape.trans h.tape, k.output.trans h.output, Nat.le_trans h.size k.size, fun i hi hg => (k.block i (Nat.lt_of_lt_of_le hi h.size) hg).trans (h.block i hi hg)⟩
theorem ButO.below {g B : Nat} {w w' : World} (h : ButO g w w') (hg : B ≤ g) (hB : B ≤ w.heap.size) : Below B w w' := ⟨h.os, h.tape, h.output, h.size, fun k hk => h.block k (by omega) (by omega)⟩
theorem ButO.set {g : Nat} {a w : World} (h : ButO g a w) (o : Nat) (u : Value) : ButO g a (w.setCell ⟨g, o, none⟩ u) :=
  h.trans ⟨rfl, rfl, rfl, by simp [World.setCell], fun k _ hk => Below.heap_setCell _ _ _ _ (by show k ≠ g; exact hk)⟩
theorem ButO.drew {g : Nat} {a w : World} (h : ButO g a w) : ButO g a w.drew := h.trans ⟨rfl, rfl, rfl, Nat.le_refl _, fun _ _ _ => rfl⟩

/-- A window into block g that may be written: these parts, first to last. -/
def winP (w : World) (g : Nat) (v : Value) (ps : List Pt) : Prop :=
  ∃ p c, v = .slice p ps.length c ∧ ps.length ≤ c ∧ c ≤ maxLen ∧ (ps ≠ [] → ∃ o, p = some ⟨g, o, none⟩ ∧ g < w.heap.size ∧ (∀ j, w.frozen? ⟨g, j, none⟩ = false) ∧ ∀ i q, ps[i]? = some q →
    w.cell? ⟨g, o + i * 3, none⟩ = some (.int .i64 q.keep) ∧ w.cell? ⟨g, o + i * 3 + 1, none⟩ = some (.int .i64 q.drop) ∧ w.cell? ⟨g, o + i * 3 + 2, none⟩ = some (.string ⟨q.put.toArray⟩))
theorem winP_kept {w w' : World} {g : Nat} {v : Value} {ps : List Pt} (h : winP w g v ps) (hs : w.heap.size ≤ w'.heap.size) (hb : g < w.heap.size → w'.heap[g]? = w.heap[g]?) : winP w' g v ps := by
  obtain ⟨p, c, rfl, h1, h2, h3⟩ := h
  refine ⟨p, c, rfl, h1, h2, fun hne => ?_⟩
  obtain ⟨o, e1, e2, e4, e3⟩ := h3 hne
  have hg := hb e2
  refine ⟨o, e1, by omega, fun j => (World.frozen?_of_block (w := w) (a := ⟨g, j, none⟩) hg).trans (e4 j), fun i q hi => ?_⟩
  obtain ⟨f1, f2, f3⟩ := e3 i q hi
  exact ⟨(World.cell?_of_block (w := w) (a := ⟨g, o + i * 3, none⟩) hg).trans f1, (World.cell?_of_block (w := w) (a := ⟨g, o + i * 3 + 1, none⟩) hg).trans f2, (World.cell?_of_block (w := w) (a := ⟨g, o + i * 3 + 2, none⟩) hg).trans f3⟩
theorem winP_below {w w' : World} {g : Nat} {v : Value} {ps : List Pt} (h : winP w g v ps) (hb : Below w.heap.size w w') : winP w' g v ps := winP_kept h hb.size fun hg => hb.block g hg
theorem winP_but {w w' : World} {g k : Nat} {v : Value} {ps : List Pt} (h : winP w g v ps) (hb : ButO k w w') (hne : g ≠ k) : winP w' g v ps := winP_kept h hb.size fun hg => hb.block g hg hne
theorem winP_own {w : World} {B : Nat} {v : Value} {ps : List Pt} (h : w.ownsRow B 50 3 v ps.length (cellsP ps)) : ∃ g, (g = B ∨ (B ≤ g ∧ g < w.heap.size)) ∧ winP w g v ps := by
  have h' := h
  rcases h.2 with ⟨rfl, h2⟩ | ⟨g, cap, cur, rfl, h2, h3, h4, h5, h6, h7⟩
  · obtain rfl : ps = [] := List.eq_nil_of_length_eq_zero h2
    exact ⟨B, .inl rfl, none, 0, rfl, Nat.le_refl _, Nat.zero_le _, fun h => absurd rfl h⟩
  · have hlt := (Array.getElem?_eq_some_iff.1 h3).1
    refine ⟨g, .inr ⟨h2, hlt⟩, _, cap, rfl, h4, h5, fun _ => ⟨0, rfl, hlt, fun j => h'.frozenAt j, fun i q hi => ?_⟩⟩
    have hlt := (List.getElem?_eq_some_iff.1 hi).1
    have hc := cellsP_get ps i q hi
    refine ⟨?_, ?_, ?_⟩
    · rw [Nat.zero_add, h'.cellAt _ (by omega)]; exact hc 0 (by omega)
    · rw [Nat.zero_add, h'.cellAt _ (by omega)]; exact hc 1 (by omega)
    · rw [Nat.zero_add, h'.cellAt _ (by omega)]; exact hc 2 (by omega)
/-- The first part of a window, and the window behind it. -/
theorem winP_head {w : World} {g : Nat} {v : Value} {p : Pt} {ps : List Pt} (h : winP w g v (p :: ps)) : ∃ o c, v = .slice (some ⟨g, o, none⟩) (ps.length + 1) c ∧ ps.length + 1 ≤ c ∧ c ≤ maxLen ∧ g < w.heap.size ∧ (∀ j, w.frozen? ⟨g, j, none⟩ = false) ∧
    w.cell? ⟨g, o, none⟩ = some (.int .i64 p.keep) ∧ w.cell? ⟨g, o + 1, none⟩ = some (.int .i64 p.drop) ∧ w.cell? ⟨g, o + 2, none⟩ = some (.string ⟨p.put.toArray⟩) := by
  obtain ⟨q, c, rfl, h1, h2, h3⟩ := h
  obtain ⟨o, rfl, e2, e4, e3⟩ := h3 (by simp)
  obtain ⟨f1, f2, f3⟩ := e3 0 p rfl
  simp only [Nat.zero_mul, Nat.add_zero] at f1 f2 f3
  exact ⟨o, c, rfl, h1, h2, e2, e4, f1, f2, f3⟩
theorem winP_tail {w w' : World} {g o c : Nat} {p : Pt} {ps : List Pt} (h : winP w g (.slice (some ⟨g, o, none⟩) (ps.length + 1) c) (p :: ps)) (hs : w.heap.size ≤ w'.heap.size) (hf : ∀ j, w'.frozen? ⟨g, j, none⟩ = w.frozen? ⟨g, j, none⟩) (hc : ∀ j, o + 3 ≤ j → w'.cell? ⟨g, j, none⟩ = w.cell? ⟨g, j, none⟩) :
    winP w' g (.slice (some ⟨g, o + 3, none⟩) ps.length (c - 1)) ps := by
  obtain ⟨q, c', e, h1, h2, h3⟩ := h
  obtain ⟨o', rfl, e2, e4, e3⟩ := h3 (by simp)
  simp only [Value.slice.injEq, Option.some.injEq, Addr.mk.injEq, true_and, and_true] at e
  obtain ⟨e5, _, e6⟩ := e
  subst e5 e6
  simp only [List.length_cons] at h1
  refine ⟨_, c - 1, rfl, by omega, by omega, fun hne => ⟨o + 3, rfl, by omega, fun j => (hf j).trans (e4 j), fun i q hi => ?_⟩⟩
  obtain ⟨f1, f2, f3⟩ := e3 (i + 1) q (by simpa using hi)
  rw [show o + (i + 1) * 3 = o + 3 + i * 3 by omega] at f1 f2 f3
  exact ⟨(hc _ (by omega)).trans f1, (hc _ (by omega)).trans f2, (hc _ (by omega)).trans f3⟩
/-- The first part, turned. -/
theorem winP_first {w w' : World} {g o c : Nat} {p p' : Pt} {ps : List Pt} (h : winP w g (.slice (some ⟨g, o, none⟩) (ps.length + 1) c) (p :: ps)) (hs : w.heap.size ≤ w'.heap.size) (hf : ∀ j, w'.frozen? ⟨g, j, none⟩ = w.frozen? ⟨g, j, none⟩) (hc : ∀ j, o + 3 ≤ j → w'.cell? ⟨g, j, none⟩ = w.cell? ⟨g, j, none⟩)
    (c0 : w'.cell? ⟨g, o, none⟩ = some (.int .i64 p'.keep)) (c1 : w'.cell? ⟨g, o + 1, none⟩ = some (.int .i64 p'.drop)) (c2 : w'.cell? ⟨g, o + 2, none⟩ = some (.string ⟨p'.put.toArray⟩)) :
    winP w' g (.slice (some ⟨g, o, none⟩) (ps.length + 1) c) (p' :: ps) := by
  obtain ⟨q, c', e, h1, h2, h3⟩ := h
  obtain ⟨o', rfl, e2, e4, e3⟩ := h3 (by simp)
  simp only [Value.slice.injEq, Option.some.injEq, Addr.mk.injEq, true_and, and_true] at e
  obtain ⟨e5, _, e6⟩ := e
  subst e5 e6
  refine ⟨_, c, rfl, h1, h2, fun _ => ⟨o, rfl, by omega, fun j => (hf j).trans (e4 j), fun i q hi => ?_⟩⟩
  cases i with
  | zero =>
    obtain rfl : p' = q := by simpa using hi
    simp only [Nat.zero_mul, Nat.add_zero]
    exact ⟨c0, c1, c2⟩
  | succ i =>
    obtain ⟨f1, f2, f3⟩ := e3 (i + 1) q (by simpa using hi)
    exact ⟨(hc _ (by omega)).trans f1, (hc _ (by omega)).trans f2, (hc _ (by omega)).trans f3⟩

theorem frozen_of_heap {w : World} {b : Nat} {xs : Array Value} {t : TypeId} (h : w.heap[b]? = some (.cells xs t (0, 0))) (j : Nat) : w.frozen? ⟨b, j, none⟩ = false := by
  simp [World.frozen?, h]
theorem two_boxes {w w1 : World} {R P : Array Value} {T S : TypeId} (hb : Below ((w.alloc (.cells R T)).alloc (.cells P S)).heap.size ((w.alloc (.cells R T)).alloc (.cells P S)) w1) :
    w1.heap[w.heap.size]? = some (.cells R T (0, 0)) ∧ w1.heap[w.heap.size + 1]? = some (.cells P S (0, 0)) ∧ Below w.heap.size w w1 := by
  refine ⟨(hb.block _ (by simp only [World.size_alloc]; omega)).trans ((heap_alloc_old _ _ (by rw [World.size_alloc]; omega)).trans (heap_alloc_new _ _)), (hb.block _ (by simp only [World.size_alloc]; omega)).trans (by have := heap_alloc_new (w.alloc (.cells R T)) (.cells P S); rwa [World.size_alloc] at this), ?_⟩
  exact (((Below.refl _ w).alloc (Nat.le_refl _) _).alloc (by rw [World.size_alloc]; omega) _).trans (hb.mono (by simp only [World.size_alloc]; omega))

theorem cut_rest {w w' : World} {g o c : Nat} {p : Pt} {ps : List Pt} (h : winP w g (.slice (some ⟨g, o, none⟩) (ps.length + 1) c) (p :: ps)) (hb : Below w.heap.size w w') :
    winP w' g (.slice (some ⟨g, o + 3, none⟩) ps.length (c - 1)) ps ∧ (c = 1 → winP w' g (.slice (some ⟨g, o, none⟩) ps.length 0) ps) := by
  have hg : g < w.heap.size := by obtain ⟨_, _, _, _, _, hg, _⟩ := winP_head h; exact hg
  refine ⟨winP_tail h hb.size (fun j => hb.frozen (p := ⟨g, j, none⟩) hg) fun j _ => hb.cell (p := ⟨g, j, none⟩) hg, fun hc => ?_⟩
  obtain ⟨_, _, e, h1, _⟩ := h
  simp only [Value.slice.injEq, List.length_cons] at e h1
  obtain rfl : ps = [] := List.eq_nil_of_length_eq_zero (by omega)
  exact ⟨_, 0, rfl, Nat.le_refl _, Nat.zero_le _, fun h => absurd rfl h⟩

set_option maxRecDepth 100000 in
set_option maxHeartbeats 4000000 in
theorem cut_all (g : Nat) (v : Value) (p : Pt) (ps : List Pt) (n : Nat) (w : World) (h : winP w g v (p :: ps)) (hp : 0 ≤ p.keep ∧ 0 ≤ p.drop) (hn : lengthP p = n) (hb : n < 1000000000) :
    Calls Tryz.prog 232 #[v, .int .i64 n] w fun e w' => ∃ v', e = .returned (.tuple #[partV p, v']) ∧ winP w' g v' ps ∧ ButO g w w' := by
  have H : Hid (winP w g v (p :: ps)) := h
  obtain ⟨o, c, rfl, h1, h2, h3, h4, c0, c1, c2⟩ := winP_head h
  have cL : Hid (∀ wx, Calls Tryz.prog 231 #[partV p] wx fun e w' => e = .returned (.int .i64 n) ∧ Below wx.heap.size wx w') := fun wx => by
    have := length_any p wx hp (by unfold lengthP at hn; omega)
    rw [show p.keep + p.drop + (p.put.length : Int) = n from hn] at this
    exact this
  obtain ⟨K, D, U⟩ := p
  simp only at c0 c1 c2
  have c0' : w.cell? ⟨g, o + 0, none⟩ = some (.int .i64 K) := c0
  have h4' := h4 o
  have hi1 : (1 : Int) ≤ (ps.length : Int) + 1 := by omega
  unfold partV at cL
  have H4 : Hid (∀ j, w.frozen? ⟨g, j, none⟩ = false) := h4
  clear h hn hp h4
  go_enter Tryz.func232, Tryz.ntmps232
  go_wp2_with (first
    | (go_at_call 231; refine (cL.out _).mono ?_; rintro e w1 ⟨rfl, hb1⟩; obtain ⟨b1, b2, b3⟩ := two_boxes hb1; have HB : Hid (Below w.heap.size w w1) := b3; have r0 : w1.cell? ⟨w.heap.size, 0, none⟩ = some (.int .i64 0) := Lib.cell_of_heap b1 0; have r1 : w1.cell? ⟨w.heap.size, 1, none⟩ = some (.int .i64 0) := Lib.cell_of_heap b1 1; have r2 : w1.cell? ⟨w.heap.size, 2, none⟩ = some (.string ⟨#[]⟩) := Lib.cell_of_heap b1 2; have p0 : w1.cell? ⟨w.heap.size + 1, 0, none⟩ = some (.int .i64 K) := Lib.cell_of_heap b2 0; have p1 : w1.cell? ⟨w.heap.size + 1, 1, none⟩ = some (.int .i64 D) := Lib.cell_of_heap b2 1; have p2 : w1.cell? ⟨w.heap.size + 1, 2, none⟩ = some (.string ⟨U.toArray⟩) := Lib.cell_of_heap b2 2; have rF : w1.frozen? ⟨w.heap.size, 0, none⟩ = false := frozen_of_heap b1 0; have rF1 : w1.frozen? ⟨w.heap.size, 1, none⟩ = false := frozen_of_heap b1 1; have rF2 : w1.frozen? ⟨w.heap.size, 2, none⟩ = false := frozen_of_heap b1 2; clear b1 b2 b3 hb1)
    | fail)
  have s0 : (w1.setCell ⟨w.heap.size, 0, none⟩ (.int .i64 K)).cell? ⟨w.heap.size, 0, none⟩ = some (.int .i64 K) := World.cell?_setCell_same _ _ _ r0
  have s1 : ((w1.setCell ⟨w.heap.size, 0, none⟩ (.int .i64 K)).setCell ⟨w.heap.size, 1, none⟩ (.int .i64 D)).cell? ⟨w.heap.size, 1, none⟩ = some (.int .i64 D) := by
    have : (w1.setCell ⟨w.heap.size, 0, none⟩ (.int .i64 K)).cell? ⟨w.heap.size, 1, none⟩ = some (.int .i64 0) := by simp [go_sem, r1]
    exact World.cell?_setCell_same _ _ _ this
  have s2 : (((w1.setCell ⟨w.heap.size, 0, none⟩ (.int .i64 K)).setCell ⟨w.heap.size, 1, none⟩ (.int .i64 D)).setCell ⟨w.heap.size, 2, none⟩ (.string ⟨U.toArray⟩)).cell? ⟨w.heap.size, 2, none⟩ = some (.string ⟨U.toArray⟩) := by
    have : ((w1.setCell ⟨w.heap.size, 0, none⟩ (.int .i64 K)).setCell ⟨w.heap.size, 1, none⟩ (.int .i64 D)).cell? ⟨w.heap.size, 2, none⟩ = some (.string ⟨#[]⟩) := by simp [go_sem, r2]
    exact World.cell?_setCell_same _ _ _ this
  go_region
  all_goals go_wp2
  · have hc1 : c = 1 := by assumption
    subst hc1
    refine bodyPost_ret (v := .tuple #[.agg #[.int .i64 K, .int .i64 D, .string ⟨U.toArray⟩], .slice (some ⟨g, o, none⟩) ps.length 0]) (by simp [results, Tryz.results232, go_sem, s0, s1, s2]) rfl ?_
    have hbw := ((((HB.out.setCell (p := ⟨w.heap.size, 0, none⟩) (Nat.le_refl _) (.int .i64 K)).setCell (p := ⟨w.heap.size, 1, none⟩) (Nat.le_refl _) (.int .i64 D)).setCell (p := ⟨w.heap.size, 2, none⟩) (Nat.le_refl _) (.string ⟨U.toArray⟩)).drew)
    exact ⟨_, rfl, (cut_rest H.out hbw).2 rfl, .of hbw⟩
  · refine bodyPost_ret (v := .tuple #[.agg #[.int .i64 K, .int .i64 D, .string ⟨U.toArray⟩], .slice (some ⟨g, o + 3, none⟩) ps.length (c - 1)]) (by simp [results, Tryz.results232, go_sem, s0, s1, s2]) rfl ?_
    have hbw := ((((HB.out.setCell (p := ⟨w.heap.size, 0, none⟩) (Nat.le_refl _) (.int .i64 K)).setCell (p := ⟨w.heap.size, 1, none⟩) (Nat.le_refl _) (.int .i64 D)).setCell (p := ⟨w.heap.size, 2, none⟩) (Nat.le_refl _) (.string ⟨U.toArray⟩)).drew)
    exact ⟨_, rfl, (cut_rest H.out hbw).1, .of hbw⟩
end Go.Proofs.YtfedgjnhanlmeabGreatDoor

namespace Go.Proofs.YtfedgjnhanlmeabGreatDoor
open Go.RowKit
set_option linter.unusedVariables false
attribute [local go_sem] Oper.semAt_some

theorem cell_set_off {w : World} {b o o' : Nat} {x : Value} (h : o ≠ o') : (w.setCell ⟨b, o, none⟩ x).cell? ⟨b, o', none⟩ = w.cell? ⟨b, o', none⟩ := World.cell?_setCell_other _ _ _ _ (by intro e; simp only [Addr.mk.injEq] at e; omega)
theorem three_set {w : World} {b : Nat} {y0 y1 y2 : Value} (r0 : w.cell? ⟨b, 0, none⟩ = some y0) (r1 : w.cell? ⟨b, 1, none⟩ = some y1) (r2 : w.cell? ⟨b, 2, none⟩ = some y2) (x0 x1 x2 : Value) :
    (w.setCell ⟨b, 0, none⟩ x0).cell? ⟨b, 0, none⟩ = some x0 ∧ ((w.setCell ⟨b, 0, none⟩ x0).setCell ⟨b, 1, none⟩ x1).cell? ⟨b, 1, none⟩ = some x1 ∧ (((w.setCell ⟨b, 0, none⟩ x0).setCell ⟨b, 1, none⟩ x1).setCell ⟨b, 2, none⟩ x2).cell? ⟨b, 2, none⟩ = some x2 ∧
    (((w.setCell ⟨b, 0, none⟩ x0).setCell ⟨b, 1, none⟩ x1).setCell ⟨b, 2, none⟩ x2).heap.size = w.heap.size ∧ ∀ k, k ≠ b → (((w.setCell ⟨b, 0, none⟩ x0).setCell ⟨b, 1, none⟩ x1).setCell ⟨b, 2, none⟩ x2).heap[k]? = w.heap[k]? := by
  have h1 : (w.setCell ⟨b, 0, none⟩ x0).cell? ⟨b, 1, none⟩ = some y1 := by rw [cell_set_off (by omega)]; exact r1
  have h2 : ((w.setCell ⟨b, 0, none⟩ x0).setCell ⟨b, 1, none⟩ x1).cell? ⟨b, 2, none⟩ = some y2 := by rw [cell_set_off (by omega), cell_set_off (by omega)]; exact r2
  refine ⟨World.cell?_setCell_same _ _ _ r0, World.cell?_setCell_same _ _ _ h1, World.cell?_setCell_same _ _ _ h2, by simp, fun k hk => ?_⟩
  rw [Below.heap_setCell _ _ _ _ (by show k ≠ b; exact hk), Below.heap_setCell _ _ _ _ (by show k ≠ b; exact hk), Below.heap_setCell _ _ _ _ (by show k ≠ b; exact hk)]
theorem ButO.trans' {g : Nat} {w A Z : World} (h : ButO g w A) (hs : Z.heap.size = A.heap.size) (hk : ∀ k, k < w.heap.size → Z.heap[k]? = A.heap[k]?) (ho : Z.os = A.os ∧ Z.tape = A.tape ∧ Z.output = A.output) : ButO g w Z :=
  ⟨ho.1.trans h.os, ho.2.1.trans h.tape, ho.2.2.trans h.output, by rw [hs]; exact h.size, fun k hk1 hk2 => (hk k hk1).trans (h.block k hk1 hk2)⟩

set_option maxRecDepth 100000 in
set_option maxHeartbeats 4000000 in
theorem cut_keep (g : Nat) (v : Value) (K : Int) (ps : List Pt) (n : Nat) (w : World) (h : winP w g v (⟨K, 0, []⟩ :: ps)) (h0 : 0 < n) (hn : (n : Int) < K) (hb : K < 1000000000) :
    Calls Tryz.prog 232 #[v, .int .i64 n] w fun e w' => ∃ v', e = .returned (.tuple #[partV ⟨n, 0, []⟩, v']) ∧ winP w' g v' (⟨K - n, 0, []⟩ :: ps) ∧ ButO g w w' := by
  have H : Hid (winP w g v (⟨K, 0, []⟩ :: ps)) := h
  obtain ⟨o, c, rfl, h1, h2, h3, h4, c0, c1, c2⟩ := winP_head h
  have cL : Hid (∀ wx, Calls Tryz.prog 231 #[partV ⟨K, 0, []⟩] wx fun e w' => e = .returned (.int .i64 K) ∧ Below wx.heap.size wx w') := fun wx => by
    have := length_any ⟨K, 0, []⟩ wx ⟨by simp <;> omega, by simp <;> omega⟩ (by simp <;> omega)
    simpa using this
  have cK := isKeep_any ⟨K, 0, []⟩
  have cD := isDrop_any ⟨K, 0, []⟩
  have hkd : decide (0 < (⟨K, 0, []⟩ : Pt).keep) = true := decide_eq_true (show 0 < K by omega)
  rw [hkd] at cK
  have hne : ¬ K = (n : Int) := by omega
  have hw1 : -9223372036854775808 ≤ K - (n : Int) := by omega
  have hw2 : K - (n : Int) < 9223372036854775808 := by omega
  simp only at c0 c1 c2
  have H4 : Hid (∀ j, w.frozen? ⟨g, j, none⟩ = false) := h4
  have hgw : ¬ g = w.heap.size := by omega
  have hwg : ¬ w.heap.size = g := by omega
  have C0 : Hid (w.cell? ⟨g, o, none⟩ = some (.int .i64 K)) := c0
  have C1 : Hid (w.cell? ⟨g, o + 1, none⟩ = some (.int .i64 0)) := c1
  have C2 : Hid (w.cell? ⟨g, o + 2, none⟩ = some (.string ⟨[].toArray⟩)) := c2
  have c0' : w.cell? ⟨g, o + 0, none⟩ = some (.int .i64 K) := c0
  have H3 : Hid (g < w.heap.size) := h3
  unfold partV at cL cK cD
  clear h hb h4
  go_enter Tryz.func232, Tryz.ntmps232
  go_wp2_with (first
    | (go_at_call 231; refine (cL.out _).mono ?_; rintro e w1 ⟨rfl, hb1⟩; obtain ⟨b1, b2, b3⟩ := two_boxes hb1; have HR1 : Hid (w1.heap[w.heap.size]? = some (.cells #[.int .i64 0, .int .i64 0, .string ⟨#[]⟩] 50 (0, 0))) := b1; have HP1 : Hid (w1.heap[w.heap.size + 1]? = some (.cells #[.int .i64 K, .int .i64 0, .string ⟨[].toArray⟩] 50 (0, 0))) := b2; have HB1 : Hid (Below w.heap.size w w1) := b3; have p0 : w1.cell? ⟨w.heap.size + 1, 0, none⟩ = some (.int .i64 K) := Lib.cell_of_heap b2 0; have p1 : w1.cell? ⟨w.heap.size + 1, 1, none⟩ = some (.int .i64 0) := Lib.cell_of_heap b2 1; have p2 : w1.cell? ⟨w.heap.size + 1, 2, none⟩ = some (.string ⟨[].toArray⟩) := Lib.cell_of_heap b2 2; clear b1 b2 b3 hb1)
    | (go_at_call 105; refine (cK _).mono ?_; rintro e w2 ⟨rfl, hb2⟩; have HR2 : Hid (w2.heap[w.heap.size]? = some (.cells #[.int .i64 0, .int .i64 0, .string ⟨#[]⟩] 50 (0, 0))) := (hb2.block _ (heap_lt HR1.out)).trans HR1.out; have HP2 : Hid (w2.heap[w.heap.size + 1]? = some (.cells #[.int .i64 K, .int .i64 0, .string ⟨[].toArray⟩] 50 (0, 0))) := (hb2.block _ (heap_lt HP1.out)).trans HP1.out; have HB2 : Hid (Below w.heap.size w w2) := HB1.out.trans (hb2.mono HB1.out.size); have r0 : w2.cell? ⟨w.heap.size, 0, none⟩ = some (.int .i64 0) := Lib.cell_of_heap HR2.out 0; have r1 : w2.cell? ⟨w.heap.size, 1, none⟩ = some (.int .i64 0) := Lib.cell_of_heap HR2.out 1; have r2 : w2.cell? ⟨w.heap.size, 2, none⟩ = some (.string ⟨#[]⟩) := Lib.cell_of_heap HR2.out 2; have rF : w2.frozen? ⟨w.heap.size, 0, none⟩ = false := frozen_of_heap HR2.out 0; have rF1 : w2.frozen? ⟨w.heap.size, 1, none⟩ = false := frozen_of_heap HR2.out 1; have rF2 : w2.frozen? ⟨w.heap.size, 2, none⟩ = false := frozen_of_heap HR2.out 2; have g0 : w2.cell? ⟨g, o, none⟩ = some (.int .i64 K) := (HB2.out.cell H3.out).trans C0.out; have g1 : w2.cell? ⟨g, o + 1, none⟩ = some (.int .i64 0) := (HB2.out.cell H3.out).trans C1.out; have g2 : w2.cell? ⟨g, o + 2, none⟩ = some (.string ⟨[].toArray⟩) := (HB2.out.cell H3.out).trans C2.out; have gF : w2.frozen? ⟨g, o, none⟩ = false := (HB2.out.frozen H3.out).trans (H4.out o); have gF1 : w2.frozen? ⟨g, o + 1, none⟩ = false := (HB2.out.frozen H3.out).trans (H4.out _); have gF2 : w2.frozen? ⟨g, o + 2, none⟩ = false := (HB2.out.frozen H3.out).trans (H4.out _); clear hb2)
    | fail)
  obtain ⟨A, hA⟩ : ∃ A, w2.setCell ⟨g, o + 0, none⟩ (.int .i64 (K - n)) = A := ⟨_, rfl⟩
  have hA' : w2.setCell ⟨g, o, none⟩ (.int .i64 (K - n)) = A := hA
  rw [hA']
  have hkeep : A.heap[w.heap.size]? = w2.heap[w.heap.size]? := by rw [← hA]; exact Below.heap_setCell _ _ _ _ (by show w.heap.size ≠ g; omega)
  have e0 : A.cell? ⟨w.heap.size, 0, none⟩ = some (.int .i64 0) := (World.cell?_of_block (w := w2) (a := ⟨w.heap.size, 0, none⟩) hkeep).trans r0
  have e1 : A.cell? ⟨w.heap.size, 1, none⟩ = some (.int .i64 0) := (World.cell?_of_block (w := w2) (a := ⟨w.heap.size, 1, none⟩) hkeep).trans r1
  have e2 : A.cell? ⟨w.heap.size, 2, none⟩ = some (.string ⟨#[]⟩) := (World.cell?_of_block (w := w2) (a := ⟨w.heap.size, 2, none⟩) hkeep).trans r2
  obtain ⟨s0, s1, s2, hs, hk⟩ := three_set e0 e1 e2 (.int .i64 n) (.int .i64 0) (.string ⟨#[]⟩)
  refine bodyPost_ret (v := .tuple #[.agg #[(.int .i64 n), (.int .i64 0), (.string ⟨#[]⟩)], .slice (some ⟨g, o, none⟩) (ps.length + 1) c]) (by simp [results, Tryz.results232, go_sem, s0, s1, s2]) rfl ?_
  have hfirst : winP A g (.slice (some ⟨g, o, none⟩) (ps.length + 1) c) (⟨K - n, 0, []⟩ :: ps) := by
    rw [← hA]
    exact winP_first H.out (by rw [World.size_setCell]; exact HB2.out.size) (fun j => by rw [World.frozen?_setCell]; exact HB2.out.frozen H3.out) (fun j hj => by rw [cell_set_off (by omega)]; exact HB2.out.cell H3.out)
      (World.cell?_setCell_same _ _ _ g0) (by rw [cell_set_off (by omega)]; exact g1) (by rw [cell_set_off (by omega)]; exact g2)
  have hbut : ButO g w A := by rw [← hA]; exact (ButO.of HB2.out).set _ _
  generalize hZ : ((A.setCell ⟨w.heap.size, 0, none⟩ (.int .i64 n)).setCell ⟨w.heap.size, 1, none⟩ (.int .i64 0)).setCell ⟨w.heap.size, 2, none⟩ (.string ⟨#[]⟩) = Z at *
  exact ⟨_, rfl, winP_kept hfirst (Nat.le_of_eq hs.symm) fun _ => hk g (by omega), hbut.trans' hs (fun k hk' => hk k (by omega)) (by rw [← hZ]; exact ⟨rfl, rfl, rfl⟩)⟩

set_option maxRecDepth 100000 in
set_option maxHeartbeats 4000000 in
theorem cut_drop (g : Nat) (v : Value) (K : Int) (ps : List Pt) (n : Nat) (w : World) (h : winP w g v (⟨0, K, []⟩ :: ps)) (h0 : 0 < n) (hn : (n : Int) < K) (hb : K < 1000000000) :
    Calls Tryz.prog 232 #[v, .int .i64 n] w fun e w' => ∃ v', e = .returned (.tuple #[partV ⟨0, n, []⟩, v']) ∧ winP w' g v' (⟨0, K - n, []⟩ :: ps) ∧ ButO g w w' := by
  have H : Hid (winP w g v (⟨0, K, []⟩ :: ps)) := h
  obtain ⟨o, c, rfl, h1, h2, h3, h4, c0, c1, c2⟩ := winP_head h
  have cL : Hid (∀ wx, Calls Tryz.prog 231 #[partV ⟨0, K, []⟩] wx fun e w' => e = .returned (.int .i64 K) ∧ Below wx.heap.size wx w') := fun wx => by
    have := length_any ⟨0, K, []⟩ wx ⟨by simp <;> omega, by simp <;> omega⟩ (by simp <;> omega)
    simpa using this
  have cK := isKeep_any ⟨0, K, []⟩
  have cD := isDrop_any ⟨0, K, []⟩
  have hkd : decide (0 < (⟨0, K, []⟩ : Pt).keep) = false := rfl
  have hdd : decide (0 < (⟨0, K, []⟩ : Pt).drop) = true := decide_eq_true (show 0 < K by omega)
  rw [hkd] at cK
  rw [hdd] at cD
  have hne : ¬ K = (n : Int) := by omega
  have hw1 : -9223372036854775808 ≤ K - (n : Int) := by omega
  have hw2 : K - (n : Int) < 9223372036854775808 := by omega
  simp only at c0 c1 c2
  have H4 : Hid (∀ j, w.frozen? ⟨g, j, none⟩ = false) := h4
  have hgw : ¬ g = w.heap.size := by omega
  have hwg : ¬ w.heap.size = g := by omega
  have C0 : Hid (w.cell? ⟨g, o, none⟩ = some (.int .i64 0)) := c0
  have C1 : Hid (w.cell? ⟨g, o + 1, none⟩ = some (.int .i64 K)) := c1
  have C2 : Hid (w.cell? ⟨g, o + 2, none⟩ = some (.string ⟨[].toArray⟩)) := c2
  have c0' : w.cell? ⟨g, o + 0, none⟩ = some (.int .i64 0) := c0
  have H3 : Hid (g < w.heap.size) := h3
  unfold partV at cL cK cD
  clear h hb h4
  go_enter Tryz.func232, Tryz.ntmps232
  go_wp2_with (first
    | (go_at_call 231; refine (cL.out _).mono ?_; rintro e w1 ⟨rfl, hb1⟩; obtain ⟨b1, b2, b3⟩ := two_boxes hb1; have HR1 : Hid (w1.heap[w.heap.size]? = some (.cells #[.int .i64 0, .int .i64 0, .string ⟨#[]⟩] 50 (0, 0))) := b1; have HP1 : Hid (w1.heap[w.heap.size + 1]? = some (.cells #[.int .i64 0, .int .i64 K, .string ⟨[].toArray⟩] 50 (0, 0))) := b2; have HB1 : Hid (Below w.heap.size w w1) := b3; have p0 : w1.cell? ⟨w.heap.size + 1, 0, none⟩ = some (.int .i64 0) := Lib.cell_of_heap b2 0; have p1 : w1.cell? ⟨w.heap.size + 1, 1, none⟩ = some (.int .i64 K) := Lib.cell_of_heap b2 1; have p2 : w1.cell? ⟨w.heap.size + 1, 2, none⟩ = some (.string ⟨[].toArray⟩) := Lib.cell_of_heap b2 2; clear b1 b2 b3 hb1)
    | (go_at_call 105; refine (cK _).mono ?_; rintro e w2 ⟨rfl, hb2⟩; have HR2 : Hid (w2.heap[w.heap.size]? = some (.cells #[.int .i64 0, .int .i64 0, .string ⟨#[]⟩] 50 (0, 0))) := (hb2.block _ (heap_lt HR1.out)).trans HR1.out; have HP2 : Hid (w2.heap[w.heap.size + 1]? = some (.cells #[.int .i64 0, .int .i64 K, .string ⟨[].toArray⟩] 50 (0, 0))) := (hb2.block _ (heap_lt HP1.out)).trans HP1.out; have HB2 : Hid (Below w.heap.size w w2) := HB1.out.trans (hb2.mono HB1.out.size); have p0 : w2.cell? ⟨w.heap.size + 1, 0, none⟩ = some (.int .i64 0) := Lib.cell_of_heap HP2.out 0; have p1 : w2.cell? ⟨w.heap.size + 1, 1, none⟩ = some (.int .i64 K) := Lib.cell_of_heap HP2.out 1; have p2 : w2.cell? ⟨w.heap.size + 1, 2, none⟩ = some (.string ⟨[].toArray⟩) := Lib.cell_of_heap HP2.out 2; clear hb2)
    | (go_at_call 196; refine (cD _).mono ?_; rintro e w3 ⟨rfl, hb3⟩; have HR3 : Hid (w3.heap[w.heap.size]? = some (.cells #[.int .i64 0, .int .i64 0, .string ⟨#[]⟩] 50 (0, 0))) := (hb3.block _ (heap_lt HR2.out)).trans HR2.out; have HP3 : Hid (w3.heap[w.heap.size + 1]? = some (.cells #[.int .i64 0, .int .i64 K, .string ⟨[].toArray⟩] 50 (0, 0))) := (hb3.block _ (heap_lt HP2.out)).trans HP2.out; have HB3 : Hid (Below w.heap.size w w3) := HB2.out.trans (hb3.mono HB2.out.size); have r0 : w3.cell? ⟨w.heap.size, 0, none⟩ = some (.int .i64 0) := Lib.cell_of_heap HR3.out 0; have r1 : w3.cell? ⟨w.heap.size, 1, none⟩ = some (.int .i64 0) := Lib.cell_of_heap HR3.out 1; have r2 : w3.cell? ⟨w.heap.size, 2, none⟩ = some (.string ⟨#[]⟩) := Lib.cell_of_heap HR3.out 2; have rF : w3.frozen? ⟨w.heap.size, 0, none⟩ = false := frozen_of_heap HR3.out 0; have rF1 : w3.frozen? ⟨w.heap.size, 1, none⟩ = false := frozen_of_heap HR3.out 1; have rF2 : w3.frozen? ⟨w.heap.size, 2, none⟩ = false := frozen_of_heap HR3.out 2; have g0 : w3.cell? ⟨g, o, none⟩ = some (.int .i64 0) := (HB3.out.cell H3.out).trans C0.out; have g1 : w3.cell? ⟨g, o + 1, none⟩ = some (.int .i64 K) := (HB3.out.cell H3.out).trans C1.out; have g2 : w3.cell? ⟨g, o + 2, none⟩ = some (.string ⟨[].toArray⟩) := (HB3.out.cell H3.out).trans C2.out; have gF : w3.frozen? ⟨g, o, none⟩ = false := (HB3.out.frozen H3.out).trans (H4.out o); have gF1 : w3.frozen? ⟨g, o + 1, none⟩ = false := (HB3.out.frozen H3.out).trans (H4.out _); have gF2 : w3.frozen? ⟨g, o + 2, none⟩ = false := (HB3.out.frozen H3.out).trans (H4.out _); clear hb3)
    | fail)
  obtain ⟨A, hA⟩ : ∃ A, w3.setCell ⟨g, o + 1, none⟩ (.int .i64 (K - n)) = A := ⟨_, rfl⟩
  have hA' := hA
  rw [hA']
  have hkeep : A.heap[w.heap.size]? = w3.heap[w.heap.size]? := by rw [← hA]; exact Below.heap_setCell _ _ _ _ (by show w.heap.size ≠ g; omega)
  have e0 : A.cell? ⟨w.heap.size, 0, none⟩ = some (.int .i64 0) := (World.cell?_of_block (w := w3) (a := ⟨w.heap.size, 0, none⟩) hkeep).trans r0
  have e1 : A.cell? ⟨w.heap.size, 1, none⟩ = some (.int .i64 0) := (World.cell?_of_block (w := w3) (a := ⟨w.heap.size, 1, none⟩) hkeep).trans r1
  have e2 : A.cell? ⟨w.heap.size, 2, none⟩ = some (.string ⟨#[]⟩) := (World.cell?_of_block (w := w3) (a := ⟨w.heap.size, 2, none⟩) hkeep).trans r2
  obtain ⟨s0, s1, s2, hs, hk⟩ := three_set e0 e1 e2 (.int .i64 0) (.int .i64 n) (.string ⟨#[]⟩)
  refine bodyPost_ret (v := .tuple #[.agg #[(.int .i64 0), (.int .i64 n), (.string ⟨#[]⟩)], .slice (some ⟨g, o, none⟩) (ps.length + 1) c]) (by simp [results, Tryz.results232, go_sem, s0, s1, s2]) rfl ?_
  have hfirst : winP A g (.slice (some ⟨g, o, none⟩) (ps.length + 1) c) (⟨0, K - n, []⟩ :: ps) := by
    rw [← hA]
    exact winP_first H.out (by rw [World.size_setCell]; exact HB3.out.size) (fun j => by rw [World.frozen?_setCell]; exact HB3.out.frozen H3.out) (fun j hj => by rw [cell_set_off (by omega)]; exact HB3.out.cell H3.out)
      (by rw [cell_set_off (by omega)]; exact g0) (World.cell?_setCell_same _ _ _ g1) (by rw [cell_set_off (by omega)]; exact g2)
  have hbut : ButO g w A := by rw [← hA]; exact (ButO.of HB3.out).set _ _
  generalize hZ : ((A.setCell ⟨w.heap.size, 0, none⟩ (.int .i64 0)).setCell ⟨w.heap.size, 1, none⟩ (.int .i64 n)).setCell ⟨w.heap.size, 2, none⟩ (.string ⟨#[]⟩) = Z at *
  exact ⟨_, rfl, winP_kept hfirst (Nat.le_of_eq hs.symm) fun _ => hk g (by omega), hbut.trans' hs (fun k hk' => hk k (by omega)) (by rw [← hZ]; exact ⟨rfl, rfl, rfl⟩)⟩

set_option maxRecDepth 100000 in
set_option maxHeartbeats 4000000 in
theorem cut_put (g : Nat) (v : Value) (U : List UInt8) (ps : List Pt) (n : Nat) (w : World) (h : winP w g v (⟨0, 0, U⟩ :: ps)) (h0 : 0 < n) (hn : n < U.length) (hb : U.length < 1000000000) :
    Calls Tryz.prog 232 #[v, .int .i64 n] w fun e w' => ∃ v', e = .returned (.tuple #[partV ⟨0, 0, U.take n⟩, v']) ∧ winP w' g v' (⟨0, 0, U.drop n⟩ :: ps) ∧ ButO g w w' := by
  have H : Hid (winP w g v (⟨0, 0, U⟩ :: ps)) := h
  obtain ⟨o, c, rfl, h1, h2, h3, h4, c0, c1, c2⟩ := winP_head h
  have cL : Hid (∀ wx, Calls Tryz.prog 231 #[partV ⟨0, 0, U⟩] wx fun e w' => e = .returned (.int .i64 (U.length : Int)) ∧ Below wx.heap.size wx w') := fun wx => by
    have := length_any ⟨0, 0, U⟩ wx ⟨by simp <;> omega, by simp <;> omega⟩ (by simp <;> omega)
    simpa using this
  have cK := isKeep_any ⟨0, 0, U⟩
  have cD := isDrop_any ⟨0, 0, U⟩
  have hkd : decide (0 < (⟨0, 0, U⟩ : Pt).keep) = false := rfl
  have hdd : decide (0 < (⟨0, 0, U⟩ : Pt).drop) = false := rfl
  rw [hkd] at cK
  rw [hdd] at cD
  have hne : ¬ (U.length : Int) = (n : Int) := by omega
  have hz : (ByteArray.mk U.toArray).size = U.length := by simp [ByteArray.size]
  have hle : n ≤ U.length := by omega
  simp only at c0 c1 c2
  have H4 : Hid (∀ j, w.frozen? ⟨g, j, none⟩ = false) := h4
  have hgw : ¬ g = w.heap.size := by omega
  have hwg : ¬ w.heap.size = g := by omega
  have C0 : Hid (w.cell? ⟨g, o, none⟩ = some (.int .i64 0)) := c0
  have C1 : Hid (w.cell? ⟨g, o + 1, none⟩ = some (.int .i64 0)) := c1
  have C2 : Hid (w.cell? ⟨g, o + 2, none⟩ = some (.string ⟨U.toArray⟩)) := c2
  have c0' : w.cell? ⟨g, o + 0, none⟩ = some (.int .i64 0) := c0
  have H3 : Hid (g < w.heap.size) := h3
  unfold partV at cL cK cD
  clear h hb h4
  go_enter Tryz.func232, Tryz.ntmps232
  go_wp2_with (first
    | (go_at_call 231; refine (cL.out _).mono ?_; rintro e w1 ⟨rfl, hb1⟩; obtain ⟨b1, b2, b3⟩ := two_boxes hb1; have HR1 : Hid (w1.heap[w.heap.size]? = some (.cells #[.int .i64 0, .int .i64 0, .string ⟨#[]⟩] 50 (0, 0))) := b1; have HP1 : Hid (w1.heap[w.heap.size + 1]? = some (.cells #[.int .i64 0, .int .i64 0, .string ⟨U.toArray⟩] 50 (0, 0))) := b2; have HB1 : Hid (Below w.heap.size w w1) := b3; have p0 : w1.cell? ⟨w.heap.size + 1, 0, none⟩ = some (.int .i64 0) := Lib.cell_of_heap b2 0; have p1 : w1.cell? ⟨w.heap.size + 1, 1, none⟩ = some (.int .i64 0) := Lib.cell_of_heap b2 1; have p2 : w1.cell? ⟨w.heap.size + 1, 2, none⟩ = some (.string ⟨U.toArray⟩) := Lib.cell_of_heap b2 2; clear b1 b2 b3 hb1)
    | (go_at_call 105; refine (cK _).mono ?_; rintro e w2 ⟨rfl, hb2⟩; have HR2 : Hid (w2.heap[w.heap.size]? = some (.cells #[.int .i64 0, .int .i64 0, .string ⟨#[]⟩] 50 (0, 0))) := (hb2.block _ (heap_lt HR1.out)).trans HR1.out; have HP2 : Hid (w2.heap[w.heap.size + 1]? = some (.cells #[.int .i64 0, .int .i64 0, .string ⟨U.toArray⟩] 50 (0, 0))) := (hb2.block _ (heap_lt HP1.out)).trans HP1.out; have HB2 : Hid (Below w.heap.size w w2) := HB1.out.trans (hb2.mono HB1.out.size); have p0 : w2.cell? ⟨w.heap.size + 1, 0, none⟩ = some (.int .i64 0) := Lib.cell_of_heap HP2.out 0; have p1 : w2.cell? ⟨w.heap.size + 1, 1, none⟩ = some (.int .i64 0) := Lib.cell_of_heap HP2.out 1; have p2 : w2.cell? ⟨w.heap.size + 1, 2, none⟩ = some (.string ⟨U.toArray⟩) := Lib.cell_of_heap HP2.out 2; clear hb2)
    | (go_at_call 196; refine (cD _).mono ?_; rintro e w3 ⟨rfl, hb3⟩; have HR3 : Hid (w3.heap[w.heap.size]? = some (.cells #[.int .i64 0, .int .i64 0, .string ⟨#[]⟩] 50 (0, 0))) := (hb3.block _ (heap_lt HR2.out)).trans HR2.out; have HP3 : Hid (w3.heap[w.heap.size + 1]? = some (.cells #[.int .i64 0, .int .i64 0, .string ⟨U.toArray⟩] 50 (0, 0))) := (hb3.block _ (heap_lt HP2.out)).trans HP2.out; have HB3 : Hid (Below w.heap.size w w3) := HB2.out.trans (hb3.mono HB2.out.size); have r0 : w3.cell? ⟨w.heap.size, 0, none⟩ = some (.int .i64 0) := Lib.cell_of_heap HR3.out 0; have r1 : w3.cell? ⟨w.heap.size, 1, none⟩ = some (.int .i64 0) := Lib.cell_of_heap HR3.out 1; have r2 : w3.cell? ⟨w.heap.size, 2, none⟩ = some (.string ⟨#[]⟩) := Lib.cell_of_heap HR3.out 2; have rF : w3.frozen? ⟨w.heap.size, 0, none⟩ = false := frozen_of_heap HR3.out 0; have rF1 : w3.frozen? ⟨w.heap.size, 1, none⟩ = false := frozen_of_heap HR3.out 1; have rF2 : w3.frozen? ⟨w.heap.size, 2, none⟩ = false := frozen_of_heap HR3.out 2; have g0 : w3.cell? ⟨g, o, none⟩ = some (.int .i64 0) := (HB3.out.cell H3.out).trans C0.out; have g1 : w3.cell? ⟨g, o + 1, none⟩ = some (.int .i64 0) := (HB3.out.cell H3.out).trans C1.out; have g2 : w3.cell? ⟨g, o + 2, none⟩ = some (.string ⟨U.toArray⟩) := (HB3.out.cell H3.out).trans C2.out; have gF : w3.frozen? ⟨g, o, none⟩ = false := (HB3.out.frozen H3.out).trans (H4.out o); have gF1 : w3.frozen? ⟨g, o + 1, none⟩ = false := (HB3.out.frozen H3.out).trans (H4.out _); have gF2 : w3.frozen? ⟨g, o + 2, none⟩ = false := (HB3.out.frozen H3.out).trans (H4.out _); have p0 : w3.cell? ⟨w.heap.size + 1, 0, none⟩ = some (.int .i64 0) := Lib.cell_of_heap HP3.out 0; have p1 : w3.cell? ⟨w.heap.size + 1, 1, none⟩ = some (.int .i64 0) := Lib.cell_of_heap HP3.out 1; have p2 : w3.cell? ⟨w.heap.size + 1, 2, none⟩ = some (.string ⟨U.toArray⟩) := Lib.cell_of_heap HP3.out 2; clear hb3)
    | fail)
  obtain ⟨A, hA⟩ : ∃ A, w3.setCell ⟨g, o + 2, none⟩ (.string ((ByteArray.mk U.toArray).extract n U.length)) = A := ⟨_, rfl⟩
  have hA' := hA
  rw [hA']
  have hkeep : A.heap[w.heap.size]? = w3.heap[w.heap.size]? := by rw [← hA]; exact Below.heap_setCell _ _ _ _ (by show w.heap.size ≠ g; omega)
  have e0 : A.cell? ⟨w.heap.size, 0, none⟩ = some (.int .i64 0) := (World.cell?_of_block (w := w3) (a := ⟨w.heap.size, 0, none⟩) hkeep).trans r0
  have e1 : A.cell? ⟨w.heap.size, 1, none⟩ = some (.int .i64 0) := (World.cell?_of_block (w := w3) (a := ⟨w.heap.size, 1, none⟩) hkeep).trans r1
  have e2 : A.cell? ⟨w.heap.size, 2, none⟩ = some (.string ⟨#[]⟩) := (World.cell?_of_block (w := w3) (a := ⟨w.heap.size, 2, none⟩) hkeep).trans r2
  obtain ⟨s0, s1, s2, hs, hk⟩ := three_set e0 e1 e2 (.int .i64 0) (.int .i64 0) (.string ((ByteArray.mk U.toArray).extract 0 n))
  refine bodyPost_ret (v := .tuple #[.agg #[(.int .i64 0), (.int .i64 0), (.string ((ByteArray.mk U.toArray).extract 0 n))], .slice (some ⟨g, o, none⟩) (ps.length + 1) c]) (by simp [results, Tryz.results232, go_sem, s0, s1, s2]) rfl ?_
  have hfirst : winP A g (.slice (some ⟨g, o, none⟩) (ps.length + 1) c) (⟨0, 0, U.drop n⟩ :: ps) := by
    rw [← hA]
    exact winP_first H.out (by rw [World.size_setCell]; exact HB3.out.size) (fun j => by rw [World.frozen?_setCell]; exact HB3.out.frozen H3.out) (fun j hj => by rw [cell_set_off (by omega)]; exact HB3.out.cell H3.out)
      (by rw [cell_set_off (by omega)]; exact g0) (by rw [cell_set_off (by omega)]; exact g1) ((World.cell?_setCell_same _ _ _ g2).trans (by rw [cut_tail]))
  have hbut : ButO g w A := by rw [← hA]; exact (ButO.of HB3.out).set _ _
  generalize hZ : ((A.setCell ⟨w.heap.size, 0, none⟩ (.int .i64 0)).setCell ⟨w.heap.size, 1, none⟩ (.int .i64 0)).setCell ⟨w.heap.size, 2, none⟩ (.string ((ByteArray.mk U.toArray).extract 0 n)) = Z at *
  exact ⟨_, by rw [cut_head]; rfl, winP_kept hfirst (Nat.le_of_eq hs.symm) fun _ => hk g (by omega), hbut.trans' hs (fun k hk' => hk k (by omega)) (by rw [← hZ]; exact ⟨rfl, rfl, rfl⟩)⟩
end Go.Proofs.YtfedgjnhanlmeabGreatDoor

namespace Go.Proofs.YtfedgjnhanlmeabGreatDoor
set_option linter.unusedVariables false

theorem ticks_shift (d : Bool) : ∀ (n : Nat) (l : List (List UInt8 × Bool)) (g : GSt), ticks d n (l ++ g.1, g.2) = (l ++ (ticks d n g).1, (ticks d n g).2)
  | 0, l, g => rfl
  | n + 1, l, g => by
    rw [ticks, ticks]
    have e : tick d (l ++ g.1, g.2) = (l ++ (tick d g).1, (tick d g).2) := by simp [tick]
    rw [e]
    exact ticks_shift d n l (tick d g)
theorem spreadP_shift (l : List (List UInt8 × Bool)) (g : GSt) (p : Pt) : spreadP (l ++ g.1, g.2) p = (l ++ (spreadP g p).1, (spreadP g p).2) := by
  unfold spreadP
  rw [ticks_shift true p.drop.toNat l (g.1, g.2 ++ p.put), ticks_shift]
/-- The gaps of what is yet to come, with what was put ahead of it. -/
def gapsR : List UInt8 → List Pt → GSt
  | acc, [] => ([], acc)
  | acc, p :: ps => ((spreadP ([], acc) p).1 ++ (gapsR (spreadP ([], acc) p).2 ps).1, (gapsR (spreadP ([], acc) p).2 ps).2)
theorem spreads_gaps (ps : List Pt) : ∀ (l : List (List UInt8 × Bool)) (acc : List UInt8), ps.foldl spreadP (l, acc) = (l ++ (gapsR acc ps).1, (gapsR acc ps).2) := by
  induction ps with
  | nil => intro l acc; simp [gapsR]
  | cons p ps ih =>
    intro l acc
    have e := spreadP_shift l ([], acc) p
    rw [List.append_nil] at e
    rw [List.foldl_cons, e, ih]
    simp [gapsR]
theorem spreads_eq (ps : List Pt) : spreads ps = gapsR [] ps := by
  have := spreads_gaps ps [] []
  simpa [spreads] using this
theorem gaps_put (acc u : List UInt8) (ps : List Pt) : gapsR acc (⟨0, 0, u⟩ :: ps) = gapsR (acc ++ u) ps := by
  simp [gapsR, spreadP, ticks]
theorem ticks_one (d : Bool) : ∀ (n : Nat) (acc : List UInt8), ticks d (n + 1) ([], acc) = ((acc, d) :: List.replicate n ([], d), [])
  | 0, acc => by simp [ticks, tick]
  | n + 1, acc => by
    rw [ticks_more, ticks_one d n acc]
    simp [tick, List.replicate_succ']
theorem gaps_keep (acc : List UInt8) (n : Nat) (ps : List Pt) : gapsR acc (⟨(n : Int) + 1, 0, []⟩ :: ps) = ((acc, false) :: List.replicate n ([], false) ++ (gapsR [] ps).1, (gapsR [] ps).2) := by
  have h1 : ((n : Int) + 1).toNat = n + 1 := by omega
  have h2 := ticks_one false n acc
  rw [ticks] at h2
  simp only [gapsR, spreadP, h1, Int.toNat_zero, ticks, List.append_nil, h2]
theorem gaps_drop (acc : List UInt8) (n : Nat) (ps : List Pt) : gapsR acc (⟨0, (n : Int) + 1, []⟩ :: ps) = ((acc, true) :: List.replicate n ([], true) ++ (gapsR [] ps).1, (gapsR [] ps).2) := by
  have h1 : ((n : Int) + 1).toNat = n + 1 := by omega
  have h2 := ticks_one true n acc
  rw [ticks] at h2
  simp only [gapsR, spreadP, h1, Int.toNat_zero, ticks, List.append_nil, h2]

/-- What the document's Transform adds, gap by gap: b says that the other's put is counted first. -/
def docT (first : Bool) : List (List UInt8 × Bool) → List UInt8 → List (List UInt8 × Bool) → List UInt8 → List Pt
  | (u, d) :: x, xl, (v, e) :: y, yl => (if first then [⟨0, 0, u⟩, ⟨v.length, 0, []⟩] else [⟨v.length, 0, []⟩, ⟨0, 0, u⟩]) ++ (if e then [] else [unitP d]) ++ docT first x xl y yl
  | _, xl, _, yl => if first then [⟨0, 0, xl⟩, ⟨yl.length, 0, []⟩] else [⟨yl.length, 0, []⟩, ⟨0, 0, xl⟩]
end Go.Proofs.YtfedgjnhanlmeabGreatDoor

namespace Go.Proofs.YtfedgjnhanlmeabGreatDoor
set_option linter.unusedVariables false

def unitK (d : Bool) (k : Nat) : Pt := if d then ⟨0, k, []⟩ else ⟨k, 0, []⟩
theorem one_cases {p : Pt} (h : oneP p) : (∃ u, u ≠ [] ∧ p = ⟨0, 0, u⟩) ∨ ∃ d n, p = unitK d (n + 1) := by
  obtain ⟨K, D, U⟩ := p
  rcases h with ⟨h1, h2, h3⟩ | ⟨h1, h2, h3⟩ | ⟨h1, h2, h3⟩
  · obtain rfl : D = 0 := h2
    obtain rfl : U = [] := h3
    replace h1 : 0 < K := h1
    refine .inr ⟨false, K.toNat - 1, ?_⟩
    have : K = ((K.toNat - 1 + 1 : Nat) : Int) := by omega
    show (⟨K, 0, []⟩ : Pt) = ⟨((K.toNat - 1 + 1 : Nat) : Int), 0, []⟩
    rw [← this]
  · obtain rfl : K = 0 := h1
    obtain rfl : U = [] := h3
    replace h2 : 0 < D := h2
    refine .inr ⟨true, D.toNat - 1, ?_⟩
    have : D = ((D.toNat - 1 + 1 : Nat) : Int) := by omega
    show (⟨0, D, []⟩ : Pt) = ⟨0, ((D.toNat - 1 + 1 : Nat) : Int), []⟩
    rw [← this]
  · obtain rfl : K = 0 := h1
    obtain rfl : D = 0 := h2
    exact .inl ⟨U, h3, rfl⟩
theorem gaps_unit (acc : List UInt8) (d : Bool) (n : Nat) (ps : List Pt) : gapsR acc (unitK d (n + 1) :: ps) = ((acc, d) :: List.replicate n ([], d) ++ (gapsR [] ps).1, (gapsR [] ps).2) := by
  cases d with
  | true => exact gaps_drop acc n ps
  | false => exact gaps_keep acc n ps
def accG (acc : List UInt8) : GSt → GSt
  | ([], l) => ([], acc ++ l)
  | ((u, d) :: x, l) => ((acc ++ u, d) :: x, l)
theorem accG_more (a b : List UInt8) (g : GSt) : accG a (accG b g) = accG (a ++ b) g := by
  obtain ⟨x, l⟩ := g
  cases x <;> simp [accG]
theorem gaps_acc (ps : List Pt) (h : ∀ p ∈ ps, oneP p) : ∀ acc, gapsR acc ps = accG acc (gapsR [] ps) := by
  induction ps with
  | nil => intro acc; simp [gapsR, accG]
  | cons p ps ih =>
    intro acc
    have ih := ih fun q hq => h q (by simp [hq])
    rcases one_cases (h p (by simp)) with ⟨u, hu, rfl⟩ | ⟨d, n, rfl⟩
    · rw [gaps_put, gaps_put, ih, ih ([] ++ u), accG_more, List.nil_append]
    · rw [gaps_unit, gaps_unit]; simp [accG]

/-- Gap by gap. -/
def docG (eA eB : List UInt8 → NSt → NSt) (eU : Bool → Bool → NSt → NSt) : List (List UInt8 × Bool) → List UInt8 → List (List UInt8 × Bool) → List UInt8 → NSt → NSt
  | (u, d) :: x, xl, (v, e) :: y, yl, s => docG eA eB eU x xl y yl (eU d e (eB v (eA u s)))
  | [], xl, _, yl, s => eB yl (eA xl s)
  | _, xl, [], yl, s => eB yl (eA xl s)
def docS (eA eB : List UInt8 → NSt → NSt) (eU : Bool → Bool → NSt → NSt) (a b : GSt) (s : NSt) : NSt := docG eA eB eU a.1 a.2 b.1 b.2 s
def stepsU (eU : NSt → NSt) : Nat → NSt → NSt
  | 0, s => s
  | n + 1, s => stepsU eU n (eU s)

theorem docS_accA (eA eB : List UInt8 → NSt → NSt) (eU : Bool → Bool → NSt → NSt) (hA : ∀ u v s, eA (u ++ v) s = eA v (eA u s)) (acc : List UInt8) (a b : GSt) (s : NSt) (hl : a.1.length = b.1.length) : docS eA eB eU (accG acc a) b s = docS eA eB eU a b (eA acc s) := by
  obtain ⟨x, xl⟩ := a
  obtain ⟨y, yl⟩ := b
  cases x with
  | nil => cases y <;> simp [docS, accG, docG, hA]
  | cons c x =>
    cases y with
    | nil => simp at hl
    | cons e y => simp [docS, accG, docG, hA]
/-- Where nothing is put ahead in a. -/
def quietG (a : GSt) : Prop := match a with
  | ([], l) => l = []
  | ((u, _) :: _, _) => u = []
theorem docS_accB (eA eB : List UInt8 → NSt → NSt) (eU : Bool → Bool → NSt → NSt) (hA0 : ∀ s, eA [] s = s) (hB : ∀ u v s, eB (u ++ v) s = eB v (eB u s)) (acc : List UInt8) (a b : GSt) (s : NSt) (hl : a.1.length = b.1.length) (hq : quietG a) : docS eA eB eU a (accG acc b) s = docS eA eB eU a b (eB acc s) := by
  obtain ⟨x, xl⟩ := a
  obtain ⟨y, yl⟩ := b
  cases x with
  | nil =>
    obtain rfl : xl = [] := hq
    cases y with
    | nil => simp [docS, accG, docG, hA0, hB]
    | cons e y => simp at hl
  | cons c x =>
    cases y with
    | nil => simp at hl
    | cons e y =>
      obtain ⟨u, d⟩ := c
      obtain rfl : u = [] := hq
      simp [docS, accG, docG, hA0, hB]
theorem docS_units (eA eB : List UInt8 → NSt → NSt) (eU : Bool → Bool → NSt → NSt) (hA0 : ∀ s, eA [] s = s) (hB0 : ∀ s, eB [] s = s) (d e : Bool) : ∀ (k : Nat) (a b : GSt) (s : NSt), docS eA eB eU (List.replicate k ([], d) ++ a.1, a.2) (List.replicate k ([], e) ++ b.1, b.2) s = docS eA eB eU a b (stepsU (eU d e) k s)
  | 0, a, b, s => rfl
  | k + 1, a, b, s => by
    have := docS_units eA eB eU hA0 hB0 d e k a b (eU d e s)
    simpa [docS, docG, List.replicate_succ, hA0, hB0, stepsU] using this
/-- So many units off a first part. -/
theorem cut_unit (d : Bool) (n k : Nat) (hk : k ≤ n) : (cutP (unitK d (n + 1)) ((k : Int) + 1)).1 = unitK d (k + 1) ∧ ∀ ps, gapsR [] (unitK d (n + 1) :: ps) = (List.replicate (k + 1) ([], d) ++ (gapsR [] ((cutP (unitK d (n + 1)) ((k : Int) + 1)).2 ++ ps)).1, (gapsR [] ((cutP (unitK d (n + 1)) ((k : Int) + 1)).2 ++ ps)).2) := by
  have hl : lengthP (unitK d (n + 1)) = (n : Int) + 1 := by cases d <;> simp [lengthP, unitK]
  by_cases e : n = k
  · subst e
    have hc : cutP (unitK d (n + 1)) ((n : Int) + 1) = (unitK d (n + 1), []) := by unfold cutP; rw [if_pos hl]
    rw [hc]
    refine ⟨rfl, fun ps => ?_⟩
    rw [gaps_unit]
    simp [List.replicate_succ]
  · obtain ⟨m, rfl⟩ : ∃ m, n = k + (m + 1) := ⟨n - k - 1, by omega⟩
    have hc : cutP (unitK d (k + (m + 1) + 1)) ((k : Int) + 1) = (unitK d (k + 1), [unitK d (m + 1)]) := by
      unfold cutP
      rw [if_neg (by rw [hl]; omega)]
      cases d with
      | true =>
        have h1 : ¬ 0 < (unitK true (k + (m + 1) + 1)).keep := by simp [unitK]
        have h2 : 0 < (unitK true (k + (m + 1) + 1)).drop := by simp [unitK]; omega
        rw [if_neg h1, if_pos h2]
        simp [unitK]; omega
      | false =>
        have h1 : 0 < (unitK false (k + (m + 1) + 1)).keep := by simp [unitK]; omega
        rw [if_pos h1]
        simp [unitK]; omega
    rw [hc]
    refine ⟨rfl, fun ps => ?_⟩
    rw [List.singleton_append, gaps_unit, gaps_unit]
    have e2 : List.replicate (k + (m + 1)) (([] : List UInt8), d) = List.replicate k ([], d) ++ ([], d) :: List.replicate m ([], d) := by
      rw [← List.replicate_succ, List.replicate_append_replicate]
    rw [e2]
    simp [List.replicate_succ]

def runS (t : Pt × Pt → List Pt) (l : List (Pt × Pt)) (s : NSt) : NSt := l.foldl (fun s x => (t x).foldl addP s) s
def lensU (ps : List Pt) : Nat := (gapsR [] ps).1.length
theorem quiet_unit (d : Bool) (n : Nat) (ps : List Pt) : quietG (gapsR [] (unitK d (n + 1) :: ps)) := by
  rw [gaps_unit]; rfl
theorem put_isPut {u : List UInt8} (h : u ≠ []) : isPutP ⟨0, 0, u⟩ = true := by simp [isPutP, h]
theorem unit_isPut (d : Bool) (n : Nat) : isPutP (unitK d n) = false := by cases d <;> simp [isPutP, unitK]
def weight (ps : List Pt) : Nat := (ps.map fun p => (lengthP p).toNat).sum
theorem weight_cons (p : Pt) (ps : List Pt) : weight (p :: ps) = (lengthP p).toNat + weight ps := by simp [weight]
theorem weight_append (a b : List Pt) : weight (a ++ b) = weight a + weight b := by simp [weight]
theorem len_unit (d : Bool) (n : Nat) : lengthP (unitK d n) = (n : Int) := by cases d <;> simp [lengthP, unitK]
theorem cut_weight (d : Bool) (n k : Nat) (hk : k ≤ n) : weight (cutP (unitK d (n + 1)) ((k : Int) + 1)).2 = n - k := by
  have hl : lengthP (unitK d (n + 1)) = (n : Int) + 1 := by rw [len_unit]; simp
  unfold cutP
  by_cases e : n = k
  · subst e
    rw [if_pos hl]; simp [weight]
  · rw [if_neg (by rw [hl]; omega)]
    cases d with
    | true =>
      have h1 : ¬ 0 < (unitK true (n + 1)).keep := by simp [unitK]
      have h2 : 0 < (unitK true (n + 1)).drop := by simp [unitK]
      rw [if_neg h1, if_pos h2]
      simp [weight, lengthP, unitK]; omega
    | false =>
      have h1 : 0 < (unitK false (n + 1)).keep := by simp [unitK]
      rw [if_pos h1]
      simp [weight, lengthP, unitK]; omega

/-- Pair by pair, or gap by gap. -/
theorem side_gaps (t : Pt × Pt → List Pt) (eA eB : List UInt8 → NSt → NSt) (eU : Bool → Bool → NSt → NSt) (hA0 : ∀ s, eA [] s = s) (hB0 : ∀ s, eB [] s = s)
    (hA : ∀ u v s, eA (u ++ v) s = eA v (eA u s)) (hB : ∀ u v s, eB (u ++ v) s = eB v (eB u s))
    (tA : ∀ u s, u ≠ [] → (t (⟨0, 0, u⟩, noP)).foldl addP s = eA u s) (tB : ∀ u s, u ≠ [] → (t (noP, ⟨0, 0, u⟩)).foldl addP s = eB u s)
    (tU : ∀ d e k s, (t (unitK d (k + 1), unitK e (k + 1))).foldl addP s = stepsU (eU d e) (k + 1) s) :
    ∀ (f : Nat) (a b : List Pt) (s : NSt), (∀ p ∈ a, oneP p) → (∀ p ∈ b, oneP p) → lensU a = lensU b → weight a + weight b ≤ f →
      runS t (sideP isPutP isPutP f a b) s = docS eA eB eU (gapsR [] a) (gapsR [] b) s := by
  intro f
  induction f with
  | zero =>
    intro a b s ha hb hl hw
    have h0 : ∀ (l : List Pt), (∀ p ∈ l, oneP p) → weight l = 0 → l = [] := by
      intro l hl hw
      cases l with
      | nil => rfl
      | cons p l =>
        have := length_pos (hl p (by simp))
        rw [weight_cons] at hw
        omega
    obtain rfl := h0 a ha (by omega)
    obtain rfl := h0 b hb (by omega)
    simp [sideP, runS, docS, docG, gapsR, hA0, hB0]
  | succ f ih =>
    intro a b s ha hb hl hw
    cases a with
    | nil =>
      cases b with
      | nil => simp [sideP, runS, docS, docG, gapsR, hA0, hB0]
      | cons q b =>
        rcases one_cases (hb q (by simp)) with ⟨v, hv, rfl⟩ | ⟨e, m, rfl⟩
        · have hlq := length_pos (hb _ (List.mem_cons_self ..))
          rw [weight_cons] at hw
          have hb' : ∀ p ∈ b, oneP p := fun p hp => hb p (by simp [hp])
          unfold lensU at hl
          rw [gaps_put, gaps_acc b hb'] at hl ⊢
          have hl' : (gapsR [] ([] : List Pt)).1.length = (gapsR [] b).1.length := by
            rw [hl]; cases h : gapsR [] b with | mk x l => cases x <;> simp [accG]
          rw [docS_accB eA eB eU hA0 hB _ _ _ _ hl' rfl]
          rw [← ih [] b (eB ([] ++ v) s) (by simp) hb' hl' (by omega)]
          simp only [sideP, put_isPut hv, if_true, runS, List.foldl_cons, tB v s hv, List.nil_append]
        · unfold lensU at hl
          rw [gaps_unit] at hl
          simp [gapsR] at hl
    | cons p a =>
      have hlp := length_pos (ha p (by simp))
      have ha' : ∀ p ∈ a, oneP p := fun p hp => ha p (by simp [hp])
      rcases one_cases (ha p (by simp)) with ⟨u, hu, rfl⟩ | ⟨d, n, rfl⟩
      · rw [weight_cons] at hw
        unfold lensU at hl
        rw [gaps_put, gaps_acc a ha'] at hl ⊢
        have hl' : (gapsR [] a).1.length = (gapsR [] b).1.length := by
          rw [← hl]; cases h : gapsR [] a with | mk x l => cases x <;> simp [accG]
        rw [docS_accA eA eB eU hA _ _ _ _ hl']
        rw [← ih a b (eA ([] ++ u) s) ha' hb hl' (by omega)]
        simp only [sideP, put_isPut hu, if_true, runS, List.foldl_cons, tA u s hu, List.nil_append]
      · cases b with
        | nil =>
          unfold lensU at hl
          rw [gaps_unit] at hl
          simp [gapsR] at hl
        | cons q b =>
          have hb' : ∀ p ∈ b, oneP p := fun p hp => hb p (by simp [hp])
          have hlq := length_pos (hb q (by simp))
          rcases one_cases (hb q (by simp)) with ⟨v, hv, rfl⟩ | ⟨e, m, rfl⟩
          · rw [weight_cons _ b] at hw
            unfold lensU at hl
            rw [gaps_put, gaps_acc b hb'] at hl ⊢
            have hl' : (gapsR [] (unitK d (n + 1) :: a)).1.length = (gapsR [] b).1.length := by
              rw [hl]; cases h : gapsR [] b with | mk x l => cases x <;> simp [accG]
            rw [docS_accB eA eB eU hA0 hB _ _ _ _ hl' (quiet_unit d n a)]
            rw [← ih (unitK d (n + 1) :: a) b (eB ([] ++ v) s) ha hb' hl' (by omega)]
            simp only [sideP, unit_isPut, put_isPut hv, if_true, Bool.false_eq_true, if_false, runS, List.foldl_cons, tB v s hv, List.nil_append]
          · obtain ⟨k, hk⟩ : ∃ k, k = min n m := ⟨_, rfl⟩
            have l1 : lengthP (unitK d (n + 1)) = (n : Int) + 1 := by cases d <;> simp [lengthP, unitK]
            have l2 : lengthP (unitK e (m + 1)) = (m : Int) + 1 := by cases e <;> simp [lengthP, unitK]
            have hmin : min (lengthP (unitK d (n + 1))) (lengthP (unitK e (m + 1))) = (k : Int) + 1 := by rw [l1, l2]; omega
            obtain ⟨c1, c2⟩ := cut_unit d n k (by omega)
            obtain ⟨c3, c4⟩ := cut_unit e m k (by omega)
            obtain ⟨_, _, o1, _⟩ := cut_one (ha _ (List.mem_cons_self ..)) (n := (k : Int) + 1) (by omega) (by rw [l1]; omega)
            obtain ⟨_, _, o2, _⟩ := cut_one (hb _ (List.mem_cons_self ..)) (n := (k : Int) + 1) (by omega) (by rw [l2]; omega)
            have wA := cut_weight d n k (by omega)
            have wB := cut_weight e m k (by omega)
            rw [weight_cons, weight_cons, len_unit, len_unit] at hw
            have gA := c2 a
            have gB := c4 b
            have ho1 : ∀ p ∈ (cutP (unitK d (n + 1)) ((k : Int) + 1)).2 ++ a, oneP p := fun p hp => by
              rcases List.mem_append.1 hp with h | h
              · exact (o1 p h).1
              · exact ha' p h
            have ho2 : ∀ p ∈ (cutP (unitK e (m + 1)) ((k : Int) + 1)).2 ++ b, oneP p := fun p hp => by
              rcases List.mem_append.1 hp with h | h
              · exact (o2 p h).1
              · exact hb' p h
            have hl' : lensU ((cutP (unitK d (n + 1)) ((k : Int) + 1)).2 ++ a) = lensU ((cutP (unitK e (m + 1)) ((k : Int) + 1)).2 ++ b) := by
              unfold lensU at hl ⊢
              rw [gA, gB] at hl
              simp only [List.length_append, List.length_replicate] at hl
              omega
            rw [gA, gB, docS_units eA eB eU hA0 hB0 d e (k + 1), ← ih _ _ _ ho1 ho2 hl' (by rw [weight_append, weight_append, wA, wB]; omega)]
            simp only [sideP, unit_isPut, Bool.false_eq_true, if_false, runS, List.foldl_cons, hmin, c1, c3, tU]
end Go.Proofs.YtfedgjnhanlmeabGreatDoor

namespace Go.Proofs.YtfedgjnhanlmeabGreatDoor
open Go.RowKit
set_option linter.unusedVariables false
attribute [local go_sem] Oper.semAt_some

theorem cut_any (g : Nat) (v : Value) (p : Pt) (ps : List Pt) (n : Nat) (w : World) (h : winP w g v (p :: ps)) (hp : oneP p) (h0 : 0 < n) (hn : (n : Int) ≤ lengthP p) (hb : lengthP p < 1000000000) :
    Calls Tryz.prog 232 #[v, .int .i64 n] w fun e w' => ∃ v', e = .returned (.tuple #[partV (cutP p n).1, v']) ∧ winP w' g v' ((cutP p n).2 ++ ps) ∧ ButO g w w' := by
  by_cases e : lengthP p = n
  · have hc : cutP p n = (p, []) := by unfold cutP; rw [if_pos e]
    rw [hc]
    exact cut_all g v p ps n w h (by rcases hp with ⟨h1, h2, h3⟩ | ⟨h1, h2, h3⟩ | ⟨h1, h2, h3⟩ <;> exact ⟨by omega, by omega⟩) e (by omega)
  · obtain ⟨K, D, U⟩ := p
    have hl : lengthP ⟨K, D, U⟩ = K + D + U.length := rfl
    rw [hl] at e hn hb
    have he : ¬ lengthP ⟨K, D, U⟩ = n := e
    rcases hp with ⟨h1, h2, h3⟩ | ⟨h1, h2, h3⟩ | ⟨h1, h2, h3⟩
    · replace h1 : 0 < K := h1
      obtain rfl : D = 0 := h2
      obtain rfl : U = [] := h3
      simp only [List.length_nil, Int.add_zero, Int.natCast_zero] at e hn hb
      have hc : cutP ⟨K, 0, []⟩ n = (⟨n, 0, []⟩, [⟨K - n, 0, []⟩]) := by unfold cutP; rw [if_neg he, if_pos h1]
      rw [hc]
      exact cut_keep g v K ps n w h h0 (by omega) (by omega)
    · obtain rfl : K = 0 := h1
      replace h2 : 0 < D := h2
      obtain rfl : U = [] := h3
      simp only [List.length_nil, Int.add_zero, Int.zero_add, Int.natCast_zero] at e hn hb
      have hc : cutP ⟨0, D, []⟩ n = (⟨0, n, []⟩, [⟨0, D - n, []⟩]) := by unfold cutP; rw [if_neg he, if_neg (by show ¬ (0 : Int) < 0; omega), if_pos h2]
      rw [hc]
      exact cut_drop g v D ps n w h h0 (by omega) (by omega)
    · obtain rfl : K = 0 := h1
      obtain rfl : D = 0 := h2
      simp only [Int.zero_add] at e hn hb
      have hc : cutP ⟨0, 0, U⟩ n = (⟨0, 0, U.take n⟩, [⟨0, 0, U.drop n⟩]) := by unfold cutP; rw [if_neg he, if_neg (by show ¬ (0 : Int) < 0; omega), if_neg (by show ¬ (0 : Int) < 0; omega)]; rfl
      rw [hc]
      exact cut_put g v U ps n w h h0 (by omega) (by omega)

/-- What a gatherer's add is. -/
def addV (a : Nat) : Value := .func (.func 229) #[] #[.pointer (some ⟨a + 1, 0, none⟩), .pointer (some ⟨a + 2, 0, none⟩), .pointer (some ⟨a + 3, 0, none⟩), .pointer (some ⟨a, 0, none⟩)]
/-- One part that is taken, or none. -/
def tookP (M a : Nat) (s : NSt) (l : List Pt) (w : World) (e : Ending) (w' : World) : Prop := (∃ v, e = .returned v) ∧ gath M w' a (l.foldl addP s) ∧ BelowG M a w w'
theorem took_step {M a : Nat} {s : NSt} {p : Pt} {w wx w' : World} {v : Value} (hb : Below w.heap.size w wx) (ha : a ≤ w.heap.size) (hg : gath M w' a (addP s p)) (hb' : BelowG M a wx w') : tookP M a s [p] w (.returned v) w' :=
  ⟨⟨v, rfl⟩, hg, (BelowG.of hb ha).trans hb'⟩

set_option maxRecDepth 100000 in
set_option maxHeartbeats 2000000 in
theorem turn_len (M a β : Nat) (s : NSt) (K D K2 D2 : Int) (U U2 : List UInt8) (w : World) (HG : Hid (gath M w a s)) (hlt : a + 3 < w.heap.size) (HX : Hid (w.heap[β]? = some (.cells #[addV a] 322 (0, 0)))) (c1 : Hid (∀ wx, Calls Tryz.prog 210 #[.agg #[.int .i64 K2, .int .i64 D2, .string ⟨U2.toArray⟩]] wx fun e w' => e = .returned (.bool true) ∧ Below wx.heap.size wx w')) (cA : Hid (∀ wx, Below w.heap.size w wx → Calls Tryz.prog 229 #[.agg #[.int .i64 (U2.length : Int), .int .i64 0, .string ⟨#[]⟩], .pointer (some ⟨a + 1, 0, none⟩), .pointer (some ⟨a + 2, 0, none⟩), .pointer (some ⟨a + 3, 0, none⟩), .pointer (some ⟨a, 0, none⟩)] wx fun e w' => (∃ v, e = .returned v) ∧ gath M w' a (addP s ⟨(U2.length : Int), 0, []⟩) ∧ BelowG M a wx w')) :
    Calls Tryz.prog 213 #[.agg #[.int .i64 K, .int .i64 D, .string ⟨U.toArray⟩], .agg #[.int .i64 K2, .int .i64 D2, .string ⟨U2.toArray⟩], .pointer (some ⟨β, 0, none⟩)] w (tookP M a s [⟨(U2.length : Int), 0, []⟩] w) := by
  have hz : (ByteArray.mk U2.toArray).size = U2.length := by simp [ByteArray.size]
  go_enter Tryz.func213, Tryz.ntmps213
  go_wp2_with (first
    | (have _ := HB1; go_at_call 229; refine (cA.out _ HB1.out).mono ?_; rintro e w9 ⟨⟨v9, rfl⟩, hg9, hb9⟩)
    | (go_at_call 210; refine (c1.out _).mono ?_; rintro e w1 ⟨rfl, hb1⟩; obtain ⟨b1, b2, b3⟩ := two_boxes hb1; have HR1 : Hid (w1.heap[w.heap.size]? = some (.cells #[.int .i64 K, .int .i64 D, .string ⟨U.toArray⟩] 50 (0, 0))) := b1; have HP1 : Hid (w1.heap[w.heap.size + 1]? = some (.cells #[.int .i64 K2, .int .i64 D2, .string ⟨U2.toArray⟩] 50 (0, 0))) := b2; have HB1 : Hid (Below w.heap.size w w1) := b3; have o0 : w1.cell? ⟨w.heap.size, 0, none⟩ = some (.int .i64 K) := Lib.cell_of_heap HR1.out 0; have o1 : w1.cell? ⟨w.heap.size, 1, none⟩ = some (.int .i64 D) := Lib.cell_of_heap HR1.out 1; have o2 : w1.cell? ⟨w.heap.size, 2, none⟩ = some (.string ⟨U.toArray⟩) := Lib.cell_of_heap HR1.out 2; have p0 : w1.cell? ⟨w.heap.size + 1, 0, none⟩ = some (.int .i64 K2) := Lib.cell_of_heap HP1.out 0; have p1 : w1.cell? ⟨w.heap.size + 1, 1, none⟩ = some (.int .i64 D2) := Lib.cell_of_heap HP1.out 1; have p2 : w1.cell? ⟨w.heap.size + 1, 2, none⟩ = some (.string ⟨U2.toArray⟩) := Lib.cell_of_heap HP1.out 2; have yf : w1.cell? ⟨β, 0, none⟩ = some (addV a) := Lib.cell_of_heap ((HB1.out.block β (heap_lt HX.out)).trans HX.out) 0; unfold addV at yf; clear b1 b2 b3 hb1)
    | fail)
  go_end0
  exact took_step HB1.out (by omega) hg9 hb9
set_option maxRecDepth 100000 in
set_option maxHeartbeats 2000000 in
theorem turn_put (M a β : Nat) (s : NSt) (K D K2 D2 : Int) (U U2 : List UInt8) (w : World) (HG : Hid (gath M w a s)) (hlt : a + 3 < w.heap.size) (HX : Hid (w.heap[β]? = some (.cells #[addV a] 322 (0, 0)))) (c1 : Hid (∀ wx, Calls Tryz.prog 210 #[.agg #[.int .i64 K2, .int .i64 D2, .string ⟨U2.toArray⟩]] wx fun e w' => e = .returned (.bool false) ∧ Below wx.heap.size wx w')) (c2 : Hid (∀ wx, Calls Tryz.prog 210 #[.agg #[.int .i64 K, .int .i64 D, .string ⟨U.toArray⟩]] wx fun e w' => e = .returned (.bool true) ∧ Below wx.heap.size wx w')) (cA : Hid (∀ wx, Below w.heap.size w wx → Calls Tryz.prog 229 #[.agg #[.int .i64 K, .int .i64 D, .string ⟨U.toArray⟩], .pointer (some ⟨a + 1, 0, none⟩), .pointer (some ⟨a + 2, 0, none⟩), .pointer (some ⟨a + 3, 0, none⟩), .pointer (some ⟨a, 0, none⟩)] wx fun e w' => (∃ v, e = .returned v) ∧ gath M w' a (addP s ⟨K, D, U⟩) ∧ BelowG M a wx w')) :
    Calls Tryz.prog 213 #[.agg #[.int .i64 K, .int .i64 D, .string ⟨U.toArray⟩], .agg #[.int .i64 K2, .int .i64 D2, .string ⟨U2.toArray⟩], .pointer (some ⟨β, 0, none⟩)] w (tookP M a s [⟨K, D, U⟩] w) := by
  have hz : (ByteArray.mk U2.toArray).size = U2.length := by simp [ByteArray.size]
  go_enter Tryz.func213, Tryz.ntmps213
  go_wp2_with (first
    | (have _ := HB2; go_at_call 229; refine (cA.out _ HB2.out).mono ?_; rintro e w9 ⟨⟨v9, rfl⟩, hg9, hb9⟩)
    | (have _ := HB1; go_at_call 210; refine (c2.out _).mono ?_; rintro e w2 ⟨rfl, hb2⟩; have HR2 : Hid (w2.heap[w.heap.size]? = some (.cells #[.int .i64 K, .int .i64 D, .string ⟨U.toArray⟩] 50 (0, 0))) := (hb2.block _ (heap_lt HR1.out)).trans HR1.out; have HP2 : Hid (w2.heap[w.heap.size + 1]? = some (.cells #[.int .i64 K2, .int .i64 D2, .string ⟨U2.toArray⟩] 50 (0, 0))) := (hb2.block _ (heap_lt HP1.out)).trans HP1.out; have HB2 : Hid (Below w.heap.size w w2) := HB1.out.trans (hb2.mono HB1.out.size); have o0 : w2.cell? ⟨w.heap.size, 0, none⟩ = some (.int .i64 K) := Lib.cell_of_heap HR2.out 0; have o1 : w2.cell? ⟨w.heap.size, 1, none⟩ = some (.int .i64 D) := Lib.cell_of_heap HR2.out 1; have o2 : w2.cell? ⟨w.heap.size, 2, none⟩ = some (.string ⟨U.toArray⟩) := Lib.cell_of_heap HR2.out 2; have p0 : w2.cell? ⟨w.heap.size + 1, 0, none⟩ = some (.int .i64 K2) := Lib.cell_of_heap HP2.out 0; have p1 : w2.cell? ⟨w.heap.size + 1, 1, none⟩ = some (.int .i64 D2) := Lib.cell_of_heap HP2.out 1; have p2 : w2.cell? ⟨w.heap.size + 1, 2, none⟩ = some (.string ⟨U2.toArray⟩) := Lib.cell_of_heap HP2.out 2; have yf : w2.cell? ⟨β, 0, none⟩ = some (addV a) := Lib.cell_of_heap ((HB2.out.block β (heap_lt HX.out)).trans HX.out) 0; unfold addV at yf; clear hb2)
    | (go_at_call 210; refine (c1.out _).mono ?_; rintro e w1 ⟨rfl, hb1⟩; obtain ⟨b1, b2, b3⟩ := two_boxes hb1; have HR1 : Hid (w1.heap[w.heap.size]? = some (.cells #[.int .i64 K, .int .i64 D, .string ⟨U.toArray⟩] 50 (0, 0))) := b1; have HP1 : Hid (w1.heap[w.heap.size + 1]? = some (.cells #[.int .i64 K2, .int .i64 D2, .string ⟨U2.toArray⟩] 50 (0, 0))) := b2; have HB1 : Hid (Below w.heap.size w w1) := b3; have o0 : w1.cell? ⟨w.heap.size, 0, none⟩ = some (.int .i64 K) := Lib.cell_of_heap HR1.out 0; have o1 : w1.cell? ⟨w.heap.size, 1, none⟩ = some (.int .i64 D) := Lib.cell_of_heap HR1.out 1; have o2 : w1.cell? ⟨w.heap.size, 2, none⟩ = some (.string ⟨U.toArray⟩) := Lib.cell_of_heap HR1.out 2; have p0 : w1.cell? ⟨w.heap.size + 1, 0, none⟩ = some (.int .i64 K2) := Lib.cell_of_heap HP1.out 0; have p1 : w1.cell? ⟨w.heap.size + 1, 1, none⟩ = some (.int .i64 D2) := Lib.cell_of_heap HP1.out 1; have p2 : w1.cell? ⟨w.heap.size + 1, 2, none⟩ = some (.string ⟨U2.toArray⟩) := Lib.cell_of_heap HP1.out 2; clear b1 b2 b3 hb1)
    | fail)
  go_end0
  exact took_step HB2.out (by omega) hg9 hb9
set_option maxRecDepth 100000 in
set_option maxHeartbeats 2000000 in
theorem turn_unit1 (M a β : Nat) (s : NSt) (K D K2 D2 : Int) (U U2 : List UInt8) (w : World) (HG : Hid (gath M w a s)) (hlt : a + 3 < w.heap.size) (HX : Hid (w.heap[β]? = some (.cells #[addV a] 322 (0, 0)))) (c1 : Hid (∀ wx, Calls Tryz.prog 210 #[.agg #[.int .i64 K2, .int .i64 D2, .string ⟨U2.toArray⟩]] wx fun e w' => e = .returned (.bool false) ∧ Below wx.heap.size wx w')) (c2 : Hid (∀ wx, Calls Tryz.prog 210 #[.agg #[.int .i64 K, .int .i64 D, .string ⟨U.toArray⟩]] wx fun e w' => e = .returned (.bool false) ∧ Below wx.heap.size wx w')) (c3 : Hid (∀ wx, Calls Tryz.prog 105 #[.agg #[.int .i64 K2, .int .i64 D2, .string ⟨U2.toArray⟩]] wx fun e w' => e = .returned (.bool true) ∧ Below wx.heap.size wx w')) (cA : Hid (∀ wx, Below w.heap.size w wx → Calls Tryz.prog 229 #[.agg #[.int .i64 K, .int .i64 D, .string ⟨U.toArray⟩], .pointer (some ⟨a + 1, 0, none⟩), .pointer (some ⟨a + 2, 0, none⟩), .pointer (some ⟨a + 3, 0, none⟩), .pointer (some ⟨a, 0, none⟩)] wx fun e w' => (∃ v, e = .returned v) ∧ gath M w' a (addP s ⟨K, D, U⟩) ∧ BelowG M a wx w')) :
    Calls Tryz.prog 213 #[.agg #[.int .i64 K, .int .i64 D, .string ⟨U.toArray⟩], .agg #[.int .i64 K2, .int .i64 D2, .string ⟨U2.toArray⟩], .pointer (some ⟨β, 0, none⟩)] w (tookP M a s [⟨K, D, U⟩] w) := by
  have hz : (ByteArray.mk U2.toArray).size = U2.length := by simp [ByteArray.size]
  go_enter Tryz.func213, Tryz.ntmps213
  go_wp2_with (first
    | (have _ := HB3; go_at_call 229; refine (cA.out _ HB3.out).mono ?_; rintro e w9 ⟨⟨v9, rfl⟩, hg9, hb9⟩)
    | (have _ := HB2; go_at_call 105; refine (c3.out _).mono ?_; rintro e w3 ⟨rfl, hb3⟩; have HR3 : Hid (w3.heap[w.heap.size]? = some (.cells #[.int .i64 K, .int .i64 D, .string ⟨U.toArray⟩] 50 (0, 0))) := (hb3.block _ (heap_lt HR2.out)).trans HR2.out; have HP3 : Hid (w3.heap[w.heap.size + 1]? = some (.cells #[.int .i64 K2, .int .i64 D2, .string ⟨U2.toArray⟩] 50 (0, 0))) := (hb3.block _ (heap_lt HP2.out)).trans HP2.out; have HB3 : Hid (Below w.heap.size w w3) := HB2.out.trans (hb3.mono HB2.out.size); have o0 : w3.cell? ⟨w.heap.size, 0, none⟩ = some (.int .i64 K) := Lib.cell_of_heap HR3.out 0; have o1 : w3.cell? ⟨w.heap.size, 1, none⟩ = some (.int .i64 D) := Lib.cell_of_heap HR3.out 1; have o2 : w3.cell? ⟨w.heap.size, 2, none⟩ = some (.string ⟨U.toArray⟩) := Lib.cell_of_heap HR3.out 2; have p0 : w3.cell? ⟨w.heap.size + 1, 0, none⟩ = some (.int .i64 K2) := Lib.cell_of_heap HP3.out 0; have p1 : w3.cell? ⟨w.heap.size + 1, 1, none⟩ = some (.int .i64 D2) := Lib.cell_of_heap HP3.out 1; have p2 : w3.cell? ⟨w.heap.size + 1, 2, none⟩ = some (.string ⟨U2.toArray⟩) := Lib.cell_of_heap HP3.out 2; have yf : w3.cell? ⟨β, 0, none⟩ = some (addV a) := Lib.cell_of_heap ((HB3.out.block β (heap_lt HX.out)).trans HX.out) 0; unfold addV at yf; clear hb3)
    | (have _ := HB1; go_at_call 210; refine (c2.out _).mono ?_; rintro e w2 ⟨rfl, hb2⟩; have HR2 : Hid (w2.heap[w.heap.size]? = some (.cells #[.int .i64 K, .int .i64 D, .string ⟨U.toArray⟩] 50 (0, 0))) := (hb2.block _ (heap_lt HR1.out)).trans HR1.out; have HP2 : Hid (w2.heap[w.heap.size + 1]? = some (.cells #[.int .i64 K2, .int .i64 D2, .string ⟨U2.toArray⟩] 50 (0, 0))) := (hb2.block _ (heap_lt HP1.out)).trans HP1.out; have HB2 : Hid (Below w.heap.size w w2) := HB1.out.trans (hb2.mono HB1.out.size); have o0 : w2.cell? ⟨w.heap.size, 0, none⟩ = some (.int .i64 K) := Lib.cell_of_heap HR2.out 0; have o1 : w2.cell? ⟨w.heap.size, 1, none⟩ = some (.int .i64 D) := Lib.cell_of_heap HR2.out 1; have o2 : w2.cell? ⟨w.heap.size, 2, none⟩ = some (.string ⟨U.toArray⟩) := Lib.cell_of_heap HR2.out 2; have p0 : w2.cell? ⟨w.heap.size + 1, 0, none⟩ = some (.int .i64 K2) := Lib.cell_of_heap HP2.out 0; have p1 : w2.cell? ⟨w.heap.size + 1, 1, none⟩ = some (.int .i64 D2) := Lib.cell_of_heap HP2.out 1; have p2 : w2.cell? ⟨w.heap.size + 1, 2, none⟩ = some (.string ⟨U2.toArray⟩) := Lib.cell_of_heap HP2.out 2; clear hb2)
    | (go_at_call 210; refine (c1.out _).mono ?_; rintro e w1 ⟨rfl, hb1⟩; obtain ⟨b1, b2, b3⟩ := two_boxes hb1; have HR1 : Hid (w1.heap[w.heap.size]? = some (.cells #[.int .i64 K, .int .i64 D, .string ⟨U.toArray⟩] 50 (0, 0))) := b1; have HP1 : Hid (w1.heap[w.heap.size + 1]? = some (.cells #[.int .i64 K2, .int .i64 D2, .string ⟨U2.toArray⟩] 50 (0, 0))) := b2; have HB1 : Hid (Below w.heap.size w w1) := b3; have o0 : w1.cell? ⟨w.heap.size, 0, none⟩ = some (.int .i64 K) := Lib.cell_of_heap HR1.out 0; have o1 : w1.cell? ⟨w.heap.size, 1, none⟩ = some (.int .i64 D) := Lib.cell_of_heap HR1.out 1; have o2 : w1.cell? ⟨w.heap.size, 2, none⟩ = some (.string ⟨U.toArray⟩) := Lib.cell_of_heap HR1.out 2; have p0 : w1.cell? ⟨w.heap.size + 1, 0, none⟩ = some (.int .i64 K2) := Lib.cell_of_heap HP1.out 0; have p1 : w1.cell? ⟨w.heap.size + 1, 1, none⟩ = some (.int .i64 D2) := Lib.cell_of_heap HP1.out 1; have p2 : w1.cell? ⟨w.heap.size + 1, 2, none⟩ = some (.string ⟨U2.toArray⟩) := Lib.cell_of_heap HP1.out 2; clear b1 b2 b3 hb1)
    | fail)
  go_end0
  exact took_step HB3.out (by omega) hg9 hb9
set_option maxRecDepth 100000 in
set_option maxHeartbeats 2000000 in
theorem turn_none (M a β : Nat) (s : NSt) (K D K2 D2 : Int) (U U2 : List UInt8) (w : World) (HG : Hid (gath M w a s)) (hlt : a + 3 < w.heap.size) (HX : Hid (w.heap[β]? = some (.cells #[addV a] 322 (0, 0)))) (c1 : Hid (∀ wx, Calls Tryz.prog 210 #[.agg #[.int .i64 K2, .int .i64 D2, .string ⟨U2.toArray⟩]] wx fun e w' => e = .returned (.bool false) ∧ Below wx.heap.size wx w')) (c2 : Hid (∀ wx, Calls Tryz.prog 210 #[.agg #[.int .i64 K, .int .i64 D, .string ⟨U.toArray⟩]] wx fun e w' => e = .returned (.bool false) ∧ Below wx.heap.size wx w')) (c3 : Hid (∀ wx, Calls Tryz.prog 105 #[.agg #[.int .i64 K2, .int .i64 D2, .string ⟨U2.toArray⟩]] wx fun e w' => e = .returned (.bool false) ∧ Below wx.heap.size wx w')) :
    Calls Tryz.prog 213 #[.agg #[.int .i64 K, .int .i64 D, .string ⟨U.toArray⟩], .agg #[.int .i64 K2, .int .i64 D2, .string ⟨U2.toArray⟩], .pointer (some ⟨β, 0, none⟩)] w (tookP M a s [] w) := by
  have hz : (ByteArray.mk U2.toArray).size = U2.length := by simp [ByteArray.size]
  go_enter Tryz.func213, Tryz.ntmps213
  go_wp2_with (first
    | (have _ := HB2; go_at_call 105; refine (c3.out _).mono ?_; rintro e w3 ⟨rfl, hb3⟩; have HR3 : Hid (w3.heap[w.heap.size]? = some (.cells #[.int .i64 K, .int .i64 D, .string ⟨U.toArray⟩] 50 (0, 0))) := (hb3.block _ (heap_lt HR2.out)).trans HR2.out; have HP3 : Hid (w3.heap[w.heap.size + 1]? = some (.cells #[.int .i64 K2, .int .i64 D2, .string ⟨U2.toArray⟩] 50 (0, 0))) := (hb3.block _ (heap_lt HP2.out)).trans HP2.out; have HB3 : Hid (Below w.heap.size w w3) := HB2.out.trans (hb3.mono HB2.out.size); have o0 : w3.cell? ⟨w.heap.size, 0, none⟩ = some (.int .i64 K) := Lib.cell_of_heap HR3.out 0; have o1 : w3.cell? ⟨w.heap.size, 1, none⟩ = some (.int .i64 D) := Lib.cell_of_heap HR3.out 1; have o2 : w3.cell? ⟨w.heap.size, 2, none⟩ = some (.string ⟨U.toArray⟩) := Lib.cell_of_heap HR3.out 2; have p0 : w3.cell? ⟨w.heap.size + 1, 0, none⟩ = some (.int .i64 K2) := Lib.cell_of_heap HP3.out 0; have p1 : w3.cell? ⟨w.heap.size + 1, 1, none⟩ = some (.int .i64 D2) := Lib.cell_of_heap HP3.out 1; have p2 : w3.cell? ⟨w.heap.size + 1, 2, none⟩ = some (.string ⟨U2.toArray⟩) := Lib.cell_of_heap HP3.out 2; clear hb3)
    | (have _ := HB1; go_at_call 210; refine (c2.out _).mono ?_; rintro e w2 ⟨rfl, hb2⟩; have HR2 : Hid (w2.heap[w.heap.size]? = some (.cells #[.int .i64 K, .int .i64 D, .string ⟨U.toArray⟩] 50 (0, 0))) := (hb2.block _ (heap_lt HR1.out)).trans HR1.out; have HP2 : Hid (w2.heap[w.heap.size + 1]? = some (.cells #[.int .i64 K2, .int .i64 D2, .string ⟨U2.toArray⟩] 50 (0, 0))) := (hb2.block _ (heap_lt HP1.out)).trans HP1.out; have HB2 : Hid (Below w.heap.size w w2) := HB1.out.trans (hb2.mono HB1.out.size); have o0 : w2.cell? ⟨w.heap.size, 0, none⟩ = some (.int .i64 K) := Lib.cell_of_heap HR2.out 0; have o1 : w2.cell? ⟨w.heap.size, 1, none⟩ = some (.int .i64 D) := Lib.cell_of_heap HR2.out 1; have o2 : w2.cell? ⟨w.heap.size, 2, none⟩ = some (.string ⟨U.toArray⟩) := Lib.cell_of_heap HR2.out 2; have p0 : w2.cell? ⟨w.heap.size + 1, 0, none⟩ = some (.int .i64 K2) := Lib.cell_of_heap HP2.out 0; have p1 : w2.cell? ⟨w.heap.size + 1, 1, none⟩ = some (.int .i64 D2) := Lib.cell_of_heap HP2.out 1; have p2 : w2.cell? ⟨w.heap.size + 1, 2, none⟩ = some (.string ⟨U2.toArray⟩) := Lib.cell_of_heap HP2.out 2; clear hb2)
    | (go_at_call 210; refine (c1.out _).mono ?_; rintro e w1 ⟨rfl, hb1⟩; obtain ⟨b1, b2, b3⟩ := two_boxes hb1; have HR1 : Hid (w1.heap[w.heap.size]? = some (.cells #[.int .i64 K, .int .i64 D, .string ⟨U.toArray⟩] 50 (0, 0))) := b1; have HP1 : Hid (w1.heap[w.heap.size + 1]? = some (.cells #[.int .i64 K2, .int .i64 D2, .string ⟨U2.toArray⟩] 50 (0, 0))) := b2; have HB1 : Hid (Below w.heap.size w w1) := b3; have o0 : w1.cell? ⟨w.heap.size, 0, none⟩ = some (.int .i64 K) := Lib.cell_of_heap HR1.out 0; have o1 : w1.cell? ⟨w.heap.size, 1, none⟩ = some (.int .i64 D) := Lib.cell_of_heap HR1.out 1; have o2 : w1.cell? ⟨w.heap.size, 2, none⟩ = some (.string ⟨U.toArray⟩) := Lib.cell_of_heap HR1.out 2; have p0 : w1.cell? ⟨w.heap.size + 1, 0, none⟩ = some (.int .i64 K2) := Lib.cell_of_heap HP1.out 0; have p1 : w1.cell? ⟨w.heap.size + 1, 1, none⟩ = some (.int .i64 D2) := Lib.cell_of_heap HP1.out 1; have p2 : w1.cell? ⟨w.heap.size + 1, 2, none⟩ = some (.string ⟨U2.toArray⟩) := Lib.cell_of_heap HP1.out 2; clear b1 b2 b3 hb1)
    | fail)
  go_end0
  exact ⟨⟨_, rfl⟩, gath_below HG.out HB3.out, BelowG.of HB3.out (by omega)⟩
/-- The gatherer's add, of whatever part a take comes to. -/
theorem take_adds (M a : Nat) (s : NSt) (l : List Pt) (w : World) (hg : gath M w a s) {T : Int} {n : Nat} (hB : Bd s T n) (hS : ∀ p ∈ l, soundP p) (hT : T + wts l < 1000000000) (hn : n < 10000000) (p : Pt) (hp : p ∈ l) (wx : World) (hb : Below w.heap.size w wx) :
    Calls Tryz.prog 229 #[partV p, .pointer (some ⟨a + 1, 0, none⟩), .pointer (some ⟨a + 2, 0, none⟩), .pointer (some ⟨a + 3, 0, none⟩), .pointer (some ⟨a, 0, none⟩)] wx fun e w' => (∃ v, e = .returned v) ∧ gath M w' a (addP s p) ∧ BelowG M a wx w' := by
  refine add_bd a s p wx (gath_below hg hb) hB (hS p hp) ?_ hn
  have h1 : wtP p ≤ wts l := by
    obtain ⟨l1, l2, rfl⟩ := List.append_of_mem hp
    have h2 := wts_nonneg (ps := l1) fun q hq => hS q (by simp [hq])
    have h3 := wts_nonneg (ps := l2) fun q hq => hS q (by simp [hq])
    unfold wts at h2 h3 ⊢
    simp only [List.map_append, List.sum_append, List.map_cons, List.sum_cons]
    omega
  omega

theorem turnO_any (M a β : Nat) (s : NSt) (one other : Pt) (w : World) (hg : gath M w a s) (hx : w.heap[β]? = some (.cells #[addV a] 322 (0, 0))) {T : Int} {n : Nat} (hB : Bd s T n) (hS : ∀ p ∈ turnP (one, other), soundP p) (hT : T + wts (turnP (one, other)) < 1000000000) (hn : n < 10000000) :
    Calls Tryz.prog 213 #[partV one, partV other, .pointer (some ⟨β, 0, none⟩)] w (tookP M a s (turnP (one, other)) w) := by
  have cA := take_adds M a s _ w hg hB hS hT hn
  have cO := isPut_any other
  have cP := isPut_any one
  have cK := isKeep_any other
  have hlt := gath_lt hg
  obtain ⟨K, D, U⟩ := one
  obtain ⟨K2, D2, U2⟩ := other
  by_cases h1 : U2 ≠ []
  · have ht : turnP (⟨K, D, U⟩, ⟨K2, D2, U2⟩) = [⟨U2.length, 0, []⟩] := by unfold turnP; rw [if_pos (by simp [isPutP, h1])]
    rw [show decide ((⟨K2, D2, U2⟩ : Pt).put ≠ []) = true from decide_eq_true h1] at cO
    rw [ht] at cA ⊢
    exact turn_len M a β s K D K2 D2 U U2 w hg hlt hx cO (cA _ (List.mem_singleton.2 rfl))
  · rw [show decide ((⟨K2, D2, U2⟩ : Pt).put ≠ []) = false from decide_eq_false h1] at cO
    by_cases h2 : U ≠ []
    · have ht : turnP (⟨K, D, U⟩, ⟨K2, D2, U2⟩) = [⟨K, D, U⟩] := by unfold turnP; rw [if_neg (by simpa [isPutP] using h1), if_pos (by simp [isPutP, h2])]
      rw [show decide ((⟨K, D, U⟩ : Pt).put ≠ []) = true from decide_eq_true h2] at cP
      rw [ht] at cA ⊢
      exact turn_put M a β s K D K2 D2 U U2 w hg hlt hx cO cP (cA _ (List.mem_singleton.2 rfl))
    · rw [show decide ((⟨K, D, U⟩ : Pt).put ≠ []) = false from decide_eq_false h2] at cP
      by_cases h3 : 0 < K2
      · have ht : turnP (⟨K, D, U⟩, ⟨K2, D2, U2⟩) = [⟨K, D, U⟩] := by unfold turnP; rw [if_neg (by simpa [isPutP] using h1), if_pos (by simp [isKeepP, h3])]
        rw [show decide (0 < (⟨K2, D2, U2⟩ : Pt).keep) = true from decide_eq_true h3] at cK
        rw [ht] at cA ⊢
        exact turn_unit1 M a β s K D K2 D2 U U2 w hg hlt hx cO cP cK (cA _ (List.mem_singleton.2 rfl))
      · have ht : turnP (⟨K, D, U⟩, ⟨K2, D2, U2⟩) = [] := by
          unfold turnP
          rw [if_neg (by simpa [isPutP] using h1), if_neg]
          simp only [isPutP, isKeepP, Bool.or_eq_true, decide_eq_true_eq, not_or]
          exact ⟨h2, h3⟩
        rw [show decide (0 < (⟨K2, D2, U2⟩ : Pt).keep) = false from decide_eq_false h3] at cK
        rw [ht]
        exact turn_none M a β s K D K2 D2 U U2 w hg hlt hx cO cP cK

end Go.Proofs.YtfedgjnhanlmeabGreatDoor

namespace Go.Proofs.YtfedgjnhanlmeabGreatDoor
open Go.RowKit
set_option linter.unusedVariables false
attribute [local go_sem] Oper.semAt_some

set_option maxRecDepth 100000 in
set_option maxHeartbeats 2000000 in
theorem turn2_any (M a β β2 : Nat) (s : NSt) (other one : Pt) (w : World) (hg : gath M w a s) (hx : w.heap[β]? = some (.cells #[addV a] 322 (0, 0))) (hx2 : w.heap[β2]? = some (.cells #[.func (.func 213) #[] #[.pointer (some ⟨β, 0, none⟩)]] 327 (0, 0))) {T : Int} {n : Nat} (hB : Bd s T n) (hS : ∀ p ∈ turnP (one, other), soundP p) (hT : T + wts (turnP (one, other)) < 1000000000) (hn : n < 10000000) :
    Calls Tryz.prog 214 #[partV other, partV one, .pointer (some ⟨β2, 0, none⟩)] w (tookP M a s (turnP (one, other)) w) := by
  have hlt := gath_lt hg
  have hlt2 := heap_lt hx2
  have cT : Hid (∀ wx, Below w.heap.size w wx → Calls Tryz.prog 213 #[partV one, partV other, .pointer (some ⟨β, 0, none⟩)] wx (tookP M a s (turnP (one, other)) wx)) := fun wx hb =>
    turnO_any M a β s one other wx (gath_below hg hb) ((hb.block β (heap_lt hx)).trans hx) hB hS hT hn
  obtain ⟨K, D, U⟩ := one
  obtain ⟨K2, D2, U2⟩ := other
  have y2 : w.cell? ⟨β2, 0, none⟩ = some (.func (.func 213) #[] #[.pointer (some ⟨β, 0, none⟩)]) := Lib.cell_of_heap hx2 0
  generalize turnP (⟨K, D, U⟩, ⟨K2, D2, U2⟩) = L at *
  unfold partV at cT ⊢
  clear hg hx hx2 hB hS hT
  go_enter Tryz.func214, Tryz.ntmps214
  have hW : Below w.heap.size w ((w.alloc (.cells #[.int .i64 K2, .int .i64 D2, .string ⟨U2.toArray⟩] 50)).alloc (.cells #[.int .i64 K, .int .i64 D, .string ⟨U.toArray⟩] 50)) := ((Below.refl _ w).alloc (Nat.le_refl _) _).alloc (by rw [World.size_alloc]; omega) _
  have HW : Hid _ := hW
  clear hW
  go_wp2_with (first
    | (go_at_call 213; refine (cT.out _ HW.out).mono ?_; rintro e w1 ⟨⟨v1, rfl⟩, hg1, hb1⟩)
    | fail)
  go_end0
  exact ⟨⟨_, rfl⟩, hg1, (BelowG.of HW.out (by omega)).trans hb1⟩

/-- The pairs of two operations side by side, one behind the other. -/
inductive Side (la lb : Pt → Bool) : List Pt → List Pt → List (Pt × Pt) → Prop
  | nil : Side la lb [] [] []
  | left {p : Pt} {a b : List Pt} {l : List (Pt × Pt)} : la p = true → Side la lb a b l → Side la lb (p :: a) b ((p, noP) :: l)
  | last {q : Pt} {b : List Pt} {l : List (Pt × Pt)} : lb q = true → Side la lb [] b l → Side la lb [] (q :: b) ((noP, q) :: l)
  | right {p q : Pt} {a b : List Pt} {l : List (Pt × Pt)} : la p = false → lb q = true → Side la lb (p :: a) b l → Side la lb (p :: a) (q :: b) ((noP, q) :: l)
  | both {p q : Pt} {a b : List Pt} {l : List (Pt × Pt)} (n : Nat) : la p = false → lb q = false → oneP p → oneP q → 0 < n → min (lengthP p) (lengthP q) = n → lengthP p < 1000000000 → lengthP q < 1000000000 →
      Side la lb ((cutP p n).2 ++ a) ((cutP q n).2 ++ b) l → Side la lb (p :: a) (q :: b) (((cutP p n).1, (cutP q n).1) :: l)

/-- What stands beside the walk: boxes. -/
def boxesP (L : List (Nat × Obj)) (w : World) : Prop := ∀ x ∈ L, w.heap[x.1]? = some x.2
def boxesOk (a g1 g2 : Nat) (L : List (Nat × Obj)) : Prop := ∀ x ∈ L, a + 4 ≤ x.1 ∧ x.1 ≠ g1 ∧ x.1 ≠ g2 ∧ (∀ c fz, x.2 ≠ .cells c 5 fz) ∧ ∀ c fz, x.2 ≠ .cells c 50 fz

/-- What the rounds keep. -/
structure sideI (M a g1 g2 : Nat) (bx : List (Nat × Obj)) (w : World) (v1 v2 : Value) (A B : List Pt) (s : NSt) (W : World) : Prop where
  below : Below a w W
  g : gath M W a s
  r1 : winP W g1 v1 A
  r2 : winP W g2 v2 B
  b : boxesP bx W
theorem sideI.grow {M a g1 g2 : Nat} {bx : List (Nat × Obj)} {w : World} {v1 v2 : Value} {A B : List Pt} {s : NSt} {W W' : World} (h : sideI M a g1 g2 bx w v1 v2 A B s W) (hb : Below W.heap.size W W') : sideI M a g1 g2 bx w v1 v2 A B s W' :=
  ⟨h.below.trans (hb.mono (by have := gath_lt h.g; omega)), gath_below h.g hb, winP_below h.r1 hb, winP_below h.r2 hb, fun x hx => (hb.block _ (heap_lt (h.b x hx))).trans (h.b x hx)⟩
theorem gath_but {M a g : Nat} {s : NSt} {w w' : World} (h : gath M w a s) (hb : ButO g w w') (h1 : a + 4 ≤ g) (h2 : g < M) : gath M w' a s := by
  have hM := h.le
  have hT := h.top
  have hlt := gath_lt h
  have hbl := hb.below h1 (by omega)
  have own : ∀ {e size n : Nat} {v : Value} {xs : List Value}, w.ownsRow M e size v n xs → w'.ownsRow M e size v n xs := by
    intro e size n v xs h
    obtain ⟨h0, hrow⟩ := h
    refine ⟨h0, ?_⟩
    rcases hrow with hx | ⟨g', cap, cur, rfl, hg, hgg, rest⟩
    · exact .inl hx
    · exact .inr ⟨g', cap, cur, rfl, hg, (hb.block g' (heap_lt hgg) (by omega)).trans hgg, rest⟩
  obtain ⟨⟨p, c, h1, h2⟩, h3, ⟨p', c', h4, h5⟩, h6, h7, h8, h9⟩ := h
  exact ⟨⟨p, c, (hbl.cell (p := ⟨a, 0, none⟩) (by show a < a + 4; omega)).trans h1, own h2⟩, (hbl.frozen (p := ⟨a, 0, none⟩) (by show a < a + 4; omega)).trans h3,
    ⟨p', c', (hbl.cell (p := ⟨a + 1, 0, none⟩) (by show a + 1 < a + 4; omega)).trans h4, own h5⟩, (hbl.frozen (p := ⟨a + 1, 0, none⟩) (by show a + 1 < a + 4; omega)).trans h6,
    (hbl.cell (p := ⟨a + 2, 0, none⟩) (by show a + 2 < a + 4; omega)).trans h7, (hbl.frozen (p := ⟨a + 2, 0, none⟩) (by show a + 2 < a + 4; omega)).trans h8, (hbl.cell (p := ⟨a + 3, 0, none⟩) (by show a + 3 < a + 4; omega)).trans h9, hM, Nat.le_trans hT hb.size⟩
theorem sideI.cut2 {M a g1 g2 : Nat} {bx : List (Nat × Obj)} {w : World} {v1 v2 v2' : Value} {A B B' : List Pt} {s : NSt} {W W' : World} (h : sideI M a g1 g2 bx w v1 v2 A B s W) (hb : ButO g2 W W') (ho : boxesOk a g1 g2 bx) (h1 : a + 4 ≤ g2) (h2 : g2 < M) (hne : g1 ≠ g2) (hr : winP W' g2 v2' B') : sideI M a g1 g2 bx w v1 v2' A B' s W' :=
  ⟨h.below.trans (hb.below (by omega) (by have := gath_lt h.g; omega)), gath_but h.g hb h1 h2, winP_but h.r1 hb hne, hr, fun x hx => (hb.block _ (heap_lt (h.b x hx)) (ho x hx).2.2.1).trans (h.b x hx)⟩
theorem winP_g {M a g : Nat} {w w' : World} {v : Value} {ps : List Pt} (h : winP w g v ps) (hb : BelowG M a w w') (h1 : a + 4 ≤ g) (h2 : g < M) : winP w' g v ps := by
  refine winP_kept h hb.size fun hg => ?_
  obtain ⟨o, ho⟩ : ∃ o, w.heap[g]? = some o := ⟨_, Array.getElem?_eq_getElem hg⟩
  rw [ho]
  exact hb.kept g o ho (by omega) (by omega) (by omega) (fun _ _ hM => absurd hM (by omega)) (fun _ _ hM => absurd hM (by omega))
theorem sideI.took {M a g1 g2 : Nat} {bx : List (Nat × Obj)} {w : World} {v1 v2 : Value} {A B : List Pt} {s s' : NSt} {W W' : World} (h : sideI M a g1 g2 bx w v1 v2 A B s W) (hb : BelowG M a W W') (hg : gath M W' a s') (ho : boxesOk a g1 g2 bx) (h1 : a + 4 ≤ g1) (h2 : g1 < M) (h3 : a + 4 ≤ g2) (h4 : g2 < M) : sideI M a g1 g2 bx w v1 v2 A B s' W' :=
  ⟨h.below.trans hb.below, hg, winP_g h.r1 hb h1 h2, winP_g h.r2 hb h3 h4, fun x hx => by
    obtain ⟨o1, _, _, o2, o3⟩ := ho x hx
    exact hb.kept _ _ (h.b x hx) (by omega) (by omega) (by omega) (fun c fz _ => o2 c fz) (fun c fz _ => o3 c fz)⟩
/-- The bounds of what is yet to come. -/
structure BdS (t : Pt × Pt → List Pt) (l : List (Pt × Pt)) (s : NSt) (T : Int) (n : Nat) : Prop where
  bd : Bd s T n
  w : T + wts (l.flatMap t) < 1000000000
  n : n + l.length < 10000000
  sound : ∀ x ∈ l, ∀ p ∈ t x, soundP p
  one : ∀ x ∈ l, (t x).length ≤ 1
theorem Bd.more {s : NSt} {T : Int} {n : Nat} (h : Bd s T n) : Bd s T (n + 1) := ⟨h.put, h.d0, h.dT, h.keep, by have := h.len; omega⟩
theorem BdS.head {t : Pt × Pt → List Pt} {x : Pt × Pt} {l : List (Pt × Pt)} {s : NSt} {T : Int} {n : Nat} (h : BdS t (x :: l) s T n) : (∀ p ∈ t x, soundP p) ∧ T + wts (t x) < 1000000000 ∧ n < 10000000 := by
  refine ⟨h.sound x (by simp), ?_, by have := h.n; simp at this; omega⟩
  have h1 := h.w
  have h2 : 0 ≤ wts (l.flatMap t) := wts_nonneg fun p hp => by
    obtain ⟨y, hy, hp⟩ := List.mem_flatMap.1 hp
    exact h.sound y (by simp [hy]) p hp
  rw [List.flatMap_cons] at h1
  unfold wts at h1 h2 ⊢
  rw [List.map_append, List.sum_append] at h1
  omega
theorem BdS.tail {t : Pt × Pt → List Pt} {x : Pt × Pt} {l : List (Pt × Pt)} {s : NSt} {T : Int} {n : Nat} (h : BdS t (x :: l) s T n) : BdS t l ((t x).foldl addP s) (T + wts (t x)) (n + 1) := by
  refine ⟨?_, ?_, by have := h.n; simp at this; omega, fun y hy => h.sound y (by simp [hy]), fun y hy => h.one y (by simp [hy])⟩
  · have h1 := h.one x (by simp)
    have h2 := h.sound x (by simp)
    generalize t x = L at *
    match L, h1 with
    | [], _ => simpa [wts] using h.bd.more
    | [p], _ =>
      have := h.bd.add p (h2 p (by simp))
      simpa [wts] using this
  · have h1 := h.w
    rw [List.flatMap_cons] at h1
    unfold wts at h1 ⊢
    rw [List.map_append, List.sum_append] at h1
    omega
end Go.Proofs.YtfedgjnhanlmeabGreatDoor

namespace Go.Proofs.YtfedgjnhanlmeabGreatDoor
set_option linter.unusedVariables false

def tPut (u : List UInt8) (s : NSt) : NSt := addP s ⟨0, 0, u⟩
def tKeep (v : List UInt8) (s : NSt) : NSt := addP s ⟨v.length, 0, []⟩
def tUnit (d e : Bool) (s : NSt) : NSt := if e then s else addP s (unitP d)
theorem tPut_nil (s : NSt) : tPut [] s = s := addP_none s
theorem tKeep_nil (s : NSt) : tKeep [] s = s := addP_none s
theorem tPut_more (u v : List UInt8) (s : NSt) : tPut (u ++ v) s = tPut v (tPut u s) := (addP_puts s u v).symm
theorem tKeep_more (u v : List UInt8) (s : NSt) : tKeep (u ++ v) s = tKeep v (tKeep u s) := by
  unfold tKeep
  cases u with
  | nil => simp [addP_none]
  | cons c u =>
    rw [addP_keeps s ((c :: u).length : Int) (v.length : Int) (by simp) (by omega), List.length_append]
    simp
theorem units_add (d : Bool) : ∀ (k : Nat) (s : NSt), stepsU (tUnit d false) (k + 1) s = addP s (unitK d (k + 1))
  | 0, s => by cases d <;> rfl
  | k + 1, s => by
    have e1 : stepsU (tUnit d false) (k + 1 + 1) s = stepsU (tUnit d false) (k + 1) (tUnit d false s) := rfl
    rw [e1, units_add d k]
    cases d with
    | true =>
      show addP (addP s ⟨0, 1, []⟩) ⟨0, ((k + 1 : Nat) : Int), []⟩ = addP s ⟨0, ((k + 1 + 1 : Nat) : Int), []⟩
      rw [addP_drops]
      congr 2
      omega
    | false =>
      show addP (addP s ⟨1, 0, []⟩) ⟨((k + 1 : Nat) : Int), 0, []⟩ = addP s ⟨((k + 1 + 1 : Nat) : Int), 0, []⟩
      rw [addP_keeps s 1 _ (by omega) (by omega)]
      congr 2
      omega
theorem units_none (d : Bool) : ∀ (k : Nat) (s : NSt), stepsU (tUnit d true) k s = s
  | 0, _ => rfl
  | k + 1, s => units_none d k s
theorem turnQ_put (u : List UInt8) (s : NSt) (h : u ≠ []) : (turnP (⟨0, 0, u⟩, noP)).foldl addP s = tPut u s := by simp [turnP, isPutP, noP, h, tPut]
theorem turnQ_keep (v : List UInt8) (s : NSt) (h : v ≠ []) : (turnP (noP, ⟨0, 0, v⟩)).foldl addP s = tKeep v s := by simp [turnP, isPutP, h, tKeep]
theorem turnQ_unit (d e : Bool) (k : Nat) (s : NSt) : (turnP (unitK d (k + 1), unitK e (k + 1))).foldl addP s = stepsU (tUnit d e) (k + 1) s := by
  cases e with
  | true =>
    rw [units_none]
    have h1 : isPutP (unitK true (k + 1)) = false := unit_isPut true (k + 1)
    have h2 : isPutP (unitK d (k + 1)) = false := unit_isPut d (k + 1)
    have h3 : isKeepP (unitK true (k + 1)) = false := by simp [isKeepP, unitK]
    simp [turnP, h1, h2, h3]
  | false =>
    rw [units_add]
    have h1 : isPutP (unitK false (k + 1)) = false := unit_isPut false (k + 1)
    have h3 : isKeepP (unitK false (k + 1)) = true := by simp [isKeepP, unitK]
    simp [turnP, h1, h3]

/-- The document's parts, added up. -/
theorem docT_true : ∀ (x : List (List UInt8 × Bool)) (xl : List UInt8) (y : List (List UInt8 × Bool)) (yl : List UInt8) (s : NSt), (docT true x xl y yl).foldl addP s = docG tPut tKeep tUnit x xl y yl s
  | [], xl, [], yl, s => rfl
  | [], xl, _ :: _, yl, s => rfl
  | _ :: _, xl, [], yl, s => rfl
  | (u, d) :: x, xl, (v, e) :: y, yl, s => by
    rw [docT, docG, List.foldl_append, docT_true x xl y yl]
    cases e <;> rfl
theorem docT_false : ∀ (x : List (List UInt8 × Bool)) (xl : List UInt8) (y : List (List UInt8 × Bool)) (yl : List UInt8) (s : NSt), (docT false x xl y yl).foldl addP s = docG tKeep tPut (fun e d => tUnit d e) y yl x xl s
  | [], xl, [], yl, s => rfl
  | [], xl, _ :: _, yl, s => rfl
  | _ :: _, xl, [], yl, s => rfl
  | (u, d) :: x, xl, (v, e) :: y, yl, s => by
    rw [docT, docG, List.foldl_append, docT_false x xl y yl]
    cases e <;> rfl

/-- Transform, a's first. -/
theorem turn_first (f : Nat) (a b : List Pt) (s : NSt) (ha : ∀ p ∈ a, oneP p) (hb : ∀ p ∈ b, oneP p) (hl : lensU a = lensU b) (hw : weight a + weight b ≤ f) :
    runS turnP (sideP isPutP isPutP f a b) s = (docT true (gapsR [] a).1 (gapsR [] a).2 (gapsR [] b).1 (gapsR [] b).2).foldl addP s := by
  rw [docT_true]
  exact side_gaps turnP tPut tKeep tUnit tPut_nil tKeep_nil tPut_more tKeep_more turnQ_put turnQ_keep turnQ_unit f a b s ha hb hl hw
/-- Transform, the other's first. -/
theorem turn_second (f : Nat) (a b : List Pt) (s : NSt) (ha : ∀ p ∈ a, oneP p) (hb : ∀ p ∈ b, oneP p) (hl : lensU a = lensU b) (hw : weight a + weight b ≤ f) :
    runS (fun x => turnP (x.2, x.1)) (sideP isPutP isPutP f b a) s = (docT false (gapsR [] a).1 (gapsR [] a).2 (gapsR [] b).1 (gapsR [] b).2).foldl addP s := by
  rw [docT_false]
  exact side_gaps (fun x => turnP (x.2, x.1)) tKeep tPut (fun e d => tUnit d e) tKeep_nil tPut_nil tKeep_more tPut_more (fun v s h => turnQ_keep v s h) (fun u s h => turnQ_put u s h) (fun e d k s => turnQ_unit d e k s) f b a s hb ha hl.symm (by omega)
end Go.Proofs.YtfedgjnhanlmeabGreatDoor

namespace Go.Proofs.YtfedgjnhanlmeabGreatDoor
set_option linter.unusedVariables false

structure OneS (s : NSt) : Prop where
  out : ∀ p ∈ s.out, oneP p
  drop : 0 ≤ s.drop
theorem tell_one {s : NSt} (h : OneS s) : ∀ p ∈ tellP s, oneP p := by
  intro p hp
  unfold tellP at hp
  rcases List.mem_append.1 hp with hp | hp
  · exact h.out p hp
  · rcases List.mem_append.1 hp with hp | hp
    · split at hp
      · simp at hp
      · rename_i hne
        rw [List.mem_singleton.1 hp]
        exact .inr (.inr ⟨rfl, rfl, hne⟩)
    · split at hp
      · simp at hp
      · rename_i hne
        rw [List.mem_singleton.1 hp]
        have := h.drop
        exact .inr (.inl ⟨rfl, by show 0 < s.drop; omega, rfl⟩)
theorem push_one {l : List Pt} (h : ∀ p ∈ l, oneP p) {k : Int} (hk : 0 < k) : ∀ p ∈ pushKeep l k, oneP p := by
  intro p hp
  unfold pushKeep at hp
  have hnew : oneP (⟨k, 0, []⟩ : Pt) := .inl ⟨hk, rfl, rfl⟩
  cases hq : l.getLast? with
  | none =>
    rw [hq] at hp
    simp only [List.mem_append, List.mem_singleton] at hp
    rcases hp with hp | rfl
    · exact h p hp
    · exact hnew
  | some q =>
    rw [hq] at hp
    have hql : q ∈ l := List.mem_of_getLast? hq
    simp only at hp
    split at hp
    · rename_i h0
      simp only [List.mem_append, List.mem_singleton] at hp
      rcases hp with hp | rfl
      · exact h p (List.dropLast_subset l hp)
      · rcases h q hql with ⟨h1, h2, h3⟩ | ⟨h1, _, _⟩ | ⟨h1, _, _⟩
        · exact .inl ⟨by show 0 < q.keep + k; omega, h2, h3⟩
        · omega
        · omega
    · simp only [List.mem_append, List.mem_singleton] at hp
      rcases hp with hp | rfl
      · exact h p hp
      · exact hnew
theorem add_one {s : NSt} (h : OneS s) (p : Pt) (hk : 0 ≤ p.keep) (hd : 0 ≤ p.drop) : OneS (addP s p) := by
  unfold addP
  have h' : OneS ⟨s.out, s.put ++ p.put, s.drop + p.drop⟩ := ⟨h.out, by have := h.drop; show 0 ≤ s.drop + p.drop; omega⟩
  split
  · exact h'
  · rename_i hk0
    exact ⟨push_one (tell_one h') (by omega), by show (0 : Int) ≤ 0; omega⟩
theorem fold_one (ps : List Pt) (h : ∀ p ∈ ps, 0 ≤ p.keep ∧ 0 ≤ p.drop) : ∀ s, OneS s → OneS (ps.foldl addP s) := by
  induction ps with
  | nil => exact fun s hs => hs
  | cons p ps ih => exact fun s hs => ih (fun q hq => h q (by simp [hq])) _ (add_one hs p (h p (by simp)).1 (h p (by simp)).2)
theorem norm_one (ps : List Pt) (h : ∀ p ∈ ps, 0 ≤ p.keep ∧ 0 ≤ p.drop) : ∀ p ∈ normP ps, oneP p :=
  tell_one (fold_one ps h nst0 ⟨by simp [nst0], by simp [nst0]⟩)

/-- How long it is, is kept. -/
def longP (ps : List Pt) : Int := (ps.map lenP).sum
def longS (s : NSt) : Int := longP s.out + s.drop
theorem long_append (a b : List Pt) : longP (a ++ b) = longP a + longP b := by simp [longP]
theorem tell_long (s : NSt) : longP (tellP s) = longS s := by
  unfold tellP longS
  rw [long_append, long_append]
  by_cases hp : s.put = [] <;> by_cases hd : s.drop = 0 <;> simp [longP, lenP, hp, hd]
theorem push_long (l : List Pt) (k : Int) : longP (pushKeep l k) = longP l + k := by
  unfold pushKeep
  cases hq : l.getLast? with
  | none => simp [longP, lenP]
  | some q =>
    simp only
    split
    · have e : l = l.dropLast ++ [q] := by
        have hne : l ≠ [] := by rintro rfl; simp at hq
        have := List.dropLast_concat_getLast hne
        rw [List.getLast?_eq_some_getLast hne] at hq
        rw [Option.some.inj hq] at this
        exact this.symm
      conv => rhs; rw [e]
      rw [long_append, long_append]
      simp [longP, lenP]
      omega
    · rw [long_append]; simp [longP, lenP]
theorem add_long (s : NSt) (p : Pt) : longS (addP s p) = longS s + lenP p := by
  unfold addP
  split
  · rename_i h
    simp [longS, lenP, h]
    omega
  · show longP (pushKeep _ _) + 0 = _
    rw [push_long, tell_long]
    simp [longS, lenP]
    omega
theorem fold_long (ps : List Pt) : ∀ s, longS (ps.foldl addP s) = longS s + longP ps := by
  induction ps with
  | nil => intro s; simp [longP]
  | cons p ps ih =>
    intro s
    rw [List.foldl_cons, ih, add_long]
    simp [longP]
    omega
theorem norm_long (ps : List Pt) : longP (normP ps) = longP ps := by
  unfold normP
  rw [tell_long, fold_long]
  simp [longS, nst0, longP]
theorem lensU_long (ps : List Pt) (h : ∀ p ∈ ps, 0 ≤ p.keep ∧ 0 ≤ p.drop) : (lensU ps : Int) = longP ps := by
  unfold lensU
  have key : ∀ (ps : List Pt), (∀ p ∈ ps, 0 ≤ p.keep ∧ 0 ≤ p.drop) → ∀ acc, ((gapsR acc ps).1.length : Int) = longP ps := by
    intro ps
    induction ps with
    | nil => intro _ acc; simp [gapsR, longP]
    | cons p ps ih =>
      intro h acc
      have h1 := spreadP_len ([], acc) p (h p (by simp)).1 (h p (by simp)).2
      have h2 := ih (fun q hq => h q (by simp [hq])) (spreadP ([], acc) p).2
      simp only [gapsR, List.length_append, longP, List.map_cons, List.sum_cons] at h2 ⊢
      push_cast
      simp only [List.length_nil] at h1
      omega
  exact key ps h []
end Go.Proofs.YtfedgjnhanlmeabGreatDoor

namespace Go.Proofs.YtfedgjnhanlmeabGreatDoor
set_option linter.unusedVariables false

/-- A first part, told apart. -/
theorem one_three {p : Pt} (h : oneP p) : (∃ u, u ≠ [] ∧ p = ⟨0, 0, u⟩) ∨ (∃ n : Nat, p = ⟨(n : Int) + 1, 0, []⟩) ∨ ∃ n : Nat, p = ⟨0, (n : Int) + 1, []⟩ := by
  rcases one_cases h with h | ⟨d, n, rfl⟩
  · exact .inl h
  · cases d with
    | true => exact .inr (.inr ⟨n, rfl⟩)
    | false => exact .inr (.inl ⟨n, rfl⟩)
theorem cut_weigh {p : Pt} (h : oneP p) {n : Nat} (h0 : 0 < n) (hn : (n : Int) ≤ lengthP p) (ps : List Pt) : weight (p :: ps) = n + weight ((cutP p n).2 ++ ps) ∧ (p.put = [] → longP (p :: ps) = n + longP ((cutP p n).2 ++ ps)) ∧ (p.put ≠ [] → longP (p :: ps) = longP ((cutP p n).2 ++ ps)) := by
  rw [weight_cons, weight_append]
  have hL : ∀ l, longP (l ++ ps) = longP l + longP ps := fun l => long_append l ps
  have hL1 : longP (p :: ps) = lenP p + longP ps := by simp [longP]
  rw [hL, hL1]
  obtain ⟨c1, c2, c3, c4⟩ := cut_one h (n := n) (by omega) hn
  have hlen : lengthP p = lenP p + p.put.length := rfl
  by_cases e : lengthP p = n
  · have e2 := c4.2 e
    rw [e2]
    refine ⟨by simp [weight]; omega, fun hp => ?_, fun hp => ?_⟩
    · rw [hp] at hlen; simp only [longP, List.map_nil, List.sum_nil]; simp at hlen; omega
    · have : lenP p = 0 := by rcases h with ⟨h1, h2, h3⟩ | ⟨h1, h2, h3⟩ | ⟨h1, h2, h3⟩ <;> simp_all [lenP]
      simp only [longP, List.map_nil, List.sum_nil]; omega
  · have hne : (cutP p n).2 ≠ [] := fun h => e (c4.1 h)
    have h1 : ∃ q, (cutP p n).2 = [q] ∧ q.put.length = (p.put.length - if p.put = [] then 0 else n) := by
      unfold cutP
      rw [if_neg e]
      rcases h with ⟨h1, h2, h3⟩ | ⟨h1, h2, h3⟩ | ⟨h1, h2, h3⟩
      · rw [if_pos h1]; exact ⟨_, rfl, by simp [h3]⟩
      · rw [if_neg (by omega), if_pos h2]; exact ⟨_, rfl, by simp [h3]⟩
      · rw [if_neg (by omega), if_neg (by omega)]; exact ⟨_, rfl, by simp [h3]⟩
    obtain ⟨q, hq, hq2⟩ := h1
    obtain ⟨d1, d2⟩ := c3 q (by rw [hq]; simp)
    rw [hq]
    have hlq : lengthP q = lenP q + q.put.length := rfl
    refine ⟨by simp [weight]; omega, fun hp => ?_, fun hp => ?_⟩
    · rw [if_pos hp, hp] at hq2
      rw [hp] at hlen
      simp only [List.length_nil] at hlen hq2
      simp only [longP, List.map_cons, List.map_nil, List.sum_cons, List.sum_nil]
      omega
    · rw [if_neg hp] at hq2
      have : lenP p = 0 := by rcases h with ⟨h1, h2, h3⟩ | ⟨h1, h2, h3⟩ | ⟨h1, h2, h3⟩ <;> simp_all [lenP]
      simp only [longP, List.map_cons, List.map_nil, List.sum_cons, List.sum_nil]
      omega

end Go.Proofs.YtfedgjnhanlmeabGreatDoor

namespace Go.Proofs.YtfedgjnhanlmeabGreatDoor
set_option linter.unusedVariables false

/-- What a reading of parts must keep, that a least form is read alike. -/
structure ActP {X : Type} (act : X → Pt → X) : Prop where
  none : ∀ x, act x ⟨0, 0, []⟩ = x
  puts : ∀ x u v, act (act x ⟨0, 0, u⟩) ⟨0, 0, v⟩ = act x ⟨0, 0, u ++ v⟩
  drops : ∀ x (a b : Int), 0 ≤ a → 0 ≤ b → act (act x ⟨0, a, []⟩) ⟨0, b, []⟩ = act x ⟨0, a + b, []⟩
  keeps : ∀ x (a b : Int), 0 < a → 0 < b → act (act x ⟨a, 0, []⟩) ⟨b, 0, []⟩ = act x ⟨a + b, 0, []⟩
  split : ∀ x k d u, act x ⟨k, d, u⟩ = act (act (act x ⟨0, 0, u⟩) ⟨0, d, []⟩) ⟨k, 0, []⟩
  swap : ∀ x d u, act (act x ⟨0, d, []⟩) ⟨0, 0, u⟩ = act (act x ⟨0, 0, u⟩) ⟨0, d, []⟩
theorem act_tell {X : Type} {act : X → Pt → X} (h : ActP act) (s : NSt) (x : X) : (tellP s).foldl act x = act (act (s.out.foldl act x) ⟨0, 0, s.put⟩) ⟨0, s.drop, []⟩ := by
  unfold tellP
  rw [List.foldl_append, List.foldl_append]
  by_cases hp : s.put = [] <;> by_cases hd : s.drop = 0 <;> simp [hp, hd, h.none]
theorem act_push {X : Type} {act : X → Pt → X} (h : ActP act) (l : List Pt) (k : Int) (hk : 0 < k) (x : X) : (pushKeep l k).foldl act x = act (l.foldl act x) ⟨k, 0, []⟩ := by
  unfold pushKeep
  cases hq : l.getLast? with
  | none => simp
  | some q =>
    simp only
    split
    · rename_i hq0
      obtain ⟨init, rfl⟩ : ∃ init, l = init ++ [q] := List.getLast?_eq_some_iff.1 hq
      rw [List.dropLast_concat, List.foldl_append, List.foldl_append]
      simp only [List.foldl_cons, List.foldl_nil]
      rw [h.split _ (q.keep + k), h.split _ q.keep q.drop q.put, h.keeps _ _ _ hq0 hk]
    · simp
theorem act_add {X : Type} {act : X → Pt → X} (h : ActP act) (s : NSt) (p : Pt) (hs : 0 ≤ s.drop) (hk : 0 ≤ p.keep) (hd : 0 ≤ p.drop) (x : X) : (tellP (addP s p)).foldl act x = act ((tellP s).foldl act x) p := by
  have e1 : act ((tellP s).foldl act x) p = act (act (act (s.out.foldl act x) ⟨0, 0, s.put ++ p.put⟩) ⟨0, s.drop + p.drop, []⟩) ⟨p.keep, 0, []⟩ := by
    rw [act_tell h, h.split _ p.keep p.drop p.put, h.swap, h.puts, h.drops _ _ _ hs hd]
  rw [e1]
  unfold addP
  split
  · rename_i h0
    rw [act_tell h, h0, h.none]
  · rw [tellP_done, act_push h _ _ (by omega), act_tell h]
theorem act_norm {X : Type} {act : X → Pt → X} (h : ActP act) (ps : List Pt) (hs : ∀ p ∈ ps, 0 ≤ p.keep ∧ 0 ≤ p.drop) (x : X) : (normP ps).foldl act x = ps.foldl act x := by
  have key : ∀ (ps : List Pt), (∀ p ∈ ps, 0 ≤ p.keep ∧ 0 ≤ p.drop) → ∀ s, OneS s → (tellP (ps.foldl addP s)).foldl act x = ps.foldl act ((tellP s).foldl act x) := by
    intro ps
    induction ps with
    | nil => intros; rfl
    | cons p ps ih =>
      intro hs s h1
      have hp := hs p (by simp)
      rw [List.foldl_cons, ih (fun q hq => hs q (by simp [hq])) _ (add_one h1 p hp.1 hp.2), act_add h s p h1.drop hp.1 hp.2]
      rfl
  exact key ps hs nst0 ⟨by simp [nst0], by simp [nst0]⟩

theorem ones_sound {ps : List Pt} (h : ∀ p ∈ ps, oneP p) : ∀ p ∈ ps, 0 ≤ p.keep ∧ 0 ≤ p.drop := by
  intro p hp
  rcases h p hp with ⟨h1, h2, h3⟩ | ⟨h1, h2, h3⟩ | ⟨h1, h2, h3⟩ <;> exact ⟨by omega, by omega⟩
end Go.Proofs.YtfedgjnhanlmeabGreatDoor

namespace Go.Proofs.YtfedgjnhanlmeabGreatDoor
set_option linter.unusedVariables false

def measP (la : Pt → Bool) (A : List Pt) : Int := (A.map fun p => if la p then 0 else lengthP p).sum
theorem meas_cons (la : Pt → Bool) (p : Pt) (A : List Pt) : measP la (p :: A) = (if la p then 0 else lengthP p) + measP la A := by simp [measP]
theorem meas_append (la : Pt → Bool) (A B : List Pt) : measP la (A ++ B) = measP la A + measP la B := by simp [measP]
theorem meas_nonneg (la : Pt → Bool) : ∀ (A : List Pt), (∀ p ∈ A, oneP p) → 0 ≤ measP la A
  | [], _ => by simp [measP]
  | p :: A, h => by
    have h1 := length_pos (h p (by simp))
    have h2 := meas_nonneg la A fun q hq => h q (by simp [hq])
    rw [meas_cons]
    split <;> omega
def kindOk (la : Pt → Bool) : Prop := ∀ p (n : Int), oneP p → la p = false → ∀ r ∈ (cutP p n).2, la r = false
theorem kind_put : kindOk isPutP := by
  intro p n hp hl r hr
  have hu : p.put = [] := by simpa [isPutP] using hl
  unfold cutP at hr
  split at hr
  · cases hr
  · split at hr
    · obtain rfl := List.mem_singleton.1 hr; simp [isPutP, hu]
    · split at hr
      · obtain rfl := List.mem_singleton.1 hr; simp [isPutP, hu]
      · obtain rfl := List.mem_singleton.1 hr; simp [isPutP, hu]
def okX (x : Pt × Pt) : Prop := (oneP x.1 ∨ x.1 = noP) ∧ (oneP x.2 ∨ x.2 = noP)
def pairW (l : List (Pt × Pt)) : Int := (l.map fun x => lengthP x.1 + lengthP x.2).sum
theorem meas_cut {la : Pt → Bool} (hk : kindOk la) {p : Pt} (hp : oneP p) (hl : la p = false) {n : Nat} (h0 : 0 < n) (hn : (n : Int) ≤ lengthP p) (A : List Pt) : measP la (p :: A) = n + measP la ((cutP p n).2 ++ A) := by
  rw [meas_cons, meas_append, if_neg (by rw [hl]; simp)]
  obtain ⟨c1, c2, c3, c4⟩ := cut_one hp (n := n) (by omega) hn
  have hkk := hk p n hp hl
  have hlen : (cutP p n).2.length ≤ 1 := by
    unfold cutP
    split
    · simp
    · split
      · simp
      · split <;> simp
  generalize (cutP p n).2 = R at *
  match R, hlen with
  | [], _ => have := c4.1 rfl; simp [measP]; omega
  | [r], _ =>
    have h1 := c3 r (by simp)
    have h2 := hkk r (by simp)
    simp only [measP, List.map_cons, List.map_nil, List.sum_cons, List.sum_nil, h2]
    simp
    omega
theorem side_ok {la lb : Pt → Bool} (hka : kindOk la) (hkb : kindOk lb) : ∀ (f : Nat) (A B : List Pt), (∀ p ∈ A, oneP p ∧ lengthP p < 1000000000) → (∀ p ∈ B, oneP p ∧ lengthP p < 1000000000) → measP la A = measP lb B → weight A + weight B ≤ f →
    Side la lb A B (sideP la lb f A B) ∧ (∀ x ∈ sideP la lb f A B, okX x) ∧ pairW (sideP la lb f A B) = weight A + weight B ∧ (sideP la lb f A B).length ≤ weight A + weight B := by
  have hnil : ∀ (l : List Pt), (∀ p ∈ l, oneP p ∧ lengthP p < 1000000000) → weight l = 0 → l = [] := by
    intro l hl hw
    cases l with
    | nil => rfl
    | cons p l =>
      have := length_pos (hl p (by simp)).1
      rw [weight_cons] at hw
      omega
  have hlen0 : lengthP noP = 0 := by simp [lengthP, noP]
  have hw0 : weight [] = 0 := by simp [weight]
  have hpw : ∀ x l, pairW (x :: l) = lengthP x.1 + lengthP x.2 + pairW l := by intro x l; simp [pairW]
  intro f
  induction f with
  | zero =>
    intro A B ha hb _ hw
    obtain rfl := hnil A ha (by omega)
    obtain rfl := hnil B hb (by omega)
    exact ⟨.nil, by simp [sideP], by simp [sideP, pairW, weight], by simp [sideP]⟩
  | succ f ih =>
    intro A B ha hb hm hw
    cases A with
    | nil =>
      cases B with
      | nil => exact ⟨.nil, by simp [sideP], by simp [sideP, pairW, weight], by simp [sideP]⟩
      | cons q B =>
        have hq := (hb q (by simp)).1
        have hq0 := length_pos hq
        have hb' : ∀ p ∈ B, oneP p ∧ lengthP p < 1000000000 := fun p hp => hb p (by simp [hp])
        have hn2 := meas_nonneg lb B fun p hp => (hb' p hp).1
        have hm' : (0 : Int) = measP lb (q :: B) := hm
        rw [meas_cons] at hm'
        have hl : lb q = true := by
          cases h : lb q with
          | true => rfl
          | false => rw [h] at hm'; simp at hm'; omega
        rw [hl] at hm'
        have e : sideP la lb (f + 1) [] (q :: B) = (noP, q) :: sideP la lb f [] B := by rw [sideP, if_pos hl]
        rw [weight_cons] at hw
        obtain ⟨i1, i2, i3, i4⟩ := ih [] B (by simp) hb' (by simpa [measP] using hm') (by omega)
        rw [e, weight_cons, hpw]
        refine ⟨.last hl i1, ?_, by simp only [hlen0]; omega, by simp only [List.length_cons]; omega⟩
        intro x hx
        rcases List.mem_cons.1 hx with rfl | hx
        · exact ⟨.inr rfl, .inl hq⟩
        · exact i2 x hx
    | cons p A =>
      have hp := (ha p (by simp)).1
      have hp0 := length_pos hp
      have ha' : ∀ p ∈ A, oneP p ∧ lengthP p < 1000000000 := fun q hq => ha q (by simp [hq])
      cases hl : la p with
      | true =>
        have e : sideP la lb (f + 1) (p :: A) B = (p, noP) :: sideP la lb f A B := by cases B <;> (rw [sideP]; rw [if_pos hl])
        rw [meas_cons, hl] at hm
        rw [weight_cons] at hw
        obtain ⟨i1, i2, i3, i4⟩ := ih A B ha' hb (by simpa using hm) (by omega)
        rw [e, weight_cons, hpw]
        refine ⟨.left hl i1, ?_, by simp only [hlen0]; omega, by simp only [List.length_cons]; omega⟩
        intro x hx
        rcases List.mem_cons.1 hx with rfl | hx
        · exact ⟨.inl hp, .inr rfl⟩
        · exact i2 x hx
      | false =>
        have hn1 := meas_nonneg la A fun p hp => (ha' p hp).1
        cases B with
        | nil =>
          rw [meas_cons, hl] at hm
          simp [measP] at hm
          unfold measP at hn1
          omega
        | cons q B =>
          have hq := (hb q (by simp)).1
          have hq0 := length_pos hq
          have hb' : ∀ p ∈ B, oneP p ∧ lengthP p < 1000000000 := fun p hp => hb p (by simp [hp])
          cases hlq : lb q with
          | true =>
            have e : sideP la lb (f + 1) (p :: A) (q :: B) = (noP, q) :: sideP la lb f (p :: A) B := by rw [sideP, if_neg (by rw [hl]; simp), if_pos hlq]
            rw [meas_cons lb, hlq] at hm
            rw [weight_cons q] at hw
            obtain ⟨i1, i2, i3, i4⟩ := ih (p :: A) B ha hb' (by simpa using hm) (by omega)
            rw [e, weight_cons q, hpw]
            refine ⟨.right hl hlq i1, ?_, by simp only [hlen0]; omega, by simp only [List.length_cons]; omega⟩
            intro x hx
            rcases List.mem_cons.1 hx with rfl | hx
            · exact ⟨.inr rfl, .inl hq⟩
            · exact i2 x hx
          | false =>
            obtain ⟨k, hk⟩ : ∃ k : Nat, min (lengthP p) (lengthP q) = (k : Int) := ⟨(min (lengthP p) (lengthP q)).toNat, by omega⟩
            have e : sideP la lb (f + 1) (p :: A) (q :: B) = ((cutP p k).1, (cutP q k).1) :: sideP la lb f ((cutP p k).2 ++ A) ((cutP q k).2 ++ B) := by
              rw [sideP, if_neg (by rw [hl]; simp), if_neg (by rw [hlq]; simp), hk]
            have k0 : 0 < k := by omega
            have kp : (k : Int) ≤ lengthP p := by omega
            have kq : (k : Int) ≤ lengthP q := by omega
            have w1 := (cut_weigh hp k0 kp A).1
            have w2 := (cut_weigh hq k0 kq B).1
            have m1 := meas_cut hka hp hl k0 kp A
            have m2 := meas_cut hkb hq hlq k0 kq B
            obtain ⟨c1, c2, c3, _⟩ := cut_one hp (n := k) (by omega) kp
            obtain ⟨d1, d2, d3, _⟩ := cut_one hq (n := k) (by omega) kq
            have bp := (ha p (by simp)).2
            have bq := (hb q (by simp)).2
            obtain ⟨i1, i2, i3, i4⟩ := ih ((cutP p k).2 ++ A) ((cutP q k).2 ++ B) (fun x hx => by
              rcases List.mem_append.1 hx with hx | hx
              · exact ⟨(c3 x hx).1, by rw [(c3 x hx).2]; omega⟩
              · exact ha' x hx) (fun x hx => by
              rcases List.mem_append.1 hx with hx | hx
              · exact ⟨(d3 x hx).1, by rw [(d3 x hx).2]; omega⟩
              · exact hb' x hx) (by omega) (by omega)
            rw [e, hpw]
            refine ⟨.both k hl hlq hp hq k0 hk bp bq i1, ?_, by simp only [c2, d2]; omega, by simp only [List.length_cons]; omega⟩
            intro x hx
            rcases List.mem_cons.1 hx with rfl | hx
            · exact ⟨.inl c1, .inl d1⟩
            · exact i2 x hx

/-- What is taken of a pair: one part at most, no heavier than the pair. -/
def takeOk (t : Pt × Pt → List Pt) : Prop := ∀ x, okX x → (t x).length ≤ 1 ∧ ∀ p ∈ t x, soundP p ∧ wtP p ≤ lengthP x.1 + lengthP x.2
theorem part_ok {p : Pt} (h : oneP p ∨ p = noP) : soundP p ∧ wtP p = lengthP p ∧ 0 ≤ lengthP p ∧ (p.put.length : Int) ≤ lengthP p := by
  rcases h with h | rfl
  · have h1 := ones_sound (ps := [p]) (by simpa using h) p (by simp)
    refine ⟨h1, rfl, by have := length_pos h; omega, ?_⟩
    unfold lengthP; omega
  · exact ⟨⟨by simp [noP], by simp [noP]⟩, rfl, by simp [lengthP, noP], by simp [lengthP, noP]⟩
theorem take_turn : takeOk turnP := by
  intro x ⟨h1, h2⟩
  obtain ⟨a1, a2, a3, a4⟩ := part_ok h1
  obtain ⟨b1, b2, b3, b4⟩ := part_ok h2
  unfold turnP
  split
  · refine ⟨by simp, fun p hp => ?_⟩
    obtain rfl := List.mem_singleton.1 hp
    refine ⟨⟨by simp, by simp⟩, ?_⟩
    simp only [wtP, List.length_nil]
    omega
  · split
    · refine ⟨by simp, fun p hp => ?_⟩
      obtain rfl := List.mem_singleton.1 hp
      exact ⟨a1, by omega⟩
    · exact ⟨by simp, by simp⟩
theorem take_turn2 : takeOk fun x => turnP (x.2, x.1) := by
  intro x ⟨h1, h2⟩
  have := take_turn (x.2, x.1) ⟨h2, h1⟩
  exact ⟨this.1, fun p hp => ⟨(this.2 p hp).1, by have := (this.2 p hp).2; simp only at this; omega⟩⟩
theorem take_wts {t : Pt × Pt → List Pt} (ht : takeOk t) : ∀ (l : List (Pt × Pt)), (∀ x ∈ l, okX x) → wts (l.flatMap t) ≤ pairW l
  | [], _ => by simp [wts, pairW]
  | x :: l, h => by
    have ih := take_wts ht l fun y hy => h y (by simp [hy])
    obtain ⟨h1, h2⟩ := ht x (h x (by simp))
    have hx := h x (by simp)
    obtain ⟨_, _, a3, _⟩ := part_ok hx.1
    obtain ⟨_, _, b3, _⟩ := part_ok hx.2
    have e : pairW (x :: l) = lengthP x.1 + lengthP x.2 + pairW l := by simp [pairW]
    have e2 : wts (t x) ≤ lengthP x.1 + lengthP x.2 := by
      generalize t x = L at *
      match L, h1 with
      | [], _ => simp [wts]; omega
      | [p], _ => have := (h2 p (by simp)).2; simpa [wts] using this
    rw [List.flatMap_cons, e]
    unfold wts at ih e2 ⊢
    rw [List.map_append, List.sum_append]
    omega
theorem bdS_of {t : Pt × Pt → List Pt} (ht : takeOk t) {l : List (Pt × Pt)} (h : ∀ x ∈ l, okX x) (hw : pairW l < 1000000000) (hl : l.length < 10000000) : BdS t l nst0 0 0 :=
  ⟨bd0, by have := take_wts ht l h; omega, by omega, fun x hx p hp => ((ht x (h x hx)).2 p hp).1, fun x hx => (ht x (h x hx)).1⟩
end Go.Proofs.YtfedgjnhanlmeabGreatDoor
