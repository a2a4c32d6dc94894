/-
  ops.Invert: what takes back what an operation made of a text.
-/
import Derived.Test.YtedonckeomccpaaDoorOpsApp
namespace Go.Proofs.YtedonckeomccpaaDoor
open Go.RowKit
set_option linter.unusedVariables false
attribute [local go_sem] Oper.semAt_some

/-- What takes a part back. -/
def invP (x : Pt × List UInt8) : Pt := if 0 < x.1.keep then x.1 else if 0 < x.1.drop then ⟨0, 0, x.2⟩ else ⟨0, x.1.put.length, []⟩
def invertP (ps : List Pt) (s : List UInt8) : List Pt := normP ((pcs ps s).map invP)
def stI (pre : List (Pt × List UInt8)) : NSt := (pre.map invP).foldl addP nst0
theorem stI_snoc (pre : List (Pt × List UInt8)) (x : Pt × List UInt8) : stI (pre ++ [x]) = addP (stI pre) (invP x) := by simp [stI]

theorem pcs_mem (ps : List Pt) (s : List UInt8) (h : fitsP ps s) : ∀ x ∈ pcs ps s, 0 ≤ x.1.keep ∧ 0 ≤ x.1.drop ∧ x.1.keep + x.1.drop = (x.2.length : Int) := by
  induction ps generalizing s with
  | nil => simp [pcs]
  | cons p ps ih =>
    obtain ⟨h1, h2, h3, h4⟩ := h
    intro x hx
    rw [pcs, List.mem_cons] at hx
    rcases hx with rfl | hx
    · refine ⟨h1, h2, ?_⟩
      show p.keep + p.drop = ((List.take (lenP p).toNat s).length : Int)
      rw [List.length_take]
      unfold lenP at h3 ⊢
      omega
    · exact ih _ h4 x hx
theorem pcs_length (ps : List Pt) (s : List UInt8) : (pcs ps s).length = ps.length := by
  induction ps generalizing s with
  | nil => rfl
  | cons p ps ih => simp [pcs, ih]
theorem inv_ok {x : Pt × List UInt8} (h : 0 ≤ x.1.keep ∧ 0 ≤ x.1.drop ∧ x.1.keep + x.1.drop = (x.2.length : Int)) : soundP (invP x) ∧ wtP (invP x) ≤ 2 * (x.2.length : Int) + (x.1.put.length : Int) := by
  obtain ⟨h1, h2, h3⟩ := h
  unfold invP soundP wtP
  split
  · exact ⟨⟨h1, h2⟩, by omega⟩
  · split
    · exact ⟨⟨by simp, by simp⟩, by simp; omega⟩
    · exact ⟨⟨by simp, by simp⟩, by simp; omega⟩
theorem inv_wts (l : List (Pt × List UInt8)) (h : ∀ x ∈ l, 0 ≤ x.1.keep ∧ 0 ≤ x.1.drop ∧ x.1.keep + x.1.drop = (x.2.length : Int)) : wts (l.map invP) ≤ 2 * (((l.map fun x => x.2.length).sum : Nat) : Int) + (((l.map fun x => x.1.put.length).sum : Nat) : Int) := by
  induction l with
  | nil => simp [wts]
  | cons x l ih =>
    have h1 := (inv_ok (h x (by simp))).2
    have h2 := ih fun y hy => h y (by simp [hy])
    unfold wts at h2 ⊢
    simp only [List.map_cons, List.sum_cons]
    push_cast
    push_cast at h2
    omega
theorem inv_all {ps : List Pt} {s : List UInt8} (h : fitsP ps s) (hT : 2 * s.length + putsP ps < 1000000000) : wts ((pcs ps s).map invP) < 1000000000 := by
  have h1 := inv_wts (pcs ps s) (pcs_mem ps s h)
  have h2 := pcs_len ps s h
  have h3 := congrArg List.sum (pcs_puts ps s)
  unfold putsP at hT
  omega
theorem inv_sound {ps : List Pt} {s : List UInt8} (h : fitsP ps s) : ∀ p ∈ (pcs ps s).map invP, soundP p := by
  intro p hp
  obtain ⟨x, hx, rfl⟩ := List.mem_map.1 hp
  exact (inv_ok (pcs_mem ps s h x hx)).1
theorem inv_bd {ps : List Pt} {s : List UInt8} (h : fitsP ps s) (hT : 2 * s.length + putsP ps < 1000000000) (hl : ps.length < 10000000) {pre rest : List (Pt × List UInt8)} {x : Pt × List UInt8} (e : pcs ps s = (pre ++ [x]) ++ rest) :
    ∃ T n, Bd (stI pre) T n ∧ soundP (invP x) ∧ T + wtP (invP x) < 1000000000 ∧ n < 10000000 := by
  have h1 := inv_all h hT
  have h2 := inv_sound h
  have h3 := pcs_length ps s
  rw [e] at h1 h2 h3
  refine ⟨wts (pre.map invP), (pre.map invP).length, bds _ fun p hp => h2 p ?_, h2 _ (by simp), ?_, ?_⟩
  · rw [List.map_append, List.map_append]
    simp [hp]
  · have h4 := wts_nonneg (ps := rest.map invP) fun p hp => h2 p (by rw [List.map_append]; simp only [List.mem_append]; exact .inr hp)
    unfold wts at h1 h4 ⊢
    simp only [List.map_append, List.sum_append, List.map_cons, List.map_nil, List.sum_cons, List.sum_nil] at h1
    omega
  · simp only [List.length_append, List.length_map, List.length_cons, List.length_nil] at h3 ⊢
    omega

theorem add_bd {M : Nat} (a : Nat) (s : NSt) (p : Pt) (w : World) (h : gath M w a s) {T : Int} {n : Nat} (hB : Bd s T n) (hp : soundP p) (hT : T + wtP p < 1000000000) (hn : n < 10000000) :
    Calls Tryd.prog 135 #[partV p, .pointer (some ⟨a + 1, 0, none⟩), .pointer (some ⟨a + 2, 0, none⟩), .pointer (some ⟨a + 3, 0, none⟩), .pointer (some ⟨a, 0, none⟩)] w fun e w' => (∃ v, e = .returned v) ∧ gath M w' a (addP s p) ∧ BelowG M a w w' := by
  have h1 := hB.put
  have h2 := hB.d0
  have h3 := hB.dT
  have h4 := hB.len
  obtain ⟨p1, p2⟩ := hp
  unfold wtP at hT
  exact add_anyG a s p w h (by omega) h2 (by omega) p2 p1 (by omega) (fun q hq => by have := hB.keep q hq; omega) (by omega)

theorem own_putO {A B : World} {n N e size k : Nat} {v : Value} {xs : List Value} {o : Obj} (h : A.ownsRow N e size v k xs) (hn : A.heap[n]? = some o) (ho : ∀ c t fz, o ≠ .cells c t fz) (hp : Put1 n A B) : B.ownsRow N e size v k xs := by
  obtain ⟨h0, hrow⟩ := h
  refine ⟨h0, ?_⟩
  rcases hrow with hx | ⟨g, cap, cur, rfl, hg, hgg, rest⟩
  · exact .inl hx
  · refine .inr ⟨g, cap, cur, rfl, hg, (hp.block g ?_).trans hgg, rest⟩
    rintro rfl
    rw [hn] at hgg
    exact ho _ _ _ (Option.some.inj hgg)
theorem gath_put {A B : World} {a n : Nat} {s : NSt} {r : Loop} (h : gath (a + 4) A a s) (hn : A.heap[n]? = some (.loop r)) (ha : a + 3 < n) (hp : Put1 n A B) : gath (a + 4) B a s := by
  have hM := h.le
  have hT := h.top
  obtain ⟨⟨p, c, h1, h2⟩, h3, ⟨p', c', h4, h5⟩, h6, h7, h8, h9⟩ := h
  exact ⟨⟨p, c, (hp.cell (by omega)).trans h1, own_put h2 hn hp⟩, (hp.frozen (by omega)).trans h3, ⟨p', c', (hp.cell (by omega)).trans h4, own_put h5 hn hp⟩, (hp.frozen (by omega)).trans h6, (hp.cell (by omega)).trans h7, (hp.frozen (by omega)).trans h8, (hp.cell (by omega)).trans h9, hM, by rw [hp.size]; exact hT⟩

/-- What a round of Invert's loop keeps. -/
structure ivI (w : World) (a β : Nat) (fv v1 v2 : Value) (r : Loop) (st : NSt) (A : World) : Prop where
  below : Below w.heap.size w A
  size : β + 5 ≤ A.heap.size
  g : gath (a + 4) A a st
  h0 : A.heap[β]? = some (.cells #[fv] 153 (0, 0))
  h1 : A.heap[β + 1]? = some (.cells #[v1] 84 (0, 0))
  h2 : A.heap[β + 2]? = some (.cells #[v2] 9 (0, 0))
  h3 : A.heap[β + 3]? = some (.deferred (some []))
  h4 : A.heap[β + 4]? = some (.loop r)
theorem ivI.grow {w : World} {a β : Nat} {fv v1 v2 : Value} {r : Loop} {st : NSt} {A B : World} (h : ivI w a β fv v1 v2 r st A) (hb : Below A.heap.size A B) : ivI w a β fv v1 v2 r st B := by
  have hs := h.size
  exact ⟨h.below.trans (hb.mono h.below.size), Nat.le_trans hs hb.size, gath_below h.g hb, (hb.block β (by omega)).trans h.h0, (hb.block (β + 1) (by omega)).trans h.h1, (hb.block (β + 2) (by omega)).trans h.h2, (hb.block (β + 3) (by omega)).trans h.h3, (hb.block (β + 4) (by omega)).trans h.h4⟩
theorem ivI.put {w : World} {a β : Nat} {fv v1 v2 : Value} {r r' : Loop} {st : NSt} {A B : World} (h : ivI w a β fv v1 v2 r st A) (hw : w.heap.size ≤ β) (ha : a + 4 ≤ β) (hp : Put1 (β + 4) A B) (hl : B.heap[β + 4]? = some (.loop r')) : ivI w a β fv v1 v2 r' st B :=
  ⟨h.below.trans (hp.below (by omega)), by rw [hp.size]; exact h.size, gath_put h.g h.h4 (by omega) hp, (hp.block β (by omega)).trans h.h0, (hp.block (β + 1) (by omega)).trans h.h1, (hp.block (β + 2) (by omega)).trans h.h2, (hp.block (β + 3) (by omega)).trans h.h3, hl⟩
theorem ivI.added {w : World} {a β : Nat} {fv v1 v2 : Value} {r : Loop} {st st' : NSt} {A B : World} (h : ivI w a β fv v1 v2 r st A) (hw : w.heap.size ≤ a) (ha : a + 4 ≤ β) (hg : gath (a + 4) B a st') (hb : BelowG (a + 4) a A B) : ivI w a β fv v1 v2 r st' B :=
  ⟨h.below.trans (hb.below.mono hw), Nat.le_trans h.size hb.size, hg, hb.kept _ _ h.h0 (by omega) (by omega) (by omega) (by intro c fz _ e; cases e) (by intro c fz _ e; cases e), hb.kept _ _ h.h1 (by omega) (by omega) (by omega) (by intro c fz _ e; cases e) (by intro c fz _ e; cases e), hb.kept _ _ h.h2 (by omega) (by omega) (by omega) (by intro c fz _ e; cases e) (by intro c fz _ e; cases e), hb.kept _ _ h.h3 (by omega) (by omega) (by omega) (by intro c fz _ e; cases e) (by intro c fz _ e; cases e), hb.kept _ _ h.h4 (by omega) (by omega) (by omega) (by intro c fz _ e; cases e) (by intro c fz _ e; cases e)⟩
theorem ivI.kept {w : World} {a β : Nat} {fv v1 v2 : Value} {r : Loop} {st st' : NSt} {A B : World} (h : ivI w a β fv v1 v2 r st A) (h' : ivI w a β fv v1 v2 r st' B) (hs : A.heap.size ≤ B.heap.size) :
    Same2 (β + 3) A B ∧ A.heap.size ≤ B.heap.size ∧ ∀ (x : Nat), x = β + 1 ∨ x = β + 1 + 1 ∨ x < w.heap.size → B.heap[x]? = A.heap[x]? := by
  refine ⟨⟨h'.h3.trans h.h3.symm, h'.h4.trans h.h4.symm⟩, hs, ?_⟩
  rintro x (rfl | rfl | hx)
  · exact h'.h1.trans h.h1.symm
  · exact h'.h2.trans h.h2.symm
  · exact (h'.below.block x hx).trans (h.below.block x hx).symm

set_option maxRecDepth 100000 in
set_option maxHeartbeats 2000000 in
theorem Invert_err (v : Value) (ps : List Pt) (s : List UInt8) (w : World) (hT : Lib.Utf8Tabs 0 1 w) (hr : opAt w v ps) (hwf : ∀ p ∈ ps, wfP p) (hs : s.length < 1000000000) (hl : ps.length < 10000000) (he : ordE ps s ≠ 0) :
    Calls Tryd.prog 55 #[v, .string ⟨s.toArray⟩] w fun e w' => e = .returned (.tuple #[.slice none 0 0, errV (ordE ps s)]) ∧ Below w.heap.size w w' := by
  have cC : Hid _ := checkOver_any v ps s w hT hr hwf hs hl
  have hV : errV (ordE ps s) = .iface 23 (.int .i64 (ordE ps s)) := by unfold errV; rw [if_neg he]
  rw [hV] at cC ⊢
  generalize ordE ps s = E at *
  obtain ⟨p, c, rfl, _⟩ := hr
  clear hT hwf hV
  go_enter Tryd.func55, Tryd.ntmps55
  go_wp2_with (first | (go_at_call 99; refine Calls.mono cC.out ?_; rintro e w1 ⟨rfl, hb1⟩) | fail)
  go_ret2
  exact ⟨rfl, hb1⟩

set_option maxRecDepth 100000 in
set_option maxHeartbeats 16000000 in
theorem Invert_fine (v : Value) (ps : List Pt) (s : List UInt8) (w : World) (hT : Lib.Utf8Tabs 0 1 w) (hr : opAt w v ps) (hwf : ∀ p ∈ ps, wfP p) (hs : s.length < 1000000000) (hl : ps.length < 10000000) (hpu : 2 * s.length + putsP ps < 1000000000) (he : chkE ps (s.length : Int) = 0) (hbad : badO ps s = false) :
    Calls Tryd.prog 55 #[v, .string ⟨s.toArray⟩] w fun e w' => ∃ v', e = .returned (.tuple #[v', .nilIface]) ∧ opAt w' v' (invertP ps s) ∧ Below w.heap.size w w' := by
  have cC : Hid _ := checkOver_any v ps s w hT hr hwf hs hl
  obtain ⟨hfit, hleft⟩ := chkE_fits he
  have hV : errV (ordE ps s) = .nilIface := by unfold ordE; rw [if_pos he, hbad]; rfl
  rw [hV] at cC
  have HF : Hid (fitsP ps s) := hfit
  have HR : Hid (opAt w v ps) := hr
  have HSL : Hid (s.length < 1000000000) := hs
  have HLP : Hid (ps.length < 10000000) := hl
  have HPU : Hid (2 * s.length + putsP ps < 1000000000) := hpu
  have hrow : ∀ x o n c, v = .slice (some ⟨x, o, none⟩) n c → ps ≠ [] → x < w.heap.size := by
    intro x o n c e hne
    obtain ⟨p, c', rfl, _, _, h3⟩ := hr
    obtain ⟨b, o', e1, e2, _⟩ := h3 hne
    simp only [Value.slice.injEq] at e
    rw [e.1] at e1
    simp only [Option.some.injEq, Addr.mk.injEq] at e1
    rw [e1.1]; exact e2
  have HROW : Hid _ := hrow
  obtain ⟨p, c, rfl, _⟩ := hr
  clear hT hwf hV hfit hleft hrow he hbad hpu
  have cO := fun (wx : World) => over_any p ps.length c ⟨s.toArray⟩ wx
  refine (callsIn_wide (n := 3)).1 ?_
  refine callsIn_of_wp_marks Tryd.func55 rfl trivial ?_ rfl
  simp only [Tryd.ntmps55, List.size_toArray, List.length_cons, List.length_nil, Nat.reduceAdd, Nat.reduceSub, Array.replicate_succ, Array.replicate_zero, List.push_toArray, List.append_toArray, List.nil_append, List.cons_append]
  gi_wp2_with (first
    | (refine ⟨trivial, ?_⟩; gi_at_call 99; refine (callsIn_wide.2 cC.out).mono ?_; rintro e w1 ⟨rfl, hb1⟩)
    | (refine ⟨trivial, ?_⟩; gi_at_call 97; refine (callsIn_wide.2 (gather_any w1)).mono ?_; rintro e w2 ⟨rfl, hG2, hz2', hb2⟩; have hz2 : Hid (w2.heap.size = w1.heap.size + 4) := hz2'; clear hz2')
    | (refine ⟨trivial, ?_⟩; gi_at_call 100; refine (callsIn_wide.2 (cO _)).mono ?_; rintro e w13 ⟨rfl, rfl⟩)
    | fail)
  obtain ⟨a, ha⟩ : ∃ a, w1.heap.size = a := ⟨_, rfl⟩
  have hlt1 : w.heap.size ≤ a := by rw [← ha]; exact hb1.size
  rw [ha] at hG2 hb2 hz2 ⊢
  obtain ⟨β, hβ⟩ : ∃ β, w2.heap.size = β := ⟨_, rfl⟩
  have hab : a + 4 ≤ β := by have := hz2.out; omega
  have hb12 : Below w.heap.size w w2 := hb1.trans (hb2.mono hlt1)
  obtain ⟨fv, hfv⟩ : ∃ fv, fv = Value.func (.func 135) #[] #[.pointer (some ⟨a + 1, 0, none⟩), .pointer (some ⟨a + 2, 0, none⟩), .pointer (some ⟨a + 3, 0, none⟩), .pointer (some ⟨a, 0, none⟩)] := ⟨_, rfl⟩
  have HFV : Hid (fv = Value.func (.func 135) #[] #[.pointer (some ⟨a + 1, 0, none⟩), .pointer (some ⟨a + 2, 0, none⟩), .pointer (some ⟨a + 3, 0, none⟩), .pointer (some ⟨a, 0, none⟩)]) := hfv
  rw [← hfv]
  clear hfv
  obtain ⟨W4, hW4⟩ : ∃ W4, W4 = ((w2.alloc (.cells #[fv] 153)).alloc (.cells #[.slice p ps.length c] 84)).alloc (.cells #[.string ⟨s.toArray⟩] 9) := ⟨_, rfl⟩
  have hb24 : Below w2.heap.size w2 W4 := by rw [hW4]; exact (((Below.refl _ _).alloc (Nat.le_refl _) _).alloc (by simp) _).alloc (by simp; omega) _
  have hb4 : Below w.heap.size w W4 := hb12.trans (hb24.mono (by omega))
  have hG4 : gath (a + 4) W4 a nst0 := hG2 _ _ hb24 (Nat.le_refl _) (by have := hb24.size; have := hz2.out; omega)
  have hs4 : W4.heap.size = β + 3 := by rw [hW4, ← hβ]; simp
  have q0 : W4.heap[β]? = some (.cells #[fv] 153 (0, 0)) := by rw [hW4, ← hβ]; exact (heap_alloc_old _ _ (by rw [World.size_alloc, World.size_alloc]; omega)).trans ((heap_alloc_old _ _ (by rw [World.size_alloc]; omega)).trans (heap_alloc_new _ _))
  have q1 : W4.heap[β + 1]? = some (.cells #[.slice p ps.length c] 84 (0, 0)) := by rw [hW4, ← hβ]; exact (heap_alloc_old _ _ (by simp)).trans (by have := heap_alloc_new (w2.alloc (.cells #[fv] 153)) (.cells #[.slice p ps.length c] 84); rwa [World.size_alloc] at this)
  have q2 : W4.heap[β + 2]? = some (.cells #[.string ⟨s.toArray⟩] 9 (0, 0)) := by rw [hW4, ← hβ]; have := heap_alloc_new ((w2.alloc (.cells #[fv] 153)).alloc (.cells #[.slice p ps.length c] 84)) (.cells #[.string ⟨s.toArray⟩] 9); rwa [World.size_alloc, World.size_alloc] at this
  rw [← hW4, hβ]
  have HG4 : Hid (gath (a + 4) W4 a nst0) := hG4
  clear hW4 cC cO hb1 hβ hb24 hb2 hG2 hb12 ha hG4
  refine wp_range_ownD (gf := 138) (lb := #[.pointer (some ⟨β + 1 + 1, 0, none⟩), .pointer (some ⟨β + 1, 0, none⟩)]) rfl (enters_of Tryd.func138 (by kernel_rfl) rfl) (encs := fun _ (x : Pt × List UInt8) => #[partV x.1, .string ⟨x.2.toArray⟩]) (fun _ _ => rfl)
    (It := fun A B => Below A.heap.size A B ∧ β + 5 ≤ A.heap.size) (Kp := fun A B => A.heap.size ≤ B.heap.size ∧ ∀ x, (x = β + 1 ∨ x = β + 1 + 1 ∨ x < w.heap.size) → B.heap[x]? = A.heap[x]?) (Z := fun _ => True) (S := fun xs => xs = pcs ps s) (Sp := fun pre => ∃ rest, pcs ps s = pre ++ rest)
    ?seq ?its (fun h k => ⟨Nat.le_trans h.1 k.1, fun x hx => (k.2 x hx).trans (h.2 x hx)⟩) ?hkb
    (fun pre W => ∃ r, ivI w a β fv (.slice p ps.length c) (.string ⟨s.toArray⟩) r (stI pre) W)
    (fun _ _ _ => False) (fun _ _ _ => trivial) (fun _ _ _ h => h.elim) ?ii ?ib (fun _ _ _ _ h _ => h) (fun _ _ _ _ h => h) ?h0 ?round ?done (fun _ _ _ _ h => h.elim)
  case seq =>
    intro W hs1 hb1
    rw [hs4] at hs1 hb1
    have hb9 : Below w.heap.size w W := hb4.trans (hb1.mono (by omega))
    have := over_seq (.slice p ps.length c) ps s HSL.out HLP.out HF.out (fun x => (x = β + 1 ∨ x = β + 1 + 1 ∨ x < w.heap.size)) (β + 1) W (Lib.cell_of_heap ((hb1.block (β + 1) (by omega)).trans q1) 0) (Lib.cell_of_heap ((hb1.block (β + 2) (by omega)).trans q2) 0) (opAt_below HR.out hb9 (Nat.le_refl _)) (.inl rfl) (.inr (.inl rfl)) (fun b o n c' e hne => .inr (.inr (HROW.out b o n c' e hne))) (by rintro x (rfl | rfl | hx) <;> omega) (fun _ => True)
    rw [hs1] at this
    exact this
  case its => exact fun A B h => Same2.of_below h.1 (by rw [hs4]; omega)
  case hkb =>
    intro A r
    rw [hs4]
    exact ⟨by simp, fun x hx => World.putObj_heap_other (by omega)⟩
  case ii => exact fun pre A B h hb => by obtain ⟨r, h⟩ := h; exact ⟨r, h.grow hb.1⟩
  case ib =>
    rintro pre A r ⟨r0, h⟩
    rw [hs4]
    exact ⟨r, h.put (Nat.le_trans hlt1 (by omega)) hab (Put1.putObj _ _ _) (World.putObj_heap_same (by have := h.size; omega))⟩
  case h0 =>
    rintro W hs hb ⟨r, hr⟩ hd
    rw [hs4] at hs hb hr hd
    exact ⟨r, hb4.trans (hb.mono (by omega)), by omega, gath_below HG4.out (by rw [hs4]; exact hb), (hb.block β (by omega)).trans q0, (hb.block (β + 1) (by omega)).trans q1, (hb.block (β + 2) (by omega)).trans q2, hd, hr⟩
  case round =>
    rintro l pre ⟨q, T⟩ W ⟨r0, hI⟩ hlW ⟨rest, hSp⟩
    rw [hs4] at hlW ⊢
    obtain ⟨N0, n0, hBd, hso, hTT, hn0⟩ := inv_bd HF.out HPU.out HLP.out hSp
    have cA : Hid (∀ wx, gath (a + 4) wx a (stI pre) → Calls Tryd.prog 135 #[partV (invP (q, T)), .pointer (some ⟨a + 1, 0, none⟩), .pointer (some ⟨a + 2, 0, none⟩), .pointer (some ⟨a + 3, 0, none⟩), .pointer (some ⟨a, 0, none⟩)] wx fun e w' => (∃ v, e = .returned v) ∧ gath (a + 4) w' a (stI (pre ++ [(q, T)])) ∧ BelowG (a + 4) a wx w') := fun wx hg => by
      rw [stI_snoc]; exact add_bd a (stI pre) (invP (q, T)) wx hg hBd hso hTT hn0
    have HI : Hid (ivI w a β fv (.slice p ps.length c) (.string ⟨s.toArray⟩) r0 (stI pre) W) := hI
    have cK := isKeep_any q
    have cD := isDrop_any q
    unfold partV at cK cD cA ⊢
    clear hI hSp q0 q1 q2 hb4 hBd hso hTT hn0
    gi_wp2
    refine ⟨(Same2.refl _ W).alloc (by omega) _, ⟨by simp, fun x hx => heap_alloc_old _ _ (by omega)⟩, ?_⟩
    intro w2 hp ⟨r, hr⟩
    have hI1 := HI.out.grow (B := W.alloc (.cells #[.int .i64 q.keep, .int .i64 q.drop, .string ⟨q.put.toArray⟩] 151)) ((Below.refl _ _).alloc (Nat.le_refl _) _)
    have hI2 := hI1.put (Nat.le_trans hlt1 (by omega)) hab hp hr
    have HI2 : Hid (ivI w a β fv (.slice p ps.length c) (.string ⟨s.toArray⟩) r (stI pre) w2) := hI2
    have hbx : w2.heap[W.heap.size]? = some (.cells #[.int .i64 q.keep, .int .i64 q.drop, .string ⟨q.put.toArray⟩] 151 (0, 0)) := (hp.block W.heap.size (by omega)).trans (heap_alloc_new _ _)
    have HBX : Hid (w2.heap[W.heap.size]? = some (.cells #[.int .i64 q.keep, .int .i64 q.drop, .string ⟨q.put.toArray⟩] 151 (0, 0))) := hbx
    have x0 : w2.cell? ⟨W.heap.size, 0, none⟩ = some (.int .i64 q.keep) := Lib.cell_of_heap hbx 0
    have x1 : w2.cell? ⟨W.heap.size, 1, none⟩ = some (.int .i64 q.drop) := Lib.cell_of_heap hbx 1
    have x2 : w2.cell? ⟨W.heap.size, 2, none⟩ = some (.string ⟨q.put.toArray⟩) := Lib.cell_of_heap hbx 2
    clear hp hr hbx hI1 hI2
    by_cases hk : 0 < q.keep
    · have hkd : decide (0 < q.keep) = true := decide_eq_true hk
      have hi : invP (q, T) = q := by unfold invP; rw [if_pos hk]
      rw [hkd] at cK
      rw [hi] at cA
      clear hk hkd hi cD
      gi_wp2_with (first
        | (refine ⟨trivial, rfl, ?_⟩; gi_at_call 101; refine (CallsIn.inRound l (callsIn_wide.2 (cK _))).mono ?_; rintro e w3 ⟨rfl, hb3⟩; have hI3 := HI2.out.grow hb3; have hx3 := (hb3.block W.heap.size (World.block_lt_of_cell? w2 _ x0)).trans HBX.out; have y0 : w3.cell? ⟨W.heap.size, 0, none⟩ = some (.int .i64 q.keep) := Lib.cell_of_heap hx3 0; have y1 : w3.cell? ⟨W.heap.size, 1, none⟩ = some (.int .i64 q.drop) := Lib.cell_of_heap hx3 1; have y2 : w3.cell? ⟨W.heap.size, 2, none⟩ = some (.string ⟨q.put.toArray⟩) := Lib.cell_of_heap hx3 2; have yf : w3.cell? ⟨β, 0, none⟩ = some fv := Lib.cell_of_heap hI3.h0 0; rw [HFV.out] at yf)
        | (refine ⟨trivial, rfl, ?_⟩; gi_at_call 135; refine (CallsIn.inRound l (callsIn_wide.2 (cA.out _ hI3.g))).mono ?_; rintro e w4 ⟨⟨v4, rfl⟩, hg4, hb4⟩)
        | fail)
      have hI4 := hI3.added hlt1 hab hg4 hb4
      have hK := HI2.out.kept hI4 (Nat.le_trans hb3.size hb4.size)
      exact ⟨hK.1, hK.2, r, hI4⟩
    have hkd : decide (0 < q.keep) = false := decide_eq_false hk
    rw [hkd] at cK
    by_cases hd : 0 < q.drop
    · have hdd : decide (0 < q.drop) = true := decide_eq_true hd
      have hi : invP (q, T) = ⟨0, 0, T⟩ := by unfold invP; rw [if_neg hk, if_pos hd]
      rw [hdd] at cD
      rw [hi] at cA
      clear hk hkd hi hd hdd
      gi_wp2_with (first
        | (refine ⟨trivial, rfl, ?_⟩; gi_at_call 101; refine (CallsIn.inRound l (callsIn_wide.2 (cK _))).mono ?_; rintro e w3 ⟨rfl, hb3⟩; have hI3 := HI2.out.grow hb3; have hx3 := (hb3.block W.heap.size (World.block_lt_of_cell? w2 _ x0)).trans HBX.out; have y0 : w3.cell? ⟨W.heap.size, 0, none⟩ = some (.int .i64 q.keep) := Lib.cell_of_heap hx3 0; have y1 : w3.cell? ⟨W.heap.size, 1, none⟩ = some (.int .i64 q.drop) := Lib.cell_of_heap hx3 1; have y2 : w3.cell? ⟨W.heap.size, 2, none⟩ = some (.string ⟨q.put.toArray⟩) := Lib.cell_of_heap hx3 2)
        | (refine ⟨trivial, rfl, ?_⟩; gi_at_call 102; refine (CallsIn.inRound l (callsIn_wide.2 (cD _))).mono ?_; rintro e w4 ⟨rfl, hb4⟩; have hI4 := hI3.grow hb4; have hx4 := (hb4.block W.heap.size (World.block_lt_of_cell? w3 _ y0)).trans hx3; have z2 : w4.cell? ⟨W.heap.size, 2, none⟩ = some (.string ⟨q.put.toArray⟩) := Lib.cell_of_heap hx4 2; have yf : w4.cell? ⟨β, 0, none⟩ = some fv := Lib.cell_of_heap hI4.h0 0; rw [HFV.out] at yf)
        | (refine ⟨trivial, rfl, ?_⟩; gi_at_call 135; refine (CallsIn.inRound l (callsIn_wide.2 (cA.out _ hI4.g))).mono ?_; rintro e w5 ⟨⟨v5, rfl⟩, hg5, hb5⟩)
        | fail)
      have hI5 := hI4.added hlt1 hab hg5 hb5
      have hK := HI2.out.kept hI5 (Nat.le_trans hb3.size (Nat.le_trans hb4.size hb5.size))
      exact ⟨hK.1, hK.2, r, hI5⟩
    · have hdd : decide (0 < q.drop) = false := decide_eq_false hd
      have hi : invP (q, T) = ⟨0, q.put.length, []⟩ := by unfold invP; rw [if_neg hk, if_neg hd]
      have hpe : ByteArray.mk ([] : List UInt8).toArray = ⟨#[]⟩ := rfl
      rw [hdd] at cD
      rw [hi] at cA
      clear hk hkd hi hd hdd
      gi_wp2_with (first
        | (refine ⟨trivial, rfl, ?_⟩; gi_at_call 101; refine (CallsIn.inRound l (callsIn_wide.2 (cK _))).mono ?_; rintro e w3 ⟨rfl, hb3⟩; have hI3 := HI2.out.grow hb3; have hx3 := (hb3.block W.heap.size (World.block_lt_of_cell? w2 _ x0)).trans HBX.out; have y0 : w3.cell? ⟨W.heap.size, 0, none⟩ = some (.int .i64 q.keep) := Lib.cell_of_heap hx3 0; have y1 : w3.cell? ⟨W.heap.size, 1, none⟩ = some (.int .i64 q.drop) := Lib.cell_of_heap hx3 1; have y2 : w3.cell? ⟨W.heap.size, 2, none⟩ = some (.string ⟨q.put.toArray⟩) := Lib.cell_of_heap hx3 2)
        | (refine ⟨trivial, rfl, ?_⟩; gi_at_call 102; refine (CallsIn.inRound l (callsIn_wide.2 (cD _))).mono ?_; rintro e w4 ⟨rfl, hb4⟩; have hI4 := hI3.grow hb4; have hx4 := (hb4.block W.heap.size (World.block_lt_of_cell? w3 _ y0)).trans hx3; have z2 : w4.cell? ⟨W.heap.size, 2, none⟩ = some (.string ⟨q.put.toArray⟩) := Lib.cell_of_heap hx4 2; have yf : w4.cell? ⟨β, 0, none⟩ = some fv := Lib.cell_of_heap hI4.h0 0; rw [HFV.out] at yf)
        | (refine ⟨trivial, rfl, ?_⟩; gi_at_call 135; refine (CallsIn.inRound l (callsIn_wide.2 (cA.out _ hI4.g))).mono ?_; rintro e w5 ⟨⟨v5, rfl⟩, hg5, hb5⟩)
        | fail)
      have hI5 := hI4.added hlt1 hab hg5 hb5
      have hK := HI2.out.kept hI5 (Nat.le_trans hb3.size (Nat.le_trans hb4.size hb5.size))
      exact ⟨hK.1, hK.2, r, hI5⟩
  case done =>
    rintro xs W rfl ⟨r, hI⟩ hDef
    rw [hs4] at hDef ⊢
    have HI : Hid (ivI w a β fv (.slice p ps.length c) (.string ⟨s.toArray⟩) r (stI (pcs ps s)) W) := hI
    have cE : Hid _ := done_anyG a (stI (pcs ps s)) W hI.g (by
      have hB := bds _ (inv_sound HF.out)
      have h1 := hB.len
      rw [List.length_map, pcs_length] at h1
      have h2 := HLP.out
      show (List.foldl addP nst0 _).out.length < _
      omega) (by
      have hB := bds _ (inv_sound HF.out)
      have h1 := hB.put
      have h2 := inv_all HF.out HPU.out
      show (List.foldl addP nst0 _).put.length < _
      omega)
    clear hI q0 q1 q2 hb4
    gi_wp2_with (first
      | (refine ⟨trivial, ?_⟩; gi_at_call 136; refine (callsIn_wide.2 cE.out).mono ?_; rintro e w6 ⟨v6, rfl, ho6, hb6⟩)
      | fail)
    have hDef6 := hb6.kept _ _ hDef (by omega) (by omega) (by omega) (by intro c fz _ e; cases e) (by intro c fz _ e; cases e)
    have hP := Put1.putObj (β + 3) w6 (.deferred none)
    have ho7 := own_putO ho6 hDef6 (by intro c t fz e; cases e) hP
    refine ⟨by simp, .inl ⟨_, _, rfl, run_takeDeferred hDef6, ?_⟩⟩
    exact ⟨.tuple #[v6, .nilIface], by simp [results, Tryd.results55, go_sem], ⟨v6, rfl, opAt_own ho7, (HI.out.below.trans (hb6.below.mono hlt1)).trans (hP.below (by omega))⟩⟩

theorem Invert_any (v : Value) (ps : List Pt) (s : List UInt8) (w : World) (hT : Lib.Utf8Tabs 0 1 w) (hr : opAt w v ps) (hwf : ∀ p ∈ ps, wfP p) (hs : s.length < 1000000000) (hl : ps.length < 10000000) (hpu : 2 * s.length + putsP ps < 1000000000) :
    Calls Tryd.prog 55 #[v, .string ⟨s.toArray⟩] w fun e w' => ∃ v', e = .returned (.tuple #[v', errV (ordE ps s)]) ∧ opAt w' v' (if ordE ps s = 0 then invertP ps s else []) ∧ Below w.heap.size w w' := by
  by_cases he : ordE ps s = 0
  · rw [if_pos he, he]
    have hc : chkE ps (s.length : Int) = 0 ∧ badO ps s = false := by
      unfold ordE at he
      split at he
      · rename_i h
        refine ⟨h, ?_⟩
        cases hb : badO ps s with
        | false => rfl
        | true => rw [hb] at he; simp at he
      · rename_i h; exact absurd he h
    exact Invert_fine v ps s w hT hr hwf hs hl hpu hc.1 hc.2
  · rw [if_neg he]
    exact (Invert_err v ps s w hT hr hwf hs hl he).mono fun e w' h => ⟨_, h.1, ⟨none, 0, rfl, by simp, by simp⟩, h.2⟩
end Go.Proofs.YtedonckeomccpaaDoor
