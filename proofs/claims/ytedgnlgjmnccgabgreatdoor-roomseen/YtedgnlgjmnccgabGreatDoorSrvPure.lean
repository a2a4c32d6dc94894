/-
  Operations over texts (pure): what has no error over a text is good; what is turned over another one is sound, and over what that one makes.
-/
import Derived.Test.YtedgnlgjmnccgabGreatDoorOpsGoodL
import Derived.Test.YtedgnlgjmnccgabGreatDoorOpsGather
import Derived.Laws.EntriesVeiled
import Derived.Test.YtedgnlgjmnccgabGreatDoorOpsBoth
import Derived.Deep.LoopGhost
import Derived.Test.YtedgnlgjmnccgabGreatDoorOpsTransE
import Derived.Deep.Cut
namespace Go.Proofs.YtedgnlgjmnccgabGreatDoor
set_option linter.unusedVariables false

theorem rest_start : ∀ (ps : List Pt) (t : List UInt8), (∀ p ∈ ps, 0 ≤ lenP p) → longP ps = t.length → badO ps t = false → badPiece t = false
  | [], t, _, hl, _ => by
    have : t = [] := List.eq_nil_of_length_eq_zero (by simp [longP] at hl; omega)
    rw [this]; rfl
  | p :: ps, t, h, hl, hb => by
    have h0 := h p (by simp)
    rw [badO, Bool.or_eq_false_iff] at hb
    by_cases hz : lenP p = 0
    · have e : (lenP p).toNat = 0 := by omega
      rw [e, List.drop_zero] at hb
      exact rest_start ps t (fun q hq => h q (by simp [hq])) (by rw [long_cons] at hl; omega) hb.2
    · cases t with
      | nil => rfl
      | cons b t =>
        obtain ⟨n, hn⟩ : ∃ n, (lenP p).toNat = n + 1 := ⟨(lenP p).toNat - 1, by omega⟩
        rw [hn] at hb
        exact hb.1
theorem V_cut {t : List UInt8} {n : Nat} (hV : V t) (hn : n ≤ t.length) (hb : badPiece (t.drop n) = false) : V (t.take n) := by
  obtain ⟨rs, hr, rfl⟩ := hV
  rcases Nat.lt_or_ge n (encs rs).length with h | h
  · have h1 : (encs rs)[n]? = some (encs rs)[n] := List.getElem?_eq_getElem h
    have h2 : (encs rs).drop n = (encs rs)[n] :: (encs rs).drop (n + 1) := List.drop_eq_getElem_cons h
    rw [h2] at hb
    have h3 : startB (encs rs)[n] = true := by simpa [badPiece, startO, startB] using hb
    obtain ⟨k, hk, e⟩ := edgeAt_of_start hr h1 h3
    have e2 : encs rs = encs (rs.take k) ++ encs (rs.drop k) := by rw [← encs_append, List.take_append_drop]
    refine ⟨rs.take k, fun r hx => hr r (List.mem_of_mem_take hx), ?_⟩
    conv => lhs; rw [e2, e]
    rw [List.take_left']; rfl
  · rw [List.take_of_length_le h]; exact ⟨rs, hr, rfl⟩
theorem al_of : ∀ (ps : List Pt) (t : List UInt8), V t → (∀ p ∈ ps, V p.put) → (∀ p ∈ ps, 0 ≤ lenP p) → longP ps = t.length → badO ps t = false → al ps t
  | [], _, _, _, _, _, _ => trivial
  | p :: ps, t, hV, hp, h, hl, hb => by
    have h0 := h p (by simp)
    have h' : ∀ q ∈ ps, 0 ≤ lenP q := fun q hq => h q (by simp [hq])
    have hs : 0 ≤ longP ps := by
      clear hl hb hp h
      induction ps with
      | nil => simp [longP]
      | cons q ps ih => rw [long_cons]; have := h' q (by simp); have := ih (fun x hx => h' x (by simp [hx])); omega
    rw [long_cons] at hl
    rw [badO, Bool.or_eq_false_iff] at hb
    have hn : (lenP p).toNat ≤ t.length := by omega
    have hd : longP ps = (t.drop (lenP p).toNat).length := by rw [List.length_drop]; omega
    have hc := V_cut hV hn (rest_start ps _ h' hd hb.2)
    exact ⟨hp p (by simp), hc, al_of ps _ (V_take hV hc) (fun q hq => hp q (by simp [hq])) h' hd hb.2⟩
theorem chk2_longS : ∀ {ps : List Pt} {N : Int}, (∀ q ∈ ps, 0 ≤ lenP q) → chk2 ps N = 0 → longP ps = N
  | [], N, _, h => by
    unfold chk2 at h
    split at h
    · rename_i e; simp [longP, e]
    · cases h
  | p :: ps, N, hl, h => by
    unfold chk2 at h
    split at h
    · cases h
    · have := chk2_longS (fun q hq => hl q (by simp [hq])) h
      rw [long_cons, this]; unfold lenP; omega
theorem chk_sound2 {ps : List Pt} {N : Int} (h : chkE ps N = 0) : (∀ p ∈ ps, oneB p = true ∧ (scan p.put).2 = true) ∧ longP ps = N ∧ ∀ q ∈ ps, 0 ≤ lenP q := by
  unfold chkE at h
  split at h
  · rename_i h1
    have h2 := chk1_ones h1
    have h3 : ∀ q ∈ ps, 0 ≤ lenP q := fun q hq => by
      have := (one_sound (h2 q hq).1).1
      unfold soundP at this; unfold lenP; omega
    exact ⟨h2, chk2_longS h3 h, h3⟩
  · rename_i h1; exact absurd h h1
theorem one_ofB {q : Pt} (h : oneB q = true) : oneP q := by
  obtain ⟨K, D, U⟩ := q
  unfold oneB at h
  unfold oneP
  simp only at h ⊢
  split at h
  · rename_i e; exact .inl ⟨of_decide_eq_true h, e.1, e.2⟩
  · rename_i e1
    split at h
    · rename_i e; exact .inr (.inl ⟨e.1, of_decide_eq_true h, e.2⟩)
    · rename_i e2
      have h3 := of_decide_eq_true h
      exact .inr (.inr ⟨h3.1, h3.2, fun e => e2 ⟨h3.1, e⟩⟩)
theorem good_of_ord {ps : List Pt} {t : List UInt8} (hV : V t) (h : ordE ps t = 0) : good ps t := by
  unfold ordE at h
  by_cases hc : chkE ps (t.length : Int) = 0
  · rw [if_pos hc] at h
    have hb : badO ps t = false := by
      cases e : badO ps t with
      | false => rfl
      | true => rw [e] at h; cases h
    obtain ⟨h1, h2, h3⟩ := chk_sound2 hc
    exact ⟨fun p hp => one_ofB (h1 p hp).1, h2, al_of ps t hV (fun p hp => V_of_scan (h1 p hp).2) h3 h2 hb⟩
  · rw [if_neg hc] at h; exact absurd h hc

/-! gaps -/
def gsum (y : List (List UInt8 × Bool)) (yl : List UInt8) : Int := (y.map fun x => (x.1.length : Int) + if x.2 then 0 else 1).sum + yl.length
def psum (y : List (List UInt8 × Bool)) (yl : List UInt8) : Nat := (y.map fun x => x.1.length).sum + yl.length
def Vg (y : List (List UInt8 × Bool)) (yl : List UInt8) : Prop := (∀ x ∈ y, V x.1) ∧ V yl
theorem docT_long (F : Bool) : ∀ (x : List (List UInt8 × Bool)) (xl : List UInt8) (y : List (List UInt8 × Bool)) (yl : List UInt8), x.length = y.length → longP (docT F x xl y yl) = gsum y yl
  | [], xl, [], yl, _ => by
    cases F <;> simp [docT, gsum, longP, lenP]
  | [], _, _ :: _, _, h => by simp at h
  | _ :: _, _, [], _, h => by simp at h
  | (u, d) :: x, xl, (v, e) :: y, yl, h => by
    have ih := docT_long F x xl y yl (by simpa using h)
    rw [docT, long_append, long_append, ih]
    have hs : gsum ((v, e) :: y) yl = ((v.length : Int) + if e then 0 else 1) + gsum y yl := by simp [gsum]; omega
    rw [hs]
    have h1 : longP (if F then [⟨0, 0, u⟩, ⟨(v.length : Int), 0, []⟩] else [⟨(v.length : Int), 0, []⟩, ⟨0, 0, u⟩]) = v.length := by cases F <;> simp [longP, lenP]
    have h2 : longP (if e then [] else [unitP d]) = if e then 0 else 1 := by cases e <;> cases d <;> simp [longP, lenP, unitP]
    rw [h1, h2]
theorem docT_puts (F : Bool) : ∀ (x : List (List UInt8 × Bool)) (xl : List UInt8) (y : List (List UInt8 × Bool)) (yl : List UInt8), x.length = y.length → putsP (docT F x xl y yl) = psum x xl
  | [], xl, [], yl, _ => by
    cases F <;> simp [docT, psum, putsP]
  | [], _, _ :: _, _, h => by simp at h
  | _ :: _, _, [], _, h => by simp at h
  | (u, d) :: x, xl, (v, e) :: y, yl, h => by
    have ih := docT_puts F x xl y yl (by simpa using h)
    rw [docT, puts_append, puts_append, ih]
    have hs : psum ((u, d) :: x) xl = u.length + psum x xl := by simp [psum]; omega
    rw [hs]
    have h1 : putsP (if F then [⟨0, 0, u⟩, ⟨(v.length : Int), 0, []⟩] else [⟨(v.length : Int), 0, []⟩, ⟨0, 0, u⟩]) = u.length := by cases F <;> simp [putsP]
    have h2 : putsP (if e then [] else [unitP d]) = 0 := by cases e <;> cases d <;> simp [putsP, unitP]
    rw [h1, h2]; omega
/-- A part as parts are made. -/
def nearP (p : Pt) : Prop := 0 ≤ p.keep ∧ 0 ≤ p.drop ∧ (p.keep = 0 ∨ (p.drop = 0 ∧ p.put = [])) ∧ V p.put
theorem docT_near (F : Bool) : ∀ (x : List (List UInt8 × Bool)) (xl : List UInt8) (y : List (List UInt8 × Bool)) (yl : List UInt8), Vg x xl → ∀ p ∈ docT F x xl y yl, nearP p
  | [], xl, y, yl, h, p, hp => by
    have hp : p ∈ (if F then [⟨0, 0, xl⟩, ⟨(yl.length : Int), 0, []⟩] else [⟨(yl.length : Int), 0, []⟩, ⟨0, 0, xl⟩] : List Pt) := by cases y <;> exact hp
    have h1 : nearP ⟨0, 0, xl⟩ := ⟨Int.le_refl _, Int.le_refl _, .inl rfl, h.2⟩
    have h2 : nearP ⟨(yl.length : Int), 0, []⟩ := ⟨Int.natCast_nonneg _, Int.le_refl _, .inr ⟨rfl, rfl⟩, V_nil⟩
    cases F <;> simp at hp <;> rcases hp with rfl | rfl <;> assumption
  | (u, d) :: x, xl, [], yl, h, p, hp => by
    have hp : p ∈ (if F then [⟨0, 0, xl⟩, ⟨(yl.length : Int), 0, []⟩] else [⟨(yl.length : Int), 0, []⟩, ⟨0, 0, xl⟩] : List Pt) := hp
    have h1 : nearP ⟨0, 0, xl⟩ := ⟨Int.le_refl _, Int.le_refl _, .inl rfl, h.2⟩
    have h2 : nearP ⟨(yl.length : Int), 0, []⟩ := ⟨Int.natCast_nonneg _, Int.le_refl _, .inr ⟨rfl, rfl⟩, V_nil⟩
    cases F <;> simp at hp <;> rcases hp with rfl | rfl <;> assumption
  | (u, d) :: x, xl, (v, e) :: y, yl, h, p, hp => by
    have ih := docT_near F x xl y yl ⟨fun z hz => h.1 z (by simp [hz]), h.2⟩
    rw [docT] at hp
    have h1 : nearP ⟨0, 0, u⟩ := ⟨Int.le_refl _, Int.le_refl _, .inl rfl, h.1 (u, d) (by simp)⟩
    have h2 : nearP ⟨(v.length : Int), 0, []⟩ := ⟨Int.natCast_nonneg _, Int.le_refl _, .inr ⟨rfl, rfl⟩, V_nil⟩
    have h3 : nearP (unitP d) := by
      cases d
      · exact ⟨by decide, by decide, .inr ⟨rfl, rfl⟩, V_nil⟩
      · exact ⟨by decide, by decide, .inl rfl, V_nil⟩
    rcases List.mem_append.1 hp with hp | hp
    · rcases List.mem_append.1 hp with hp | hp
      · cases F <;> simp at hp <;> rcases hp with rfl | rfl <;> assumption
      · cases e <;> simp at hp
        rw [hp]; exact h3
    · exact ih p hp
theorem gaps_sums : ∀ (ps : List Pt) (acc : List UInt8), (∀ p ∈ ps, oneP p) → gsum (gapsR acc ps).1 (gapsR acc ps).2 = acc.length + (ps.map isP).sum ∧ psum (gapsR acc ps).1 (gapsR acc ps).2 = acc.length + putsP ps
  | [], acc, _ => by simp [gapsR, gsum, psum, putsP]
  | p :: ps, acc, h => by
    have h' : ∀ q ∈ ps, oneP q := fun q hq => h q (by simp [hq])
    rcases one_cases (h p (by simp)) with ⟨u, _, rfl⟩ | ⟨d, n, rfl⟩
    · obtain ⟨i1, i2⟩ := gaps_sums ps (acc ++ u) h'
      rw [gaps_put, i1, i2]
      have e1 : (List.map isP (⟨0, 0, u⟩ :: ps)).sum = u.length + (ps.map isP).sum := by simp [isP]
      have e2 : putsP (⟨0, 0, u⟩ :: ps) = u.length + putsP ps := by simp [putsP]
      rw [e1, e2, List.length_append]
      exact ⟨by omega, by omega⟩
    · obtain ⟨i1, i2⟩ := gaps_sums ps [] h'
      rw [gaps_unit]
      have e1 : (List.map isP (unitK d (n + 1) :: ps)).sum = (if d then 0 else ((n : Int) + 1)) + (ps.map isP).sum := by cases d <;> simp [isP, unitK]
      have e2 : putsP (unitK d (n + 1) :: ps) = putsP ps := by cases d <;> simp [putsP, unitK]
      have r1 : ∀ k : Nat, ((List.replicate k (([] : List UInt8), d)).map fun x => (x.1.length : Int) + if x.2 then 0 else 1).sum = if d then 0 else (k : Int) := by
        intro k
        induction k with
        | zero => cases d <;> simp
        | succ k ih => rw [List.replicate_succ, List.map_cons, List.sum_cons, ih]; cases d <;> simp <;> omega
      have r2 : ∀ k : Nat, ((List.replicate k (([] : List UInt8), d)).map fun x => x.1.length).sum = 0 := by
        intro k
        induction k with
        | zero => rfl
        | succ k ih => rw [List.replicate_succ, List.map_cons, List.sum_cons, ih]; rfl
      rw [e1, e2]
      unfold gsum at i1 ⊢
      unfold psum at i2 ⊢
      simp only [List.map_append, List.sum_append, List.map_cons, List.sum_cons, List.cons_append, r1, r2, List.length_nil] at i1 i2 ⊢
      constructor
      · cases d <;> simp at * <;> omega
      · omega
theorem gaps_V : ∀ (ps : List Pt) (acc : List UInt8), (∀ p ∈ ps, oneP p) → (∀ p ∈ ps, V p.put) → V acc → Vg (gapsR acc ps).1 (gapsR acc ps).2
  | [], acc, _, _, ha => ⟨fun x hx => (by cases hx), ha⟩
  | p :: ps, acc, h, hv, ha => by
    have h' : ∀ q ∈ ps, oneP q := fun q hq => h q (by simp [hq])
    have hv' : ∀ q ∈ ps, V q.put := fun q hq => hv q (by simp [hq])
    rcases one_cases (h p (by simp)) with ⟨u, _, rfl⟩ | ⟨d, n, rfl⟩
    · rw [gaps_put]
      exact gaps_V ps (acc ++ u) h' hv' (V_append ha (hv ⟨0, 0, u⟩ (by simp)))
    · obtain ⟨i1, i2⟩ := gaps_V ps [] h' hv' V_nil
      rw [gaps_unit]
      refine ⟨fun x hx => ?_, i2⟩
      rcases List.mem_append.1 hx with hx | hx
      · rcases List.mem_cons.1 hx with rfl | hx
        · exact ha
        · rw [(List.mem_replicate.1 hx).2]; exact V_nil
      · exact i1 x hx
theorem fold_cut : ∀ (ps : List Pt) (s : NSt), (∀ p ∈ ps, nearP p) → CutS (fun _ => True) s → CutS (fun _ => True) (ps.foldl addP s)
  | [], s, _, h => h
  | p :: ps, s, hp, h => by
    obtain ⟨k1, k2, k3, k4⟩ := hp p (by simp)
    exact fold_cut ps (addP s p) (fun q hq => hp q (by simp [hq])) (cut_add h p k1 k2 k3 k4 trivial)
theorem norm_V {ps : List Pt} (h : ∀ p ∈ ps, nearP p) : ∀ p ∈ normP ps, V p.put := by
  have h0 : CutS (fun _ => True) nst0 := ⟨trivial, trivial, fun p hp => (by cases hp), V_nil, ⟨fun p hp => (by cases hp), Int.le_refl _⟩⟩
  exact (cut_tell (fold_cut ps nst0 h h0)).2
theorem near_one {p : Pt} (h : oneP p) (hv : V p.put) : nearP p := by
  obtain ⟨k1, k2, k3⟩ := one_kind h
  exact ⟨k1, k2, k3, hv⟩
/-- What is turned: sound, over what the other one makes, and puts as much. -/
theorem trans_inv (F : Bool) {a b : List Pt} (fa : fineP a) (fb : fineP b) (va : ∀ p ∈ a, V p.put) (hl : longP a = longP b) :
    (∀ p ∈ tellP (transS F a b), oneP p) ∧ (∀ p ∈ tellP (transS F a b), V p.put) ∧ longP (tellP (transS F a b)) = (b.map isP).sum ∧ putsP (tellP (transS F a b)) = putsP a := by
  have sa := ones_sound fa.one
  have sb := ones_sound fb.one
  have na := norm_one a sa
  have nb := norm_one b sb
  have hU : lensU (normP a) = lensU (normP b) := by
    have h1 := lensU_long (normP a) (ones_sound na)
    have h2 := lensU_long (normP b) (ones_sound nb)
    rw [norm_long] at h1 h2
    omega
  have key : ∃ x xl y yl, tellP (transS F a b) = normP (docT F x xl y yl) ∧ x.length = y.length ∧ gsum y yl = (b.map isP).sum ∧ psum x xl = putsP a ∧ Vg x xl := by
    refine ⟨(gapsR [] (normP a)).1, (gapsR [] (normP a)).2, (gapsR [] (normP b)).1, (gapsR [] (normP b)).2, ?_, hU, ?_, ?_, ?_⟩
    · unfold transS normP
      cases F with
      | true => rw [if_pos rfl]; exact congrArg tellP (turn_first _ (normP a) (normP b) nst0 na nb hU (Nat.le_refl _))
      | false => rw [if_neg (by decide)]; exact congrArg tellP (turn_second (weight (normP b) + weight (normP a)) (normP a) (normP b) nst0 na nb hU (by omega))
    · rw [(gaps_sums (normP b) [] nb).1, (fine_norm fb).2.2.2]; simp
    · rw [(gaps_sums (normP a) [] na).2, puts_norm sa]; simp
    · exact gaps_V (normP a) [] na (norm_V fun p hp => near_one (fa.one p hp) (va p hp)) V_nil
  obtain ⟨x, xl, y, yl, e, h1, h2, h3, h4⟩ := key
  have hn := docT_near F x xl y yl h4
  have hs : ∀ p ∈ docT F x xl y yl, 0 ≤ p.keep ∧ 0 ≤ p.drop := fun p hp => ⟨(hn p hp).1, (hn p hp).2.1⟩
  rw [e]
  refine ⟨norm_one _ hs, norm_V hn, ?_, ?_⟩
  · rw [norm_long, docT_long F x xl y yl h1, h2]
  · rw [puts_norm hs, docT_puts F x xl y yl h1, h3]
end Go.Proofs.YtedgnlgjmnccgabGreatDoor
