/-
  Operations that never cut a rune (pure): what they make, and that a least form cuts none.
-/
import Derived.Test.YtedgnlgjmnccgabGreatDoorOpsTrans
import Derived.Test.YtedgnlgjmnccgabGreatDoorOpsInv
import Derived.Test.YtedgnlgjmnccgabGreatDoorCutPure
namespace Go.Proofs.YtedgnlgjmnccgabGreatDoor
set_option linter.unusedVariables false

/-- Bytes of whole runes. -/
def V (l : List UInt8) : Prop := ∃ rs : List Nat, (∀ r ∈ rs, isRune r) ∧ l = encs rs
theorem V_nil : V [] := ⟨[], by simp, rfl⟩
theorem V_append {a b : List UInt8} (ha : V a) (hb : V b) : V (a ++ b) := by
  obtain ⟨x, hx, rfl⟩ := ha
  obtain ⟨y, hy, rfl⟩ := hb
  exact ⟨x ++ y, fun r hr => (List.mem_append.1 hr).elim (hx r) (hy r), (encs_append x y).symm⟩
theorem V_scan {l : List UInt8} (h : V l) : (scan l).2 = true := by
  obtain ⟨x, hx, rfl⟩ := h
  rw [scan_encs x hx]
theorem V_of_scan {l : List UInt8} (h : (scan l).2 = true) : V l := ⟨runesOf l, fun r hr => runesOf_rune hr, (encs_runesOf h).symm⟩
theorem V_rest {a b : List UInt8} (ha : V a) (hab : V (a ++ b)) : V b := by
  obtain ⟨rs, hr, rfl⟩ := ha
  induction rs generalizing b with
  | nil => exact hab
  | cons r rs ih =>
    obtain ⟨qs, hq, e⟩ := hab
    rw [encs_cons, List.append_assoc] at e
    have h1 := dec_enc (hr r (by simp)) (encs rs ++ b)
    cases qs with
    | nil =>
      have := congrArg List.length e
      have h2 := List.length_pos_iff.2 (enc_ne r)
      have h3 : (encs []).length = 0 := rfl
      rw [List.length_append] at this
      omega
    | cons q qs =>
      rw [encs_cons] at e
      have h2 := dec_enc (hq q (by simp)) (encs qs)
      rw [← e, h1.1] at h2
      obtain ⟨h2, _⟩ := h2
      obtain rfl : r = q := congrArg Prod.fst h2
      exact ih (fun x hx => hr x (by simp [hx])) ⟨qs, fun x hx => hq x (by simp [hx]), List.append_cancel_left e⟩
theorem V_start {b : UInt8} {l : List UInt8} (h : V (b :: l)) : startO b = true := by
  obtain ⟨rs, hr, e⟩ := h
  cases rs with
  | nil => simp [encs] at e
  | cons r rs =>
    obtain ⟨b0, t, e2, h1, _⟩ := enc_starts (hr r (by simp))
    rw [encs_cons, e2, List.cons_append] at e
    have : b = b0 := (List.cons.inj e).1
    rw [this]; exact h1
theorem V_take {l : List UInt8} {n : Nat} (hl : V l) (hn : V (l.take n)) : V (l.drop n) := V_rest hn (by rw [List.take_append_drop]; exact hl)

/-- Puts whole runes, and ends nowhere within one. -/
def al : List Pt → List UInt8 → Prop
  | [], _ => True
  | p :: ps, t => V p.put ∧ V (t.take (lenP p).toNat) ∧ al ps (t.drop (lenP p).toNat)
structure good (ps : List Pt) (t : List UInt8) : Prop where
  one : ∀ p ∈ ps, oneP p
  long : longP ps = t.length
  al : al ps t

theorem long_cons (p : Pt) (ps : List Pt) : longP (p :: ps) = lenP p + longP ps := by simp [longP]
theorem one_len {p : Pt} (h : oneP p) : 0 ≤ lenP p := by
  rcases h with ⟨h1, h2, h3⟩ | ⟨h1, h2, h3⟩ | ⟨h1, h2, h3⟩ <;> simp only [lenP] <;> omega
theorem long_pos {ps : List Pt} (h : ∀ p ∈ ps, oneP p) : 0 ≤ longP ps := by
  induction ps with
  | nil => simp [longP]
  | cons p ps ih =>
    have h1 := ih fun q hq => h q (by simp [hq])
    have h2 := one_len (h p (by simp))
    rw [long_cons]; omega
theorem oneB_of {p : Pt} (h : oneP p) : oneB p = true := by
  unfold oneB
  obtain ⟨K, D, U⟩ := p
  rcases h with ⟨h1, h2, h3⟩ | ⟨h1, h2, h3⟩ | ⟨h1, h2, h3⟩
  · obtain rfl : D = 0 := h2
    obtain rfl : U = [] := h3
    simp; exact h1
  · obtain rfl : K = 0 := h1
    obtain rfl : U = [] := h3
    have h2 : 0 < D := h2
    have : D ≠ 0 := by omega
    simp [this]; exact h2
  · obtain rfl : K = 0 := h1
    obtain rfl : D = 0 := h2
    have h3 : U ≠ [] := h3
    simp [h3]
theorem chk_of {ps : List Pt} {n : Int} (h1 : ∀ p ∈ ps, oneP p) (h2 : ∀ p ∈ ps, V p.put) (h3 : longP ps = n) : chkE ps n = 0 := by
  have e1 : chk1 ps = 0 := by
    clear h3
    induction ps with
    | nil => rfl
    | cons p ps ih =>
      rw [chk1, if_pos (oneB_of (h1 p (by simp))), if_pos (V_scan (h2 p (by simp)))]
      exact ih (fun q hq => h1 q (by simp [hq])) fun q hq => h2 q (by simp [hq])
  unfold chkE
  rw [if_pos e1]
  clear e1 h2
  induction ps generalizing n with
  | nil => simp [longP] at h3; simp [chk2, ← h3]
  | cons p ps ih =>
    rw [long_cons] at h3
    have h4 := long_pos fun q hq => h1 q (List.mem_cons_of_mem _ hq)
    have h5 : p.keep + p.drop = lenP p := rfl
    rw [chk2, if_neg (by omega)]
    exact ih (fun q hq => h1 q (by simp [hq])) (by omega)
theorem al_puts : ∀ {ps : List Pt} {t : List UInt8}, al ps t → ∀ p ∈ ps, V p.put
  | [], _, _, p, hp => by cases hp
  | q :: ps, t, h, p, hp => by
    rcases List.mem_cons.1 hp with rfl | hp
    · exact h.1
    · exact al_puts h.2.2 p hp
theorem bad_of : ∀ {ps : List Pt} {t : List UInt8}, al ps t → badO ps t = false
  | [], _, _ => rfl
  | p :: ps, t, h => by
    rw [badO, bad_of h.2.2, Bool.or_false]
    have := h.2.1
    generalize t.take (lenP p).toNat = l at this
    cases l with
    | nil => rfl
    | cons b l => simp [badPiece, V_start this]
theorem good.chk {ps : List Pt} {t : List UInt8} (h : good ps t) : chkE ps (t.length : Int) = 0 := chk_of h.one (al_puts h.al) h.long
theorem good.ord {ps : List Pt} {t : List UInt8} (h : good ps t) : ordE ps t = 0 := by
  unfold ordE
  rw [if_pos h.chk, bad_of h.al]; rfl

theorem apply_cons (p : Pt) (ps : List Pt) (t : List UInt8) : applyP (p :: ps) t = madeP (p, t.take (lenP p).toNat) ++ applyP ps (t.drop (lenP p).toNat) := rfl
theorem apply_V : ∀ {ps : List Pt} {t : List UInt8}, al ps t → V (applyP ps t)
  | [], _, _ => V_nil
  | p :: ps, t, h => by
    rw [apply_cons]
    refine V_append ?_ (apply_V h.2.2)
    unfold madeP
    refine V_append ?_ h.1
    split
    · exact h.2.1
    · exact V_nil
theorem apply_put (u : List UInt8) (ps : List Pt) (t : List UInt8) : applyP (⟨0, 0, u⟩ :: ps) t = u ++ applyP ps t := by
  simp [apply_cons, madeP, lenP]
theorem apply_keep (n : Int) (hn : 0 < n) (ps : List Pt) (t : List UInt8) : applyP (⟨n, 0, []⟩ :: ps) t = t.take n.toNat ++ applyP ps (t.drop n.toNat) := by
  simp [apply_cons, madeP, lenP, hn]
theorem apply_drop (n : Int) (ps : List Pt) (t : List UInt8) : applyP (⟨0, n, []⟩ :: ps) t = applyP ps (t.drop n.toNat) := by
  simp [apply_cons, madeP, lenP]

/-- What is made, and what is left. -/
def actA (x : List UInt8 × List UInt8) (p : Pt) : List UInt8 × List UInt8 := (x.1 ++ (p.put ++ (x.2.drop p.drop.toNat).take p.keep.toNat), (x.2.drop p.drop.toNat).drop p.keep.toNat)
theorem actA_ok : ActP actA := by
  constructor
  · intro x; simp [actA]
  · intro x u v; simp [actA]
  · intro x a b ha hb
    simp only [actA, Int.toNat_zero, List.take_zero, List.append_nil, List.drop_drop, Nat.add_zero]
    rw [show a.toNat + b.toNat = (a + b).toNat by omega]
  · intro x a b ha hb
    simp only [actA, List.nil_append, Int.toNat_zero, List.drop_zero, List.drop_drop, List.append_assoc]
    rw [show (a + b).toNat = a.toNat + b.toNat by omega, List.take_add]
    simp only [Nat.add_zero]
  · intro x k d u; simp [actA]
  · intro x d u; simp [actA]
theorem actA_apply : ∀ (ps : List Pt), (∀ p ∈ ps, oneP p) → ∀ (o t : List UInt8), ps.foldl actA (o, t) = (o ++ applyP ps t, t.drop (longP ps).toNat)
  | [], _, o, t => by simp [applyP, pcs, longP]
  | p :: ps, h, o, t => by
    have h0 := long_pos fun q hq => h q (List.mem_cons_of_mem _ hq)
    rw [List.foldl_cons, actA, actA_apply ps fun q hq => h q (by simp [hq])]
    rw [long_cons]
    rcases one_three (h p (by simp)) with ⟨u, hu, rfl⟩ | ⟨m, rfl⟩ | ⟨m, rfl⟩
    · rw [apply_put]; simp [lenP]
    · rw [apply_keep _ (by omega)]
      simp only [lenP, Int.toNat_zero, List.drop_zero, List.nil_append, List.append_assoc, List.drop_drop]
      rw [show ((m : Int) + 1 + 0 + longP ps).toNat = ((m : Int) + 1).toNat + (longP ps).toNat by omega]
    · rw [apply_drop]
      simp only [lenP, Int.toNat_zero, List.append_nil, List.take_zero, List.drop_drop, Nat.add_zero]
      rw [show (0 + ((m : Int) + 1) + longP ps).toNat = ((m : Int) + 1).toNat + (longP ps).toNat by omega]

/-- Each part begins, and ends, where one may. -/
def Cut (E : Int → Prop) : Int → List Pt → Prop
  | i, [] => E i
  | i, p :: ps => E i ∧ Cut E (i + lenP p) ps
theorem Cut_head {E : Int → Prop} {i : Int} {ps : List Pt} (h : Cut E i ps) : E i := by
  cases ps with
  | nil => exact h
  | cons p ps => exact h.1
theorem Cut_append (E : Int → Prop) : ∀ (a b : List Pt) (i : Int), Cut E i (a ++ b) ↔ Cut E i a ∧ Cut E (i + longP a) b
  | [], b, i => by
    simp only [List.nil_append, longP, List.map_nil, List.sum_nil, Int.add_zero]
    exact ⟨fun h => ⟨Cut_head h, h⟩, fun h => h.2⟩
  | p :: a, b, i => by
    rw [List.cons_append, long_cons, ← Int.add_assoc]
    show (E i ∧ Cut E (i + lenP p) (a ++ b)) ↔ (E i ∧ Cut E (i + lenP p) a) ∧ _
    rw [Cut_append E a b, and_assoc]
theorem Cut_end {E : Int → Prop} {i : Int} {ps : List Pt} (h : Cut E i ps) : E (i + longP ps) := by
  have := (Cut_append E ps [] i).1 (by rw [List.append_nil]; exact h)
  exact this.2
structure CutS (E : Int → Prop) (s : NSt) : Prop where
  out : Cut E 0 s.out
  here : E (longS s)
  puts : ∀ p ∈ s.out, V p.put
  put : V s.put
  one : OneS s
theorem cut_tell {E : Int → Prop} {s : NSt} (h : CutS E s) : Cut E 0 (tellP s) ∧ ∀ p ∈ tellP s, V p.put := by
  have h1 := Cut_end h.out
  rw [Int.zero_add] at h1
  have h2 := h.here
  unfold longS at h2
  unfold tellP
  refine ⟨(Cut_append ..).2 ⟨h.out, ?_⟩, ?_⟩
  · rw [Int.zero_add]
    have key : Cut E (longP s.out) (if s.drop = 0 then [] else [⟨0, s.drop, []⟩]) := by
      split
      · exact h1
      · refine ⟨h1, ?_⟩
        show E (longP s.out + (0 + s.drop))
        rw [Int.zero_add]; exact h2
    split
    · exact key
    · refine ⟨h1, ?_⟩
      show Cut E (longP s.out + (0 + 0)) _
      rw [Int.zero_add, Int.add_zero]; exact key
  · intro p hp
    rcases List.mem_append.1 hp with hp | hp
    · exact h.puts p hp
    · rcases List.mem_append.1 hp with hp | hp
      · split at hp
        · cases hp
        · rw [List.mem_singleton.1 hp]; exact h.put
      · split at hp
        · cases hp
        · rw [List.mem_singleton.1 hp]; exact V_nil
theorem cut_push {E : Int → Prop} {l : List Pt} {k : Int} (h : Cut E 0 l) (hk : E (longP l + k)) : Cut E 0 (pushKeep l k) := by
  have hnew : Cut E 0 (l ++ [⟨k, 0, []⟩]) := by
    refine (Cut_append ..).2 ⟨h, Cut_end h, ?_⟩
    show E (0 + longP l + (k + 0))
    rw [Int.zero_add, Int.add_zero]; exact hk
  unfold pushKeep
  cases hq : l.getLast? with
  | none => exact hnew
  | some q =>
    simp only
    split
    · obtain ⟨m, rfl⟩ := List.getLast?_eq_some_iff.1 hq
      obtain ⟨h1, h2⟩ := (Cut_append ..).1 h
      rw [List.dropLast_concat]
      refine (Cut_append ..).2 ⟨h1, h2.1, ?_⟩
      have e : longP (m ++ [q]) = longP m + lenP q := by simp [longP]
      rw [e] at hk
      show E (0 + longP m + (q.keep + k + q.drop))
      have : 0 + longP m + (q.keep + k + q.drop) = longP m + lenP q + k := by unfold lenP; omega
      rw [this]; exact hk
    · exact hnew
theorem push_puts {l : List Pt} {k : Int} (h : ∀ p ∈ l, V p.put) : ∀ p ∈ pushKeep l k, V p.put := by
  intro p hp
  unfold pushKeep at hp
  cases hq : l.getLast? with
  | none =>
    rw [hq] at hp
    simp only [List.mem_append, List.mem_singleton] at hp
    rcases hp with hp | rfl
    · exact h p hp
    · exact V_nil
  | some q =>
    rw [hq] at hp
    simp only at hp
    split at hp
    · simp only [List.mem_append, List.mem_singleton] at hp
      rcases hp with hp | rfl
      · exact h p (List.dropLast_subset l hp)
      · exact h q (List.mem_of_getLast? hq)
    · simp only [List.mem_append, List.mem_singleton] at hp
      rcases hp with hp | rfl
      · exact h p hp
      · exact V_nil
theorem cut_add {E : Int → Prop} {s : NSt} (h : CutS E s) (p : Pt) (hk : 0 ≤ p.keep) (hd : 0 ≤ p.drop) (h1 : p.keep = 0 ∨ (p.drop = 0 ∧ p.put = [])) (hv : V p.put) (he : E (longS s + lenP p)) : CutS E (addP s p) := by
  have hone := add_one h.one p hk hd
  have hlong := add_long s p
  refine ⟨?_, by rw [hlong]; exact he, ?_, ?_, hone⟩
  · unfold addP
    split
    · exact h.out
    · rename_i h0
      obtain ⟨e1, e2⟩ := h1.resolve_left h0
      rw [e1, e2, List.append_nil, Int.add_zero]
      have hk : E (longP (tellP s) + p.keep) := by
        rw [tell_long]
        unfold lenP at he
        rw [e1, Int.add_zero] at he
        exact he
      exact cut_push (cut_tell h).1 hk
  · unfold addP
    split
    · exact h.puts
    · rename_i h0
      obtain ⟨e1, e2⟩ := h1.resolve_left h0
      rw [e1, e2, List.append_nil, Int.add_zero]
      exact push_puts (cut_tell h).2
  · unfold addP
    split
    · exact V_append h.put hv
    · exact V_nil
theorem one_kind {p : Pt} (h : oneP p) : 0 ≤ p.keep ∧ 0 ≤ p.drop ∧ (p.keep = 0 ∨ (p.drop = 0 ∧ p.put = [])) := by
  rcases h with ⟨h1, h2, h3⟩ | ⟨h1, h2, h3⟩ | ⟨h1, h2, h3⟩
  · exact ⟨by omega, by omega, .inr ⟨h2, h3⟩⟩
  · exact ⟨by omega, by omega, .inl h1⟩
  · exact ⟨by omega, by omega, .inl h1⟩
theorem cut_fold {E : Int → Prop} : ∀ (ps : List Pt) (s : NSt), (∀ p ∈ ps, oneP p) → (∀ p ∈ ps, V p.put) → CutS E s → Cut E (longS s) ps → CutS E (ps.foldl addP s)
  | [], s, _, _, h, _ => h
  | p :: ps, s, h1, h2, h, hc => by
    obtain ⟨k1, k2, k3⟩ := one_kind (h1 p (by simp))
    have hl := add_long s p
    refine cut_fold ps (addP s p) (fun q hq => h1 q (by simp [hq])) (fun q hq => h2 q (by simp [hq])) (cut_add h p k1 k2 k3 (h2 p (by simp)) (Cut_head hc.2)) ?_
    rw [hl]; exact hc.2

/-- A place of a text between two runes. -/
def edgeV (T : List UInt8) (j : Int) : Prop := V (T.take j.toNat)
theorem al_cut {T : List UInt8} : ∀ {ps : List Pt} {i : Int}, 0 ≤ i → (∀ p ∈ ps, oneP p) → V (T.take i.toNat) → al ps (T.drop i.toNat) → Cut (edgeV T) i ps
  | [], i, _, _, h, _ => h
  | p :: ps, i, h0, h1, h, ha => by
    have hl := one_len (h1 p (by simp))
    have e : (i + lenP p).toNat = i.toNat + (lenP p).toNat := by omega
    refine ⟨h, al_cut (by omega) (fun q hq => h1 q (by simp [hq])) ?_ ?_⟩
    · rw [e, List.take_add]; exact V_append h ha.2.1
    · rw [e, ← List.drop_drop]; exact ha.2.2
theorem cut_al {T : List UInt8} : ∀ {ps : List Pt} {i : Int}, 0 ≤ i → (∀ p ∈ ps, oneP p) → (∀ p ∈ ps, V p.put) → Cut (edgeV T) i ps → al ps (T.drop i.toNat)
  | [], i, _, _, _, _ => trivial
  | p :: ps, i, h0, h1, h2, hc => by
    have hl := one_len (h1 p (by simp))
    have e : (i + lenP p).toNat = i.toNat + (lenP p).toNat := by omega
    have h3 : V (T.take i.toNat) := hc.1
    have h4 : V (T.take (i + lenP p).toNat) := Cut_head hc.2
    rw [e, List.take_add] at h4
    refine ⟨h2 p (by simp), V_rest h3 h4, ?_⟩
    have := cut_al (by omega) (fun q hq => h1 q (by simp [hq])) (fun q hq => h2 q (by simp [hq])) hc.2
    rw [e, ← List.drop_drop] at this
    exact this
theorem cut0 (T : List UInt8) : CutS (edgeV T) nst0 := ⟨V_nil, V_nil, by simp [nst0], V_nil, ⟨by simp [nst0], by simp [nst0]⟩⟩
theorem good_of_cut {T : List UInt8} {s : NSt} (h : CutS (edgeV T) s) (hl : longS s = T.length) : good (tellP s) T := by
  refine ⟨tell_one h.one, by rw [tell_long]; exact hl, ?_⟩
  have := cut_al (i := 0) (by omega) (tell_one h.one) (cut_tell h).2 (cut_tell h).1
  exact this
theorem good.norm {ps : List Pt} {t : List UInt8} (h : good ps t) : good (normP ps) t := by
  have hc : CutS (edgeV t) (ps.foldl addP nst0) := cut_fold ps nst0 h.one (al_puts h.al) (cut0 t) (al_cut (i := 0) (by omega) h.one V_nil h.al)
  refine good_of_cut hc ?_
  rw [fold_long]
  show longP [] + 0 + longP ps = _
  rw [h.long]; simp [longP]
theorem apply_norm {ps : List Pt} (h : ∀ p ∈ ps, oneP p) (t : List UInt8) : applyP (normP ps) t = applyP ps t := by
  have e := act_norm actA_ok ps (ones_sound h) ([], t)
  rw [actA_apply ps h, actA_apply _ (norm_one ps (ones_sound h))] at e
  simpa using congrArg Prod.fst e
end Go.Proofs.YtedgnlgjmnccgabGreatDoor
