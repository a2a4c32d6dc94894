/-
  A room (pure): what a client has on its way is what the server turned it into, when it comes back.
-/
import Derived.Test.YtedgnlgjmnccgabGreatDoorRoomQ
namespace Go.Proofs.YtedgnlgjmnccgabGreatDoor
set_option linter.unusedVariables false

theorem turnS_app (op : List Pt) (a b : List SE) : turnS op (a ++ b) = turnS (turnS op a) b := by unfold turnS; rw [List.foldl_append]
theorem take_more {E : List SE} {x : SE} {i j : Nat} (hj : j ≤ E.length) : ((E ++ [x]).drop i).take (j - i) = (E.drop i).take (j - i) := by
  rcases Nat.lt_or_ge i E.length with hi | hi
  · rw [List.drop_append_of_le_length (by omega), List.take_append_of_le_length (by rw [List.length_drop]; omega)]
  · have : j - i = 0 := by omega
    rw [this]; simp
/-- What a server knows of a client's. -/
structure Pr (E : List SE) (M : Told) (k : Int) (S : Cl) : Prop where
  le : (got M k).1 ≤ S.id
  none_ : S.mine = [] → (got M k).1 = S.id
  ent : ∀ (j : Nat) (x : SE), S.rev.toNat ≤ j → E[j]? = some x → x.c = k → S.mine ≠ [] ∧ x.i = S.id ∧ got M k = (S.id, 0) ∧ x.op = turnS (headM S) ((E.drop S.rev.toNat).take (j - S.rev.toNat)) ∧ ∀ (j' : Nat) (x' : SE), S.rev.toNat ≤ j' → E[j']? = some x' → x'.c = k → j' = j
  has : S.mine ≠ [] → got M k = (S.id, 0) → ∃ (j : Nat) (x : SE), S.rev.toNat ≤ j ∧ E[j]? = some x ∧ x.c = k
  no8 : (got M k).2 ≠ 8
structure Pq (E : List SE) (M : Told) (p : Pk) (S : Cl) : Prop where
  ask : p.kind = 1 → p.id ≤ S.id ∧ p.rev ≤ S.rev ∧ ((got M p.c).1 < p.id → p.id = S.id ∧ S.mine ≠ [] ∧ turnS p.x.op ((E.drop p.rev.toNat).take (S.rev.toNat - p.rev.toNat)) = headM S)
  refuse : p.kind = 4 → p.id ≤ S.id ∧ (p.id = S.id → S.mine ≠ [] → (got M p.c).1 = S.id ∧ (got M p.c).2 ≠ 0)
structure Inv2 (R : Rm) : Prop where
  pr : ∀ (k : Nat) (q : Int × Cl), R.cl[k]? = some q → Pr R.E R.M k q.2
  pq : ∀ p ∈ R.fl, Pq R.E R.M p (clK R p.c).2
theorem clK_set {R : Rm} {k j : Nat} {S : Cl} (hk : k < R.cl.length) : clK (setC R k S) j = if k = j then ((clK R k).1, S) else clK R j := by
  unfold clK setC
  simp only
  rw [List.getElem?_set]
  split
  · rename_i h; subst h; first | rfl | (rw [if_pos hk]; rfl)
  · rfl
/-- One client is turned, and nothing else. -/
theorem Inv2.setK {R : Rm} (h : Inv2 R) {k : Nat} (hk : k < R.cl.length) {S : Cl} (hS : Pr R.E R.M k S) (hp : ∀ p ∈ R.fl, p.c = k → Pq R.E R.M p S) : Inv2 (setC R k S) := by
  refine ⟨fun j q hq => ?_, fun p hpm => ?_⟩
  · have hq : (R.cl.set k ((clK R k).1, S))[j]? = some q := hq
    rw [List.getElem?_set] at hq
    split at hq
    · rename_i e
      try rw [if_pos hk] at hq
      obtain rfl := Option.some.inj hq
      subst e
      exact hS
    · exact h.pr j q hq
  · show Pq R.E R.M p (clK (setC R k S) p.c).2
    rw [clK_set hk]
    split
    · rename_i e; exact hp p hpm e.symm
    · exact h.pq p hpm
theorem Inv2.send {R : Rm} (h : Inv2 R) {p : Pk} (hp : Pq R.E R.M p (clK R p.c).2) : Inv2 (sendR R p) := by
  obtain ⟨a, b, c, d, e⟩ := send_keeps R p
  refine ⟨fun k q hq => ?_, fun x hx => ?_⟩
  · rw [e] at hq
    rw [b, c]; exact h.pr k q hq
  · have hc : clK (sendR R p) x.c = clK R x.c := by unfold clK; rw [e]
    rw [b, c, hc]
    unfold sendR at hx
    split at hx
    · exact h.pq x hx
    · rcases List.mem_append.1 hx with hx | hx
      · exact h.pq x hx
      · rw [List.mem_singleton.1 hx]; exact hp
theorem pq_told {E : List SE} {M : Told} {p : Pk} {S : Cl} (h1 : p.kind ≠ 1) (h4 : p.kind ≠ 4) : Pq E M p S := ⟨fun e => absurd e h1, fun e => absurd e h4⟩
theorem Inv2.tellM {k : Nat} : ∀ (xs : List SE) (f : Int) (R : Rm), Inv2 R → Inv2 (tellL k f xs R)
  | [], _, _, h => h
  | x :: xs, f, R, h => Inv2.tellM xs (f + 1) _ (h.send (pq_told (show (3 : Int) ≠ 1 by decide) (show (3 : Int) ≠ 4 by decide)))
theorem Inv2.tellK {R : Rm} (h : Inv2 R) (k : Nat) (f : Int) : Inv2 (tellR R k f) := by
  unfold tellR
  split
  · exact h
  · exact Inv2.tellM _ _ _ h
theorem Inv2.out {R : Rm} (h : Inv2 R) (i : Nat) : Inv2 (outR R i) := ⟨h.pr, fun p hp => h.pq p (List.mem_of_mem_eraseIdx hp)⟩

/-! a client's own -/
theorem Inv2.edit {l0 n : Int} {D : List (List UInt8)} {R : Rm} (hi : Inv l0 n D R) (h : Inv2 R) {k : Nat} (hk : k < R.cl.length) (q : List Pt) : Inv2 (editC R k q) := by
  obtain ⟨e, hc⟩ := hi.clk hk
  have hp := h.pr k _ e
  have hpq : ∀ p ∈ R.fl, p.c = k → Pq R.E R.M p (clK R k).2 := fun p hp e => by have := h.pq p hp; rw [e] at this; exact this
  unfold editC
  generalize (clK R k).1 = u at *
  generalize (clK R k).2 = S at *
  refine h.setK hk ?_ ?_
  · unfold edS
    split
    · rcases hm : S.mine with _ | ⟨m, _ | ⟨m2, ms⟩⟩
      · have hn := hp.none_ hm
        refine ⟨?_, ?_, ?_, ?_, hp.no8⟩
        · simp; omega
        · intro e; simp [addM] at e
        · intro j x hj hx hxc
          exact absurd hm (hp.ent j x hj hx hxc).1
        · intro _ hg
          have hg : got R.M k = (S.id + 1, 0) := by simpa using hg
          rw [hg] at hn
          have hn : S.id + 1 = S.id := hn
          omega
      · have hne : S.mine ≠ [] := by rw [hm]; simp
        have hh : headM { S with doc := applyP (edO u S q) S.doc, mine := addM (edO u S q) [m], id := if [m] = [] then S.id + 1 else S.id } = headM S := by unfold headM; rw [hm]; rfl
        refine ⟨by simpa using hp.le, fun e => (by simp [addM] at e), fun j x hj hx hxc => ?_, fun _ hg => hp.has hne (by simpa using hg), hp.no8⟩
        obtain ⟨_, a, b, c, d⟩ := hp.ent j x hj hx hxc
        rw [hh]
        exact ⟨by simp [addM], by simpa using a, by simpa using b, c, d⟩
      · have hne : S.mine ≠ [] := by rw [hm]; simp
        have hh : headM { S with doc := applyP (edO u S q) S.doc, mine := addM (edO u S q) (m :: m2 :: ms), id := if (m :: m2 :: ms) = [] then S.id + 1 else S.id } = headM S := by unfold headM; rw [hm]; rfl
        refine ⟨by simpa using hp.le, fun e => (by simp [addM] at e), fun j x hj hx hxc => ?_, fun _ hg => hp.has hne (by simpa using hg), hp.no8⟩
        obtain ⟨_, a, b, c, d⟩ := hp.ent j x hj hx hxc
        rw [hh]
        exact ⟨by simp [addM], by simpa using a, by simpa using b, c, d⟩
    · exact hp
  · intro p hpm hpc
    have hq := hpq p hpm hpc
    unfold edS
    split
    · rcases hm : S.mine with _ | ⟨m, _ | ⟨m2, ms⟩⟩
      · refine ⟨fun e1 => ?_, fun e4 => ?_⟩
        · obtain ⟨a, b, c⟩ := hq.ask e1
          refine ⟨by simp; omega, b, fun hl => ?_⟩
          exact absurd hm (c hl).2.1
        · obtain ⟨a, b⟩ := hq.refuse e4
          refine ⟨by simp; omega, fun e => ?_⟩
          simp at e; omega
      · have hne : S.mine ≠ [] := by rw [hm]; simp
        have hh : headM { S with doc := applyP (edO u S q) S.doc, mine := addM (edO u S q) [m], id := if [m] = [] then S.id + 1 else S.id } = headM S := by unfold headM; rw [hm]; rfl
        refine ⟨fun e1 => ?_, fun e4 => ?_⟩
        · obtain ⟨a, b, c⟩ := hq.ask e1
          refine ⟨by simpa using a, b, fun hl => ?_⟩
          obtain ⟨c1, c2, c3⟩ := c hl
          rw [hh]
          exact ⟨by simpa using c1, by simp [addM], c3⟩
        · obtain ⟨a, b⟩ := hq.refuse e4
          exact ⟨by simpa using a, fun e _ => by simpa using b (by simpa using e) hne⟩
      · have hne : S.mine ≠ [] := by rw [hm]; simp
        have hh : headM { S with doc := applyP (edO u S q) S.doc, mine := addM (edO u S q) (m :: m2 :: ms), id := if (m :: m2 :: ms) = [] then S.id + 1 else S.id } = headM S := by unfold headM; rw [hm]; rfl
        refine ⟨fun e1 => ?_, fun e4 => ?_⟩
        · obtain ⟨a, b, c⟩ := hq.ask e1
          refine ⟨by simpa using a, b, fun hl => ?_⟩
          obtain ⟨c1, c2, c3⟩ := c hl
          rw [hh]
          exact ⟨by simpa using c1, by simp [addM], c3⟩
        · obtain ⟨a, b⟩ := hq.refuse e4
          exact ⟨by simpa using a, fun e _ => by simpa using b (by simpa using e) hne⟩
    · exact hq
theorem Inv2.askK {l0 n : Int} {D : List (List UInt8)} {R : Rm} (hi : Inv l0 n D R) (h : Inv2 R) {k : Nat} (hk : k < R.cl.length) : Pq R.E R.M (askP R k) (clK R (askP R k).c).2 := by
  have hc : (askP R k).c = k := by unfold askP; split <;> rfl
  rw [hc]
  unfold askP
  split
  · exact pq_told (show (2 : Int) ≠ 1 by decide) (show (2 : Int) ≠ 4 by decide)
  · rename_i hm
    refine ⟨fun _ => ⟨Int.le_refl _, Int.le_refl _, fun _ => ⟨rfl, hm, ?_⟩⟩, fun e => (by cases e)⟩
    show turnS (headM (clK R k).2) _ = _
    rw [Nat.sub_self, List.take_zero]
    rfl
theorem Inv2.sendK {l0 n : Int} {D : List (List UInt8)} {R : Rm} (hi : Inv l0 n D R) (h : Inv2 R) {k : Nat} (hk : k < R.cl.length) : Inv2 (sendC R k) := h.send (h.askK hi hk)

/-! the server's answer -/
theorem do_kinds {l0 n : Int} {D : List (List UInt8)} {R : Rm} (h : Inv l0 n D R) {rev : Int} {op : List Pt} {d : List UInt8} (hr : 0 ≤ rev ∧ rev ≤ (R.E.length : Int)) (hd : D[rev.toNat]? = some d) (hg : good op d) : doE l0 R.t R.E rev op = 0 ∨ doE l0 R.t R.E rev op = 4 ∨ doE l0 R.t R.E rev op = 12 := by
  obtain ⟨d', e1, g'⟩ := h.lk.turn (op := op) (R.E.length - rev.toNat) rev.toNat d op hd hg (by omega)
  rw [show rev.toNat + (R.E.length - rev.toNat) = R.E.length by omega, h.docs.last] at e1
  obtain rfl := Option.some.inj e1
  rw [List.take_of_length_le (by rw [List.length_drop]; omega)] at g'
  obtain ⟨d2, e2, e3⟩ := h.docs.at_ rev.toNat (by omega)
  rw [hd] at e2
  obtain rfl := Option.some.inj e2
  have hc : chkE op (endE l0 (R.E.take rev.toNat)) = 0 := by rw [← e3]; exact hg.chk
  unfold doE
  split
  · omega
  split
  · exact .inr (.inl rfl)
  split
  · rename_i h1; exact absurd hc h1
  split
  · rename_i h1; exact absurd g'.ord h1
  split
  · exact .inr (.inr rfl)
  · exact .inl rfl
theorem got_upd (M : Told) (c : Int) (x : Int × Int) (k : Int) : got (upd M c x) k = if k = c then x else got M k := by
  unfold got upd
  split <;> rfl
/-- What is known where the log has an entry more, of another one. -/
theorem Pr.other {E : List SE} {M M' : Told} {k : Int} {S : Cl} (h : Pr E M k S) (hM : got M' k = got M k) (hr : S.rev.toNat ≤ E.length) {x : SE} (hx : x.c ≠ k) : Pr (E ++ [x]) M' k S := by
  have key : ∀ (j : Nat) (y : SE), (E ++ [x])[j]? = some y → y.c = k → E[j]? = some y := fun j y hy hc => by
    rcases Nat.lt_or_ge j E.length with hj | hj
    · rwa [List.getElem?_append_left hj] at hy
    · have : j < (E ++ [x]).length := (List.getElem?_eq_some_iff.1 hy).1
      have hje : j = E.length := by simp at this; omega
      subst hje
      rw [List.getElem?_append_right (Nat.le_refl _), Nat.sub_self] at hy
      obtain rfl : x = y := by simpa using hy
      exact absurd hc hx
  refine ⟨by rw [hM]; exact h.le, fun e => by rw [hM]; exact h.none_ e, fun j y hj hy hc => ?_, fun hm hg => ?_, by rw [hM]; exact h.no8⟩
  · have hy' := key j y hy hc
    have hjl : j < E.length := (List.getElem?_eq_some_iff.1 hy').1
    obtain ⟨a, b, c, d, e⟩ := h.ent j y hj hy' hc
    refine ⟨a, b, by rw [hM]; exact c, by rw [take_more (Nat.le_of_lt hjl)]; exact d, fun j' x' hj' hx' hc' => e j' x' hj' (key j' x' hx' hc') hc'⟩
  · rw [hM] at hg
    obtain ⟨j, y, a, b, c⟩ := h.has hm hg
    refine ⟨j, y, a, ?_, c⟩
    rw [List.getElem?_append_left (List.getElem?_eq_some_iff.1 b).1]; exact b
theorem Pr.same {E : List SE} {M M' : Told} {k : Int} {S : Cl} (h : Pr E M k S) (hM : got M' k = got M k) : Pr E M' k S :=
  ⟨by rw [hM]; exact h.le, fun e => by rw [hM]; exact h.none_ e, fun j y hj hy hc => by rw [hM]; exact h.ent j y hj hy hc, fun hm hg => h.has hm (by rw [← hM]; exact hg), by rw [hM]; exact h.no8⟩
theorem Inv2.srv {l0 n : Int} {D : List (List UInt8)} {R : Rm} (hi : Inv l0 n D R) (h : Inv2 R) {p : Pk} (hp : okPk R.E D R.cl.length p) (hk : p.kind = 1) (hq : Pq R.E R.M p (clK R p.c).2) :
    Inv2 (srvR l0 R p) ∧ (got (srvR l0 R p).M p.c).1 = max (got R.M p.c).1 p.id ∧ (srvE l0 R p ≠ 0 → srvE l0 R p ≠ 8 → got (srvR l0 R p).M p.c = (p.id, srvE l0 R p)) ∧ (p.id = (got (srvR l0 R p).M p.c).1 → srvE l0 R p = (got (srvR l0 R p).M p.c).2) := by
  obtain ⟨e, hc⟩ := hi.clk hp.c
  have hpr := h.pr p.c _ e
  have hrl := hc.revle hi.lk
  have hr0 := hc.rev
  obtain ⟨q1, q2, q3⟩ := hq.ask hk
  have hE : (srvR l0 R p).E = stL l0 R.t R.E R.M p.c p.id p.rev p.x.op := rfl
  have hM : (srvR l0 R p).M = stM l0 R.t R.E R.M p.c p.id p.rev p.x.op := rfl
  have hcl : ∀ j, clK (srvR l0 R p) j = clK R j := fun j => rfl
  by_cases ho : isOld R.M p.c p.id
  · have e1 : (srvR l0 R p).E = R.E := by rw [hE]; unfold stL; rw [if_pos ho]
    have e2 : (srvR l0 R p).M = R.M := by rw [hM]; unfold stM; rw [if_pos ho]
    have e3 : srvE l0 R p = if p.id < (got R.M p.c).1 then 8 else (got R.M p.c).2 := by unfold srvE stE; rw [if_pos ho]
    have ho : p.id ≤ (got R.M p.c).1 := ho
    refine ⟨⟨fun k q hq => ?_, fun x hx => ?_⟩, ?_, fun h0 h8 => ?_, fun hid => ?_⟩
    · rw [e1, e2]; exact h.pr k q hq
    · rw [e1, e2]; exact h.pq x hx
    · rw [e2]; omega
    · rw [e2, e3]
      rw [e3] at h8
      split at h8
      · exact absurd rfl h8
      · rename_i hl
        rw [if_neg hl]
        have : p.id = (got R.M p.c).1 := by omega
        rw [this]
    · rw [e2] at hid ⊢
      rw [e3, if_neg (by omega)]
  · have hlt : (got R.M p.c).1 < p.id := by have : ¬ p.id ≤ (got R.M p.c).1 := ho; omega
    obtain ⟨c1, c2, c3⟩ := q3 hlt
    obtain ⟨x1, x2, d, hd, hg, hpu⟩ := hp.ask hk
    have hkinds := do_kinds hi hp.rev hd hg
    have e2 : (srvR l0 R p).M = upd R.M p.c (p.id, doE l0 R.t R.E p.rev p.x.op) := by rw [hM]; unfold stM; rw [if_neg ho]
    have e3 : srvE l0 R p = doE l0 R.t R.E p.rev p.x.op := by unfold srvE stE; rw [if_neg ho]
    have hgot : got (srvR l0 R p).M p.c = (p.id, doE l0 R.t R.E p.rev p.x.op) := by rw [e2, got_upd, if_pos rfl]
    have hoth : ∀ k : Int, k ≠ p.c → got (srvR l0 R p).M k = got R.M k := fun k hk => by rw [e2, got_upd, if_neg hk]
    have hnoent : ∀ (j : Nat) (x : SE), (clK R p.c).2.rev.toNat ≤ j → R.E[j]? = some x → x.c = (p.c : Int) → False := fun j x hj hx hxc => by
      have := (hpr.ent j x hj hx hxc).2.2.1
      rw [this] at hlt
      simp at hlt
      omega
    have hpqk : ∀ (x : Pk), x ∈ R.fl → x.c = p.c → ∀ E', Pq E' (srvR l0 R p).M x (clK R p.c).2 := fun x hx hxc E' => by
      have hqx := h.pq x hx
      rw [hxc] at hqx
      refine ⟨fun k1 => ?_, fun k4 => ?_⟩
      · obtain ⟨a, b, c⟩ := hqx.ask k1
        refine ⟨a, b, fun hl => ?_⟩
        rw [hxc, hgot] at hl
        simp at hl
        omega
      · obtain ⟨a, b⟩ := hqx.refuse k4
        refine ⟨a, fun hid hm => ?_⟩
        have := (b hid hm).1
        rw [hxc] at this
        omega
    have hhas : ∀ E', (doE l0 R.t R.E p.rev p.x.op = 0 → ∃ (j : Nat) (x : SE), (clK R p.c).2.rev.toNat ≤ j ∧ E'[j]? = some x ∧ x.c = (p.c : Int)) → (∀ (j : Nat) (x : SE), (clK R p.c).2.rev.toNat ≤ j → E'[j]? = some x → x.c = (p.c : Int) → doE l0 R.t R.E p.rev p.x.op = 0 ∧ x.i = p.id ∧ x.op = turnS (headM (clK R p.c).2) ((E'.drop (clK R p.c).2.rev.toNat).take (j - (clK R p.c).2.rev.toNat)) ∧ j = R.E.length) → Pr E' (srvR l0 R p).M p.c (clK R p.c).2 := fun E' h1 h2 => by
      refine ⟨by rw [hgot]; exact q1, fun em => absurd em c2, fun j x hj hx hxc => ?_, fun hm hg0 => ?_, ?_⟩
      · obtain ⟨a, b, c, d⟩ := h2 j x hj hx hxc
        refine ⟨c2, by rw [b, c1], by rw [hgot, a, c1], c, fun j' x' hj' hx' hxc' => ?_⟩
        rw [d]; exact (h2 j' x' hj' hx' hxc').2.2.2
      · rw [hgot] at hg0
        have : doE l0 R.t R.E p.rev p.x.op = 0 := by injection hg0
        exact h1 this
      · rw [hgot]
        show doE l0 R.t R.E p.rev p.x.op ≠ 8
        rcases hkinds with e | e | e <;> rw [e] <;> decide
    by_cases hz : doE l0 R.t R.E p.rev p.x.op = 0
    · have e1 : (srvR l0 R p).E = R.E ++ [⟨p.c, p.id, turnS p.x.op (R.E.drop p.rev.toNat)⟩] := by rw [hE]; unfold stL; rw [if_neg ho]; unfold doL; rw [if_pos hz]
      refine ⟨⟨fun k q hq => ?_, fun x hx => ?_⟩, by rw [hgot]; show p.id = _; omega, fun h0 _ => by rw [hgot, e3], fun _ => by rw [hgot, e3]⟩
      · have hq : R.cl[k]? = some q := hq
        rw [e1]
        by_cases hkc : k = p.c
        · subst hkc
          have : q = clK R p.c := by rw [e] at hq; exact (Option.some.inj hq).symm
          subst this
          refine hhas _ (fun _ => ⟨R.E.length, _, by omega, by rw [List.getElem?_append_right (Nat.le_refl _), Nat.sub_self]; rfl, rfl⟩) fun j x hj hx hxc => ?_
          rcases Nat.lt_or_ge j R.E.length with hjl | hjl
          · rw [List.getElem?_append_left hjl] at hx
            exact absurd (hnoent j x hj hx hxc) id
          · have : j < (R.E ++ [(⟨p.c, p.id, turnS p.x.op (R.E.drop p.rev.toNat)⟩ : SE)]).length := (List.getElem?_eq_some_iff.1 hx).1
            have hje : j = R.E.length := by simp at this; omega
            subst hje
            rw [List.getElem?_append_right (Nat.le_refl _), Nat.sub_self] at hx
            obtain rfl : (⟨p.c, p.id, turnS p.x.op (R.E.drop p.rev.toNat)⟩ : SE) = x := by simpa using hx
            refine ⟨hz, rfl, ?_, rfl⟩
            show turnS p.x.op (R.E.drop p.rev.toNat) = _
            rw [take_more (Nat.le_refl _), List.take_of_length_le (by rw [List.length_drop]; omega), ← c3, ← turnS_app]
            congr 1
            have hle : p.rev.toNat ≤ (clK R p.c).2.rev.toNat := by omega
            obtain ⟨m, hm⟩ : ∃ m, (clK R p.c).2.rev.toNat = p.rev.toNat + m := ⟨_, (Nat.add_sub_of_le hle).symm⟩
            rw [hm, Nat.add_sub_cancel_left, ← List.drop_drop, List.take_append_drop]
        · have hkc' : (k : Int) ≠ (p.c : Int) := by omega
          have hqr := (hi.cls k q hq).revle hi.lk
          exact (h.pr k q hq).other (hoth _ hkc') (by omega) (fun e => hkc' e.symm)
      · have hx : x ∈ R.fl := hx
        rw [hcl]
        by_cases hxc : x.c = p.c
        · have := hpqk x hx hxc (srvR l0 R p).E
          rw [hxc]; exact this
        · have hqx := h.pq x hx
          have hxc' : (x.c : Int) ≠ (p.c : Int) := by omega
          have hxm := hi.pks x hx
          obtain ⟨ex, hcx⟩ := hi.clk hxm.c
          have hxr := hcx.revle hi.lk
          refine ⟨fun k1 => ?_, fun k4 => ?_⟩
          · obtain ⟨a, b, c⟩ := hqx.ask k1
            refine ⟨a, b, fun hl => ?_⟩
            rw [hoth _ hxc'] at hl
            rw [e1, take_more (by omega)]
            exact c hl
          · rw [hoth _ hxc']; exact hqx.refuse k4
    · have e1 : (srvR l0 R p).E = R.E := by rw [hE]; unfold stL; rw [if_neg ho]; unfold doL; rw [if_neg hz]
      refine ⟨⟨fun k q hq => ?_, fun x hx => ?_⟩, by rw [hgot]; show p.id = _; omega, fun h0 _ => by rw [hgot, e3], fun _ => by rw [hgot, e3]⟩
      · have hq : R.cl[k]? = some q := hq
        rw [e1]
        by_cases hkc : k = p.c
        · subst hkc
          have : q = clK R p.c := by rw [e] at hq; exact (Option.some.inj hq).symm
          subst this
          exact hhas _ (fun h0 => absurd h0 hz) fun j x hj hx hxc => absurd (hnoent j x hj hx hxc) id
        · have hkc' : (k : Int) ≠ (p.c : Int) := by omega
          exact (h.pr k q hq).same (hoth _ hkc')
      · have hx : x ∈ R.fl := hx
        rw [hcl]
        by_cases hxc : x.c = p.c
        · have := hpqk x hx hxc (srvR l0 R p).E
          rw [hxc]; exact this
        · have hqx := h.pq x hx
          have hxc' : (x.c : Int) ≠ (p.c : Int) := by omega
          refine ⟨fun k1 => ?_, fun k4 => ?_⟩
          · obtain ⟨a, b, c⟩ := hqx.ask k1
            rw [e1]
            refine ⟨a, b, fun hl => ?_⟩
            rw [hoth _ hxc'] at hl
            exact c hl
          · rw [hoth _ hxc']; exact hqx.refuse k4
theorem Inv2.ask {l0 n : Int} {D : List (List UInt8)} {R : Rm} (hi : Inv l0 n D R) (h : Inv2 R) {p : Pk} (hp : okPk R.E D R.cl.length p) (hk : p.kind = 1) (hq : Pq R.E R.M p (clK R p.c).2) : Inv2 (askR l0 R p) := by
  obtain ⟨i1, i2, i3, i4⟩ := h.srv hi hp hk hq
  have it := i1.tellK p.c p.rev
  obtain ⟨ta, tb, tc, td, te⟩ := tellR_keeps (srvR l0 R p) p.c p.rev
  unfold askR
  split
  · rename_i hne
    refine it.send ⟨fun e => (by cases e), fun _ => ?_⟩
    rw [tc]
    have hcl : clK (tellR (srvR l0 R p) p.c p.rev) (refuseP p).c = clK R p.c := by unfold clK; rw [te]; rfl
    rw [hcl]
    have hg := i3 hne.1 hne.2
    obtain ⟨q1, _, _⟩ := hq.ask hk
    refine ⟨q1, fun hid _ => ?_⟩
    have hid : p.id = (clK R p.c).2.id := hid
    show (got (srvR l0 R p).M p.c).1 = _ ∧ (got (srvR l0 R p).M p.c).2 ≠ 0
    rw [hg]
    exact ⟨hid, hne.1⟩
  · exact it

/-! a client is told -/
/-- What becomes of a client that is told the next entry: none of its own, or its own. -/
theorem tk_next {n : Int} {D : List (List UInt8)} {E : List SE} {M : Told} {u : Int} {S : Cl} {k : Int} (hc : okCl n D (u, S)) (hl : Lk E D) (hp : Pr E M k S) {x : SE} (hx : E[S.rev.toNat]? = some x) :
    (x.c ≠ k ∧ tkS k S S.rev x.c x.i x.op = { S with seen := applyP x.op S.seen, rev := S.rev + 1, mine := (turnM S.mine x.op).1, doc := applyP (turnM S.mine x.op).2 S.doc }) ∨
    (x.c = k ∧ S.mine ≠ [] ∧ got M k = (S.id, 0) ∧ tkS k S S.rev x.c x.i x.op = { S with seen := applyP x.op S.seen, rev := S.rev + 1, mine := S.mine.tail, id := if S.mine.tail ≠ [] then S.id + 1 else S.id }) := by
  obtain ⟨g, hd⟩ := hl.link _ _ _ hx hc.seen
  have ho : ordE x.op S.seen = 0 := g.ord
  by_cases hxc : x.c = k
  · obtain ⟨a, b, c, d, e⟩ := hp.ent _ x (Nat.le_refl _) hx hxc
    rw [Nat.sub_self, List.take_zero] at d
    have hd' : x.op = headM S := d
    have hown : isOwn k S x.c x.i := ⟨a, hxc, b⟩
    have ht : tkE k S S.rev x.c x.i x.op = 0 := by
      unfold tkE
      rw [if_neg (by simp), if_neg (by simpa using ho), if_neg fun e => e.2 (by rw [hd'])]
    refine .inr ⟨hxc, a, c, ?_⟩
    unfold tkS
    rw [if_neg (by rw [ht]; simp), if_pos hown]
  · have hown : ¬ isOwn k S x.c x.i := fun e => hxc e.2.1
    have ht : tkE k S S.rev x.c x.i x.op = 0 := by
      unfold tkE
      rw [if_neg (by simp), if_neg (by simpa using ho), if_neg fun e => hown e.1]
    refine .inl ⟨hxc, ?_⟩
    unfold tkS
    rw [if_neg (by rw [ht]; simp), if_neg hown]
theorem head_turn (S : Cl) (x : List Pt) (hm : S.mine ≠ []) : (turnM S.mine x).1.headD [] = tellP (transS false (headM S) x) := by
  unfold headM
  rcases hm' : S.mine with _ | ⟨m, ms⟩
  · exact absurd hm' hm
  · rfl
theorem turn_step {E : List SE} {r j : Nat} {x : SE} (hx : E[r]? = some x) (hj : r < j) (op : List Pt) : turnS op ((E.drop r).take (j - r)) = turnS (tellP (transS false op x.op)) ((E.drop (r + 1)).take (j - (r + 1))) := by
  have hr : r < E.length := (List.getElem?_eq_some_iff.1 hx).1
  have e : E.drop r = x :: E.drop (r + 1) := by
    rw [List.drop_eq_getElem_cons hr]
    congr 1
    rw [List.getElem?_eq_getElem hr] at hx
    exact Option.some.inj hx
  obtain ⟨m, hm⟩ : ∃ m, j - r = m + 1 := ⟨j - r - 1, by omega⟩
  rw [hm, e, List.take_succ_cons, show j - (r + 1) = m by omega]
  rfl
theorem Pr.told {n : Int} {D : List (List UInt8)} {E : List SE} {M : Told} {u : Int} {S : Cl} {k : Int} (hc : okCl n D (u, S)) (hl : Lk E D) (hp : Pr E M k S) {rev : Int} (hr0 : 0 ≤ rev) {x : SE} (hx : E[rev.toNat]? = some x) : Pr E M k (tkS k S rev x.c x.i x.op) := by
  by_cases hr : rev = S.rev
  case neg => rw [show tkS k S rev x.c x.i x.op = S from if_pos (.inl hr)]; exact hp
  subst hr
  have hr1 : (S.rev + 1).toNat = S.rev.toNat + 1 := by omega
  rcases tk_next hc hl hp hx with ⟨hxc, e⟩ | ⟨hxc, hm, hg, e⟩
  · rw [e]
    have hml := turnM_len S.mine x.op
    have hiff : ((turnM S.mine x.op).1 = []) ↔ (S.mine = []) := by rw [← List.length_eq_zero_iff, ← List.length_eq_zero_iff, hml]
    have hgt : ∀ (j : Nat) (y : SE), S.rev.toNat ≤ j → E[j]? = some y → y.c = k → S.rev.toNat + 1 ≤ j := fun j y hj hy hyc => by
      rcases Nat.lt_or_ge S.rev.toNat j with h | h
      · exact h
      · have : j = S.rev.toNat := by omega
        subst this
        rw [hx] at hy
        obtain rfl := Option.some.inj hy
        exact absurd hyc hxc
    refine ⟨hp.le, fun em => hp.none_ (hiff.1 em), fun j y hj hy hyc => ?_, fun hm hg => ?_, hp.no8⟩
    · have hj : (S.rev + 1).toNat ≤ j := hj
      rw [hr1] at hj
      obtain ⟨a, b, c, d, f⟩ := hp.ent j y (by omega) hy hyc
      refine ⟨fun em => a (hiff.1 em), b, c, ?_, fun j' x' hj' hx' hc' => f j' x' (by have hj' : (S.rev + 1).toNat ≤ j' := hj'; omega) hx' hc'⟩
      show y.op = turnS ((turnM S.mine x.op).1.headD []) ((E.drop (S.rev + 1).toNat).take (j - (S.rev + 1).toNat))
      rw [hr1, head_turn S x.op a, d]
      exact turn_step hx hj (headM S)
    · obtain ⟨j, y, a, b, c⟩ := hp.has (fun em => hm (hiff.2 em)) hg
      exact ⟨j, y, by show (S.rev + 1).toNat ≤ j; rw [hr1]; exact hgt j y a b c, b, c⟩
  · rw [e]
    have hno : ∀ (j : Nat) (y : SE), S.rev.toNat + 1 ≤ j → E[j]? = some y → y.c = k → False := fun j y hj hy hyc => by
      have := (hp.ent _ x (Nat.le_refl _) hx hxc).2.2.2.2 j y (by omega) hy hyc
      omega
    refine ⟨?_, fun em => ?_, fun j y hj hy hyc => ?_, fun hm' hg' => ?_, hp.no8⟩
    · show (got M k).1 ≤ if S.mine.tail ≠ [] then S.id + 1 else S.id
      rw [hg]; simp only; split <;> omega
    · have em : S.mine.tail = [] := em
      show (got M k).1 = if S.mine.tail ≠ [] then S.id + 1 else S.id
      rw [hg, if_neg (by simpa using em)]
    · have hj : (S.rev + 1).toNat ≤ j := hj
      rw [hr1] at hj
      exact absurd (hno j y hj hy hyc) id
    · have hm' : S.mine.tail ≠ [] := hm'
      have hg' : got M k = ((if S.mine.tail ≠ [] then S.id + 1 else S.id), 0) := hg'
      rw [hg, if_pos hm'] at hg'
      injection hg' with h1 _
      omega
theorem Pq.told {n : Int} {D : List (List UInt8)} {E : List SE} {M : Told} {u : Int} {S : Cl} {p : Pk} (hc : okCl n D (u, S)) (hl : Lk E D) (hp : Pr E M p.c S) (hq : Pq E M p S) {rev : Int} (hr0 : 0 ≤ rev) (hpr : 0 ≤ p.rev) {x : SE} (hx : E[rev.toNat]? = some x) : Pq E M p (tkS p.c S rev x.c x.i x.op) := by
  by_cases hr : rev = S.rev
  case neg => rw [show tkS p.c S rev x.c x.i x.op = S from if_pos (.inl hr)]; exact hq
  subst hr
  have hr1 : (S.rev + 1).toNat = S.rev.toNat + 1 := by omega
  rcases tk_next hc hl hp hx with ⟨hxc, e⟩ | ⟨hxc, hm, hg, e⟩
  · rw [e]
    have hml := turnM_len S.mine x.op
    have hiff : ((turnM S.mine x.op).1 = []) ↔ (S.mine = []) := by rw [← List.length_eq_zero_iff, ← List.length_eq_zero_iff, hml]
    refine ⟨fun k1 => ?_, fun k4 => ?_⟩
    · obtain ⟨a, b, c⟩ := hq.ask k1
      refine ⟨a, by show p.rev ≤ S.rev + 1; omega, fun hlt => ?_⟩
      obtain ⟨c1, c2, c3⟩ := c hlt
      refine ⟨c1, fun em => c2 (hiff.1 em), ?_⟩
      show turnS p.x.op ((E.drop p.rev.toNat).take ((S.rev + 1).toNat - p.rev.toNat)) = (turnM S.mine x.op).1.headD []
      rw [head_turn S x.op c2, ← c3, hr1]
      have hle : p.rev.toNat ≤ S.rev.toNat := by omega
      have hsub : S.rev.toNat + 1 - p.rev.toNat = (S.rev.toNat - p.rev.toNat) + 1 := by omega
      have hxe : (E.drop p.rev.toNat)[S.rev.toNat - p.rev.toNat]? = some x := by rw [List.getElem?_drop, show p.rev.toNat + (S.rev.toNat - p.rev.toNat) = S.rev.toNat by omega]; exact hx
      rw [hsub, List.take_add_one, hxe, turnS_app]
      rfl
    · obtain ⟨a, b⟩ := hq.refuse k4
      exact ⟨a, fun hid hm => b hid fun em => hm (hiff.2 em)⟩
  · rw [e]
    have hid' : S.id ≤ (if S.mine.tail ≠ [] then S.id + 1 else S.id) := by split <;> omega
    refine ⟨fun k1 => ?_, fun k4 => ?_⟩
    · obtain ⟨a, b, c⟩ := hq.ask k1
      refine ⟨Int.le_trans a hid', by show p.rev ≤ S.rev + 1; omega, fun hlt => ?_⟩
      rw [hg] at hlt
      simp only at hlt
      omega
    · obtain ⟨a, b⟩ := hq.refuse k4
      refine ⟨Int.le_trans a hid', fun hid hm' => ?_⟩
      have hm' : S.mine.tail ≠ [] := hm'
      have hid : p.id = (if S.mine.tail ≠ [] then S.id + 1 else S.id) := hid
      rw [if_pos hm'] at hid
      omega
theorem Inv2.told {l0 n : Int} {D : List (List UInt8)} {R : Rm} (hi : Inv l0 n D R) (h : Inv2 R) {k : Nat} (hk : k < R.cl.length) {rev : Int} (hr : 0 ≤ rev) {x : SE} (hx : R.E[rev.toNat]? = some x) : Inv2 (setC R k (tkS k (clK R k).2 rev x.c x.i x.op)) := by
  obtain ⟨e, hc⟩ := hi.clk hk
  have hp := h.pr k _ e
  refine h.setK hk (Pr.told (u := (clK R k).1) (S := (clK R k).2) hc hi.lk hp hr hx) fun p hpm hpc => ?_
  have hq := h.pq p hpm
  subst hpc
  exact Pq.told (u := (clK R p.c).1) (S := (clK R p.c).2) hc hi.lk hp hq hr (hi.pks p hpm).rev.1 hx
theorem Inv2.refused {l0 n : Int} {D : List (List UInt8)} {R : Rm} (hi : Inv l0 n D R) (h : Inv2 R) {k : Nat} (hk : k < R.cl.length) {id : Int} (hid : id = (clK R k).2.id → (clK R k).2.mine ≠ [] → (got R.M k).1 = (clK R k).2.id ∧ (got R.M k).2 ≠ 0) : Inv2 (setC R k (rfS (clK R k).2 id)) := by
  obtain ⟨e, hc⟩ := hi.clk hk
  have hp := h.pr k _ e
  have hpq : ∀ p ∈ R.fl, p.c = k → Pq R.E R.M p (clK R k).2 := fun p hp e => by have := h.pq p hp; rw [e] at this; exact this
  generalize (clK R k).2 = S at *
  by_cases hm : S.mine ≠ [] ∧ id = S.id
  · rw [show rfS S id = { S with mine := [], doc := S.seen, drops := S.drops + 1 } from if_pos hm]
    obtain ⟨g1, g2⟩ := hid hm.2 hm.1
    have hno : ∀ (j : Nat) (y : SE), S.rev.toNat ≤ j → R.E[j]? = some y → y.c = (k : Int) → False := fun j y hj hy hyc => by
      have := (hp.ent j y hj hy hyc).2.2.1
      rw [this] at g2
      exact g2 rfl
    refine h.setK hk ⟨hp.le, fun _ => g1, fun j y hj hy hyc => (hno j y hj hy hyc).elim, fun em => absurd rfl em, hp.no8⟩ fun p hpm hpc => ?_
    have hq := hpq p hpm hpc
    refine ⟨fun k1 => ?_, fun k4 => ?_⟩
    · obtain ⟨a, b, c⟩ := hq.ask k1
      refine ⟨a, b, fun hl => ?_⟩
      rw [hpc, g1] at hl
      omega
    · obtain ⟨a, b⟩ := hq.refuse k4
      exact ⟨a, fun _ hm => absurd rfl hm⟩
  · rw [show rfS S id = S from if_neg hm]
    exact h.setK hk hp hpq
theorem Inv2.comes {l0 n : Int} {D : List (List UInt8)} {R : Rm} (hi : Inv l0 n D R) (h : Inv2 R) {p : Pk} (hp : okPk R.E D R.cl.length p) (hq : Pq R.E R.M p (clK R p.c).2) : Inv2 (comesR l0 R p) := by
  unfold comesR
  by_cases k1 : p.kind = 1
  · rw [if_pos k1]; exact h.ask hi hp k1 hq
  rw [if_neg k1]
  by_cases k2 : p.kind = 2
  · rw [if_pos k2]; exact h.tellK _ _
  rw [if_neg k2]
  by_cases k3 : p.kind = 3
  · rw [if_pos k3]; exact h.told hi hp.c hp.rev.1 (hp.told k3)
  rw [if_neg k3]
  by_cases k4 : p.kind = 4
  · rw [if_pos k4]; exact h.refused hi hp.c (hq.refuse k4).2
  · rw [if_neg k4]; exact h
end Go.Proofs.YtedgnlgjmnccgabGreatDoor
