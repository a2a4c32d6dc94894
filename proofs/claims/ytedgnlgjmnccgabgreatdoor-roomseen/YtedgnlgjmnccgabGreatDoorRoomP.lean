/-
  A room (pure): a server, its clients, the packets that are under way; what comes of each, and what is kept.
-/
import Derived.Test.YtedgnlgjmnccgabGreatDoorClP
import Derived.Test.YtedgnlgjmnccgabGreatDoorSrvStep
namespace Go.Proofs.YtedgnlgjmnccgabGreatDoor
set_option linter.unusedVariables false

structure Pk where
  kind : Int
  c : Nat
  rev : Int
  id : Int
  x : SE
structure Rm where
  t : List UInt8
  E : List SE
  M : Told
  n : Nat
  cl : List (Int × Cl)
  fl : List Pk
  lost : Nat
def noSE : SE := ⟨0, 0, []⟩
def noCl : Int × Cl := (1, ⟨[], [], 0, 0, 0, []⟩)
def clK (R : Rm) (k : Nat) : Int × Cl := (R.cl[k]?).getD noCl
def setC (R : Rm) (k : Nat) (S : Cl) : Rm := { R with cl := R.cl.set k ((clK R k).1, S) }
def sendR (R : Rm) (p : Pk) : Rm := if 400 ≤ R.fl.length then { R with lost := R.lost + 1 } else { R with fl := R.fl ++ [p] }
def tellL (k : Nat) : Int → List SE → Rm → Rm
  | _, [], R => R
  | f, x :: xs, R => tellL k (f + 1) xs (sendR R ⟨3, k, f, 0, x⟩)
def tellR (R : Rm) (k : Nat) (f : Int) : Rm := if f < 0 ∨ (R.E.length : Int) < f then R else tellL k f (R.E.drop f.toNat) R
def srvR (l0 : Int) (R : Rm) (p : Pk) : Rm :=
  { R with t := stT l0 R.t R.E R.M p.c p.id p.rev p.x.op, E := stL l0 R.t R.E R.M p.c p.id p.rev p.x.op, M := stM l0 R.t R.E R.M p.c p.id p.rev p.x.op, n := R.n + 1 }
def srvE (l0 : Int) (R : Rm) (p : Pk) : Int := stE l0 R.t R.E R.M p.c p.id p.rev p.x.op
def refuseP (p : Pk) : Pk := ⟨4, p.c, 0, p.id, noSE⟩
def askR (l0 : Int) (R : Rm) (p : Pk) : Rm :=
  if srvE l0 R p ≠ 0 ∧ srvE l0 R p ≠ 8 then sendR (tellR (srvR l0 R p) p.c p.rev) (refuseP p) else tellR (srvR l0 R p) p.c p.rev
def comesR (l0 : Int) (R : Rm) (p : Pk) : Rm :=
  if p.kind = 1 then askR l0 R p else if p.kind = 2 then tellR R p.c p.rev
  else if p.kind = 3 then setC R p.c (tkS p.c (clK R p.c).2 p.rev p.x.c p.x.i p.x.op)
  else if p.kind = 4 then setC R p.c (rfS (clK R p.c).2 p.id) else R
def askP (R : Rm) (k : Nat) : Pk :=
  if (clK R k).2.mine = [] then ⟨2, k, (clK R k).2.rev, 0, noSE⟩ else ⟨1, k, (clK R k).2.rev, (clK R k).2.id, ⟨k, (clK R k).2.id, headM (clK R k).2⟩⟩
def sendC (R : Rm) (k : Nat) : Rm := sendR R (askP R k)
def editC (R : Rm) (k : Nat) (q : List Pt) : Rm := setC R k (edS (clK R k).1 (clK R k).2 q)
def outR (R : Rm) (i : Nat) : Rm := { R with fl := R.fl.eraseIdx i }
def delivR (l0 : Int) (R : Rm) (i : Nat) : Rm := match R.fl[i]? with
  | some p => comesR l0 (outR R i) p
  | none => R
def settleN (l0 : Int) : Nat → Rm → Rm
  | 0, R => R
  | n + 1, R => match R.fl with
    | [] => R
    | p :: fl => settleN l0 n (comesR l0 { R with fl := fl } p)
def wP (p : Pk) : Nat := if p.kind = 1 ∨ p.kind = 2 then 400 else 1
def weightR (fl : List Pk) : Nat := (fl.map wP).sum
def settleR (l0 : Int) (R : Rm) : Rm := settleN l0 (weightR R.fl) R
def quietK (l0 : Int) : Nat → Nat → Rm → Rm
  | 0, _, R => R
  | n + 1, k, R => quietK l0 n (k + 1) (settleR l0 (sendC R k))
def quietR (l0 : Int) (R : Rm) : Rm := quietK l0 R.cl.length 0 (settleR l0 R)
/-- What may still be told, and has been. -/
def potR (R : Rm) : Nat := R.n + R.lost + weightR R.fl

/-! what is kept -/
structure okCl (n : Int) (D : List (List UInt8)) (q : Int × Cl) : Prop where
  unit : unitOk q.1
  ok : okK 2000 q.2
  rev : 0 ≤ q.2.rev
  seen : D[q.2.rev.toNat]? = some q.2.seen
  id : 0 ≤ q.2.id ∧ q.2.id + (if 2 ≤ q.2.mine.length then 1 else 0) ≤ n
  dr : 0 ≤ q.2.drops ∧ q.2.drops + (if q.2.mine = [] then 0 else 1) ≤ q.2.id
structure okPk (E : List SE) (D : List (List UInt8)) (m : Nat) (p : Pk) : Prop where
  c : p.c < m
  kind : p.kind = 1 ∨ p.kind = 2 ∨ p.kind = 3 ∨ p.kind = 4
  rev : 0 ≤ p.rev ∧ p.rev ≤ (E.length : Int)
  ask : p.kind = 1 → p.x.c = (p.c : Int) ∧ p.x.i = p.id ∧ ∃ d, D[p.rev.toNat]? = some d ∧ good p.x.op d ∧ putsP p.x.op ≤ 2000
  told : p.kind = 3 → E[p.rev.toNat]? = some p.x
structure Lk (E : List SE) (D : List (List UInt8)) : Prop where
  len : D.length = E.length + 1
  link : ∀ (i : Nat) (x : SE) (d : List UInt8), E[i]? = some x → D[i]? = some d → good x.op d ∧ D[i + 1]? = some (applyP x.op d)
  fair : ∀ d ∈ D, V d ∧ d.length ≤ 2000
structure Inv (l0 n : Int) (D : List (List UInt8)) (R : Rm) : Prop where
  srv : okS l0 R.t R.E
  docs : okD l0 R.t R.E D
  lk : Lk R.E D
  few : R.E.length ≤ 300
  cls : ∀ (k : Nat) (q : Int × Cl), R.cl[k]? = some q → okCl n D q
  pks : ∀ p ∈ R.fl, okPk R.E D R.cl.length p
  room : R.fl.length ≤ 400
theorem Lk.at_ {E : List SE} {D : List (List UInt8)} (h : Lk E D) {i : Nat} (hi : i ≤ E.length) : ∃ d, D[i]? = some d ∧ V d ∧ d.length ≤ 2000 := by
  have : i < D.length := by have := h.len; omega
  exact ⟨D[i], List.getElem?_eq_getElem this, h.fair _ (List.getElem_mem this)⟩
theorem Lk.puts {E : List SE} {D : List (List UInt8)} (h : Lk E D) {i : Nat} {x : SE} (hx : E[i]? = some x) : putsP x.op ≤ 2000 := by
  have hi : i < E.length := (List.getElem?_eq_some_iff.1 hx).1
  obtain ⟨d, hd, _, _⟩ := h.at_ (Nat.le_of_lt hi)
  obtain ⟨g, h1⟩ := h.link i x d hx hd
  have h2 := h.fair _ (List.mem_of_getElem? h1)
  have := puts_le g
  omega
/-- What is over one document is turned over what came behind it. -/
theorem Lk.turn {E : List SE} {D : List (List UInt8)} (h : Lk E D) {op : List Pt} : ∀ (j i : Nat) (d : List UInt8) (op : List Pt), D[i]? = some d → good op d → i + j ≤ E.length → ∃ d', D[i + j]? = some d' ∧ good (turnS op ((E.drop i).take j)) d'
  | 0, i, d, op, hd, hg, _ => ⟨d, hd, by simpa [turnS] using hg⟩
  | j + 1, i, d, op, hd, hg, hl => by
    have hi : i < E.length := by omega
    have hx : E[i]? = some E[i] := List.getElem?_eq_getElem hi
    obtain ⟨g, h1⟩ := h.link i _ d hx hd
    have g2 := (good_trans false hg g).1
    obtain ⟨d', e1, e2⟩ := h.turn (op := op) j (i + 1) _ _ h1 g2 (by omega)
    refine ⟨d', by rw [← e1]; congr 1; omega, ?_⟩
    have e : (E.drop i).take (j + 1) = E[i] :: (E.drop (i + 1)).take j := by rw [List.drop_eq_getElem_cons hi, List.take_succ_cons]
    rw [e]
    exact e2
theorem okPk.more {E E' : List SE} {D D' : List (List UInt8)} {m : Nat} {p : Pk} (h : okPk E D m p) (hE : ∀ (i : Nat) (x : SE), E[i]? = some x → E'[i]? = some x) (hl : E.length ≤ E'.length) (hD : ∀ (i : Nat) (d : List UInt8), D[i]? = some d → D'[i]? = some d) : okPk E' D' m p :=
  ⟨h.c, h.kind, ⟨h.rev.1, by have := h.rev.2; omega⟩, fun hk => by
    obtain ⟨a, b, d, h1, h2⟩ := h.ask hk
    exact ⟨a, b, d, hD _ _ h1, h2⟩, fun hk => hE _ _ (h.told hk)⟩
theorem okCl.more {n n' : Int} {D D' : List (List UInt8)} {q : Int × Cl} (h : okCl n D q) (hn : n ≤ n') (hD : ∀ (i : Nat) (d : List UInt8), D[i]? = some d → D'[i]? = some d) : okCl n' D' q :=
  ⟨h.unit, h.ok, h.rev, hD _ _ h.seen, ⟨h.id.1, Int.le_trans h.id.2 hn⟩, h.dr⟩
theorem Inv.more {l0 n n' : Int} {D : List (List UInt8)} {R : Rm} (h : Inv l0 n D R) (hn : n ≤ n') : Inv l0 n' D R :=
  ⟨h.srv, h.docs, h.lk, h.few, fun k q hq => (h.cls k q hq).more hn fun _ _ h => h, h.pks, h.room⟩
theorem Inv.clk {l0 n : Int} {D : List (List UInt8)} {R : Rm} (h : Inv l0 n D R) {k : Nat} (hk : k < R.cl.length) : R.cl[k]? = some (clK R k) ∧ okCl n D (clK R k) := by
  have e : R.cl[k]? = some (clK R k) := by unfold clK; rw [List.getElem?_eq_getElem hk]; rfl
  exact ⟨e, h.cls k _ e⟩
theorem okCl.revle {n : Int} {D : List (List UInt8)} {q : Int × Cl} {E : List SE} (h : okCl n D q) (hl : Lk E D) : q.2.rev ≤ (E.length : Int) := by
  have h1 := (List.getElem?_eq_some_iff.1 h.seen).1
  have := hl.len
  have := h.rev
  omega
theorem okCl.small {n : Int} {D : List (List UInt8)} {q : Int × Cl} {E : List SE} (h : okCl n D q) (hl : Lk E D) : q.2.seen.length ≤ 2000 := (hl.fair _ (List.mem_of_getElem? h.seen)).2

/-! one client is turned -/
theorem Inv.setK {l0 n n' : Int} {D : List (List UInt8)} {R : Rm} (h : Inv l0 n D R) (hn : n ≤ n') {k : Nat} {S : Cl} (hS : okCl n' D ((clK R k).1, S)) : Inv l0 n' D (setC R k S) := by
  refine ⟨h.srv, h.docs, h.lk, h.few, fun j q hq => ?_, fun p hp => ?_, h.room⟩
  · have hq : (R.cl.set k ((clK R k).1, S))[j]? = some q := hq
    rw [List.getElem?_set] at hq
    split at hq
    · split at hq
      · obtain rfl := Option.some.inj hq; exact hS
      · cases hq
    · exact (h.cls j q hq).more hn fun _ _ h => h
  · have : (R.cl.set k ((clK R k).1, S)).length = R.cl.length := List.length_set
    have h1 := h.pks p hp
    show okPk R.E D (R.cl.set k ((clK R k).1, S)).length p
    rw [this]; exact h1
theorem okCl_edit {n : Int} {D : List (List UInt8)} {q : Int × Cl} (h : okCl n D q) (p : List Pt) : okCl (n + 1) D (q.1, edS q.1 q.2 p) := by
  have hk := okK_edit h.unit h.ok p
  have h2 := h.id; have h3 := h.dr; have h4 := h.ok.two
  refine ⟨h.unit, hk, ?_, ?_, ?_, ?_⟩
  · show 0 ≤ (edS q.1 q.2 p).rev
    unfold edS; split <;> exact h.rev
  · show D[(edS q.1 q.2 p).rev.toNat]? = some (edS q.1 q.2 p).seen
    unfold edS; split <;> exact h.seen
  · show 0 ≤ (edS q.1 q.2 p).id ∧ (edS q.1 q.2 p).id + (if 2 ≤ (edS q.1 q.2 p).mine.length then 1 else 0) ≤ n + 1
    unfold edS
    split
    · simp only
      rcases hm : q.2.mine with _ | ⟨m, _ | ⟨m2, ms⟩⟩
      · rw [hm] at h2; simp [addM] at h2 ⊢; omega
      · rw [hm] at h2; simp [addM] at h2 ⊢; omega
      · rw [hm] at h2; simp [addM] at h2 ⊢; omega
    · exact ⟨h2.1, by omega⟩
  · show 0 ≤ (edS q.1 q.2 p).drops ∧ (edS q.1 q.2 p).drops + (if (edS q.1 q.2 p).mine = [] then 0 else 1) ≤ (edS q.1 q.2 p).id
    unfold edS
    split
    · simp only
      rcases hm : q.2.mine with _ | ⟨m, _ | ⟨m2, ms⟩⟩
      · rw [hm] at h3; simp [addM] at h3 ⊢; omega
      · rw [hm] at h3; simp [addM] at h3 ⊢; omega
      · rw [hm] at h3; simp [addM] at h3 ⊢; omega
    · exact h3
theorem okCl_refuse {n : Int} {D : List (List UInt8)} {q : Int × Cl} (h : okCl n D q) (i : Int) : okCl n D (q.1, rfS q.2 i) := by
  have hk := okK_refuse h.ok i
  have h2 := h.id; have h3 := h.dr
  refine ⟨h.unit, hk, ?_, ?_, ?_, ?_⟩
  · show 0 ≤ (rfS q.2 i).rev
    unfold rfS; split <;> exact h.rev
  · show D[(rfS q.2 i).rev.toNat]? = some (rfS q.2 i).seen
    unfold rfS; split <;> exact h.seen
  · show 0 ≤ (rfS q.2 i).id ∧ (rfS q.2 i).id + (if 2 ≤ (rfS q.2 i).mine.length then 1 else 0) ≤ n
    unfold rfS
    split
    · refine ⟨h2.1, ?_⟩
      simp only [List.length_nil]
      split at h2 <;> simp <;> omega
    · exact h2
  · show 0 ≤ (rfS q.2 i).drops ∧ (rfS q.2 i).drops + (if (rfS q.2 i).mine = [] then 0 else 1) ≤ (rfS q.2 i).id
    unfold rfS
    split
    · rename_i hm
      rw [if_neg hm.1] at h3
      simp only [if_true]
      omega
    · exact h3
theorem okCl_take {n : Int} {D : List (List UInt8)} {E : List SE} {q : Int × Cl} (h : okCl n D q) (hl : Lk E D) (who : Int) {rev : Int} {x : SE} (hx : E[rev.toNat]? = some x) : okCl n D (q.1, tkS who q.2 rev x.c x.i x.op) := by
  have hsm := h.small hl
  have hpu := hl.puts hx
  have hk := okK_take (who := who) h.ok rev x.c x.i x.op (by omega)
  have h2 := h.id; have h3 := h.dr; have h4 := h.ok.two
  by_cases hn : rev ≠ q.2.rev ∨ tkE who q.2 rev x.c x.i x.op ≠ 0
  · have e : tkS who q.2 rev x.c x.i x.op = q.2 := if_pos hn
    rw [e]; exact h
  obtain ⟨e1, _, _⟩ := tk_no hn
  subst e1
  obtain ⟨g, hd⟩ := hl.link _ _ _ hx h.seen
  have hr1 : (q.2.rev + 1).toNat = q.2.rev.toNat + 1 := by have := h.rev; omega
  have hr0 := h.rev
  by_cases ho : isOwn who q.2 x.c x.i
  · have e : tkS who q.2 q.2.rev x.c x.i x.op = { q.2 with seen := applyP x.op q.2.seen, rev := q.2.rev + 1, mine := q.2.mine.tail, id := if q.2.mine.tail ≠ [] then q.2.id + 1 else q.2.id } := by unfold tkS; rw [if_neg hn, if_pos ho]
    rw [e] at hk ⊢
    refine ⟨h.unit, hk, ?_, ?_, ?_, ?_⟩
    · show 0 ≤ q.2.rev + 1
      omega
    · show D[(q.2.rev + 1).toNat]? = some (applyP x.op q.2.seen)
      rw [hr1]; exact hd
    · simp only
      rcases hm : q.2.mine with _ | ⟨m, _ | ⟨m2, _ | ⟨m3, ms⟩⟩⟩
      · exact absurd hm ho.1
      · rw [hm] at h2; simp at h2 ⊢; omega
      · rw [hm] at h2; simp at h2 ⊢; omega
      · rw [hm] at h4; simp at h4
    · simp only
      rcases hm : q.2.mine with _ | ⟨m, _ | ⟨m2, _ | ⟨m3, ms⟩⟩⟩
      · exact absurd hm ho.1
      · rw [hm] at h3; simp at h3 ⊢; omega
      · rw [hm] at h3; simp at h3 ⊢; omega
      · rw [hm] at h4; simp at h4
  · have e : tkS who q.2 q.2.rev x.c x.i x.op = { q.2 with seen := applyP x.op q.2.seen, rev := q.2.rev + 1, mine := (turnM q.2.mine x.op).1, doc := applyP (turnM q.2.mine x.op).2 q.2.doc } := by unfold tkS; rw [if_neg hn, if_neg ho]
    rw [e] at hk ⊢
    have hml := turnM_len q.2.mine x.op
    refine ⟨h.unit, hk, ?_, ?_, ?_, ?_⟩
    · show 0 ≤ q.2.rev + 1
      omega
    · show D[(q.2.rev + 1).toNat]? = some (applyP x.op q.2.seen)
      rw [hr1]; exact hd
    · show 0 ≤ q.2.id ∧ q.2.id + (if 2 ≤ (turnM q.2.mine x.op).1.length then 1 else 0) ≤ n
      rw [hml]; exact h2
    · show 0 ≤ q.2.drops ∧ q.2.drops + (if (turnM q.2.mine x.op).1 = [] then 0 else 1) ≤ q.2.id
      have : ((turnM q.2.mine x.op).1 = []) ↔ (q.2.mine = []) := by
        rw [← List.length_eq_zero_iff, ← List.length_eq_zero_iff, hml]
      simp only [this]; exact h3

/-! packets -/
theorem Inv.send {l0 n : Int} {D : List (List UInt8)} {R : Rm} (h : Inv l0 n D R) {p : Pk} (hp : okPk R.E D R.cl.length p) : Inv l0 n D (sendR R p) := by
  unfold sendR
  split
  · exact ⟨h.srv, h.docs, h.lk, h.few, h.cls, h.pks, h.room⟩
  · refine ⟨h.srv, h.docs, h.lk, h.few, h.cls, fun x hx => ?_, ?_⟩
    · rcases List.mem_append.1 hx with hx | hx
      · exact h.pks x hx
      · rw [List.mem_singleton.1 hx]; exact hp
    · show (R.fl ++ [p]).length ≤ 400
      rw [List.length_append, List.length_singleton]; omega
theorem send_keeps (R : Rm) (p : Pk) : (sendR R p).t = R.t ∧ (sendR R p).E = R.E ∧ (sendR R p).M = R.M ∧ (sendR R p).n = R.n ∧ (sendR R p).cl = R.cl := by
  unfold sendR; split <;> exact ⟨rfl, rfl, rfl, rfl, rfl⟩
theorem tellL_keeps (k : Nat) : ∀ (xs : List SE) (f : Int) (R : Rm), (tellL k f xs R).t = R.t ∧ (tellL k f xs R).E = R.E ∧ (tellL k f xs R).M = R.M ∧ (tellL k f xs R).n = R.n ∧ (tellL k f xs R).cl = R.cl
  | [], _, _ => ⟨rfl, rfl, rfl, rfl, rfl⟩
  | x :: xs, f, R => by
    obtain ⟨a, b, c, d, e⟩ := tellL_keeps k xs (f + 1) (sendR R ⟨3, k, f, 0, x⟩)
    obtain ⟨a', b', c', d', e'⟩ := send_keeps R ⟨3, k, f, 0, x⟩
    exact ⟨a.trans a', b.trans b', c.trans c', d.trans d', e.trans e'⟩
theorem tellR_keeps (R : Rm) (k : Nat) (f : Int) : (tellR R k f).t = R.t ∧ (tellR R k f).E = R.E ∧ (tellR R k f).M = R.M ∧ (tellR R k f).n = R.n ∧ (tellR R k f).cl = R.cl := by
  unfold tellR
  split
  · exact ⟨rfl, rfl, rfl, rfl, rfl⟩
  · exact tellL_keeps k _ _ _
theorem Inv.tellM {l0 n : Int} {D : List (List UInt8)} {k : Nat} : ∀ (xs : List SE) (f : Nat) (R : Rm), Inv l0 n D R → k < R.cl.length → R.E.drop f = xs → Inv l0 n D (tellL k (f : Int) xs R)
  | [], _, _, h, _, _ => h
  | x :: xs, f, R, h, hk, hd => by
    have hf : f < R.E.length := by
      rcases Nat.lt_or_ge f R.E.length with h | h
      · exact h
      · rw [List.drop_eq_nil_of_le h] at hd; cases hd
    have hx : R.E[f]? = some x := by
      rw [List.drop_eq_getElem_cons hf] at hd
      injection hd with h1 h2
      rw [List.getElem?_eq_getElem hf, h1]
    have hr : R.E.drop (f + 1) = xs := by
      rw [List.drop_eq_getElem_cons hf] at hd
      injection hd with h1 h2
    obtain ⟨_, b', _, _, e'⟩ := send_keeps R ⟨3, k, f, 0, x⟩
    have h1 : Inv l0 n D (sendR R ⟨3, k, f, 0, x⟩) := h.send ⟨hk, .inr (.inr (.inl rfl)), ⟨Int.natCast_nonneg _, by show (f : Int) ≤ _; omega⟩, fun e => (by cases e), fun _ => hx⟩
    have := Inv.tellM xs (f + 1) _ h1 (by rw [e']; exact hk) (by rw [b']; exact hr)
    rw [show (((f + 1 : Nat) : Int)) = (f : Int) + 1 by omega] at this
    exact this
theorem Inv.tellK {l0 n : Int} {D : List (List UInt8)} {R : Rm} (h : Inv l0 n D R) {k : Nat} (hk : k < R.cl.length) (f : Int) : Inv l0 n D (tellR R k f) := by
  unfold tellR
  split
  · exact h
  · rename_i hf
    obtain ⟨m, rfl⟩ : ∃ m : Nat, f = (m : Int) := ⟨f.toNat, by omega⟩
    rw [Int.toNat_natCast]
    exact Inv.tellM _ m R h hk rfl
theorem Inv.out {l0 n : Int} {D : List (List UInt8)} {R : Rm} (h : Inv l0 n D R) (i : Nat) : Inv l0 n D (outR R i) :=
  ⟨h.srv, h.docs, h.lk, h.few, h.cls, fun p hp => h.pks p (List.mem_of_mem_eraseIdx hp), Nat.le_trans (List.length_eraseIdx_le _ _) h.room⟩
/-- A server is told something: what is kept then. -/
theorem Inv.srvK {l0 n : Int} {D : List (List UInt8)} {R : Rm} (h : Inv l0 n D R) {p : Pk} (hp : okPk R.E D R.cl.length p) (hk : p.kind = 1) :
    ∃ D', Inv l0 n D' (srvR l0 R p) ∧ (∀ (i : Nat) (d : List UInt8), D[i]? = some d → D'[i]? = some d) ∧ (∀ (i : Nat) (x : SE), R.E[i]? = some x → (srvR l0 R p).E[i]? = some x) ∧ ((srvR l0 R p).E = R.E ∧ (srvR l0 R p).t = R.t ∧ D' = D ∨ (srvR l0 R p).E.length = R.E.length + 1 ∧ D' = D ++ [(srvR l0 R p).t]) := by
  obtain ⟨hc, hi, d, hd, hg, hpu⟩ := hp.ask hk
  have hp4 : putsP p.x.op ≤ 40000 := by omega
  obtain ⟨n1, n2, n3⟩ := st_next (c := p.c) (i := p.id) (rev := p.rev) (M := R.M) h.srv h.docs hp4
  have hE : (srvR l0 R p).E = stL l0 R.t R.E R.M p.c p.id p.rev p.x.op := rfl
  have ht : (srvR l0 R p).t = stT l0 R.t R.E R.M p.c p.id p.rev p.x.op := rfl
  by_cases hsame : isOld R.M p.c p.id ∨ doE l0 R.t R.E p.rev p.x.op ≠ 0
  · have e1 : stL l0 R.t R.E R.M p.c p.id p.rev p.x.op = R.E := by
      unfold stL
      by_cases ho : isOld R.M p.c p.id
      · rw [if_pos ho]
      · rw [if_neg ho]; unfold doL; rw [if_neg (hsame.resolve_left ho)]
    have e2 : stT l0 R.t R.E R.M p.c p.id p.rev p.x.op = R.t := by
      unfold stT
      by_cases ho : isOld R.M p.c p.id
      · rw [if_pos ho]
      · rw [if_neg ho]; unfold doT; rw [if_neg (hsame.resolve_left ho)]
    refine ⟨D, ⟨?_, ?_, ?_, ?_, h.cls, fun x hx => ?_, h.room⟩, fun _ _ h => h, fun i x hx => by rw [hE, e1]; exact hx, .inl ⟨by rw [hE, e1], by rw [ht, e2], rfl⟩⟩
    · rw [hE, ht, e1, e2]; exact h.srv
    · rw [hE, ht, e1, e2]; exact h.docs
    · rw [hE, e1]; exact h.lk
    · rw [hE, e1]; exact h.few
    · rw [hE, e1]; exact h.pks x hx
  · have ho : ¬ isOld R.M p.c p.id := fun e => hsame (.inl e)
    have hz : doE l0 R.t R.E p.rev p.x.op = 0 := by
      by_cases e : doE l0 R.t R.E p.rev p.x.op = 0
      · exact e
      · exact absurd (.inr e) hsame
    have e1 : stL l0 R.t R.E R.M p.c p.id p.rev p.x.op = R.E ++ [⟨p.c, p.id, turnS p.x.op (R.E.drop p.rev.toNat)⟩] := by
      unfold stL; rw [if_neg ho]; unfold doL; rw [if_pos hz]
    have e2 : stT l0 R.t R.E R.M p.c p.id p.rev p.x.op = applyP (turnS p.x.op (R.E.drop p.rev.toNat)) R.t := by
      unfold stT; rw [if_neg ho]; unfold doT; rw [if_pos hz]
    have e3 : stD l0 R.t R.E D R.M p.c p.id p.rev p.x.op = D ++ [applyP (turnS p.x.op (R.E.drop p.rev.toNat)) R.t] := by
      unfold stD; rw [if_neg ho]; unfold doD; rw [if_pos hz]
    have hf : R.E.length < 300 := by
      unfold doE at hz
      split at hz
      · cases hz
      split at hz
      · cases hz
      · omega
    have hord : ordE (turnS p.x.op (R.E.drop p.rev.toNat)) R.t = 0 := by
      unfold doE at hz
      split at hz
      · cases hz
      split at hz
      · cases hz
      split at hz
      · rename_i h1; exact absurd hz h1
      split at hz
      · rename_i h1; exact absurd hz h1
      · rename_i h1; simpa using h1
    have hgt := good_of_ord h.srv.text hord
    generalize hop : turnS p.x.op (R.E.drop p.rev.toNat) = op' at *
    have hlen := h.lk.len
    have hlast := h.docs.last
    have hDm : ∀ (i : Nat) (d : List UInt8), D[i]? = some d → (D ++ [applyP op' R.t])[i]? = some d := fun i d hd => by
      have := (List.getElem?_eq_some_iff.1 hd).1
      rw [List.getElem?_append_left this]; exact hd
    have hEm : ∀ (i : Nat) (x : SE), R.E[i]? = some x → (R.E ++ [(⟨p.c, p.id, op'⟩ : SE)])[i]? = some x := fun i x hx => by
      have := (List.getElem?_eq_some_iff.1 hx).1
      rw [List.getElem?_append_left this]; exact hx
    have hroom := n1.room
    rw [e2] at hroom
    have hlk : Lk (R.E ++ [⟨p.c, p.id, op'⟩]) (D ++ [applyP op' R.t]) := by
      refine ⟨by simp [hlen], fun i x d hx hd => ?_, fun d hd => ?_⟩
      · rcases Nat.lt_or_ge i R.E.length with hi | hi
        · rw [List.getElem?_append_left hi] at hx
          rw [List.getElem?_append_left (by omega)] at hd
          obtain ⟨g, h1⟩ := h.lk.link i x d hx hd
          exact ⟨g, hDm _ _ h1⟩
        · have : i < (R.E ++ [(⟨p.c, p.id, op'⟩ : SE)]).length := (List.getElem?_eq_some_iff.1 hx).1
          have hie : i = R.E.length := by simp at this; omega
          subst hie
          rw [List.getElem?_append_right (Nat.le_refl _), Nat.sub_self] at hx
          obtain rfl : (⟨p.c, p.id, op'⟩ : SE) = x := by simpa using hx
          rw [List.getElem?_append_left (by omega), hlast] at hd
          obtain rfl := Option.some.inj hd
          refine ⟨hgt, ?_⟩
          rw [← hlen, List.getElem?_append_right (Nat.le_refl _), Nat.sub_self]
          rfl
      · rcases List.mem_append.1 hd with hd | hd
        · exact h.lk.fair d hd
        · rw [List.mem_singleton.1 hd]
          exact ⟨apply_V hgt.al, hroom⟩
    refine ⟨D ++ [applyP op' R.t], ⟨n1, ?_, ?_, ?_, fun k q hq => (h.cls k q hq).more (Int.le_refl _) hDm, fun x hx => ?_, h.room⟩, hDm, fun i x hx => by rw [hE, e1]; exact hEm i x hx, .inr ⟨by rw [hE, e1]; simp, by rw [ht, e2]⟩⟩
    · rw [← e3]; exact n2
    · rw [hE, e1]; exact hlk
    · rw [hE, e1]; simp; omega
    · rw [hE, e1]; exact (h.pks x hx).more hEm (by simp) hDm
end Go.Proofs.YtedgnlgjmnccgabGreatDoor
