/-
  The two servers in memory.
-/
import Derived.Test.YtedgnlgjmnccgabGreatDoorSrvTurn
import Derived.Test.YtedgnlgjmnccgabGreatDoorOpsOrd
import Derived.Test.YtedgnlgjmnccgabGreatDoorOpsInv
import Derived.Test.YtedgnlgjmnccgabGreatDoorOpsChk
import Derived.Test.YtedgnlgjmnccgabGreatDoorHalves
import Derived.Test.YtedgnlgjmnccgabGreatDoorBackPure
import Derived.Deep.RegionWith
import Derived.Deep.QuietTactic
import Derived.BigQuiet
import Derived.Test.YtedgnlgjmnccgabGreatDoorUtf
import Derived.Test.YtedgnlgjmnccgabGreatDoorOpsGoodL
namespace Go.Proofs.YtedgnlgjmnccgabGreatDoor
open Go.RowKit Go.Maps
set_option linter.unusedVariables false

theorem sameBut.comp {w w' w'' : World} {S S' : Nat → Prop} (h : sameBut w w' S) (h' : sameBut w' w'' S') (hs : ∀ k, k < w.heap.size → S' k → S k) : sameBut w w'' S :=
  ⟨Nat.le_trans h.1 h'.1, fun k hk hn => (h'.2 k (Nat.lt_of_lt_of_le hk h.1) fun e => hn (hs k hk e)).trans (h.2 k hk hn), h'.os.trans h.os, h'.tape.trans h.tape, h'.output.trans h.output⟩
theorem noPart_of {w : World} {k : Nat} {cs : Array Value} {T : TypeId} {fz : Nat × Nat} (h : w.heap[k]? = some (.cells cs T fz)) (hT : T ≠ 50) : noPart w k := fun cs' fz' e => by
  rw [h] at e
  injection e with e
  injection e with _ e2
  exact hT e2
theorem noCells_map {w : World} {k n : Nat} {M : Told} (h : isLast n w k M) : ∀ cs T fz, w.heap[k]? ≠ some (.cells cs T fz) := fun cs T fz e => by
  obtain ⟨D, ⟨es, clock, hb, _⟩, _⟩ := h
  rw [hb] at e
  injection e with e
  cases e
theorem isLast_lt {n : Nat} {w : World} {bm : Nat} {M : Told} (h : isLast n w bm M) : bm < w.heap.size := by
  obtain ⟨D, h1, _⟩ := h
  exact h1.lt
/-- What a log's changes may change. -/
theorem log_own {e lo base : Nat} {w : World} {v1 : Value} {E : List SE} (h : isLog e lo base w v1 E) {k : Nat} (hk : v1.ownBlock = some k) : base ≤ k ∧ k < w.heap.size ∧ ∃ cs, w.heap[k]? = some (.cells cs e (0, 0)) := by
  obtain ⟨vs, _, h2, _⟩ := h
  rcases h2.2 with ⟨rfl, _⟩ | ⟨g, cap, cur, rfl, h3, h4, _⟩
  · cases hk
  · obtain rfl : g = k := Option.some.inj hk
    exact ⟨h3, (Array.getElem?_eq_some_iff.1 h4).1, _, h4⟩
theorem isLog_nil (e lo base : Nat) (w : World) : isLog e lo base w (.slice none 0 0) [] := ⟨[], rfl, World.ownsRow_nil _ _ _ _, fun i x v hx => by simp at hx⟩
theorem opX_same {lo : Nat} {w w' : World} {v : Value} {ps : List Pt} {S : Nat → Prop} (h : opX lo w v ps) (hs : sameBut w w' S) (hS : ∀ k, k < w.heap.size → S k → lo ≤ k ∧ noPart w k) : opX lo w' v ps :=
  opX_but (S := fun k => k < w.heap.size ∧ S k) h ⟨hs.1, fun k hk hn => hs.2 k hk fun e => hn ⟨hk, e⟩, hs.os, hs.tape, hs.output⟩ fun k e => hS k e.1 e.2
/-- An entry more. -/
theorem isLog_snoc {e lo base : Nat} {w w' : World} {v1 v2 vx : Value} {E : List SE} {x : SE} (he : e ≠ 50) (hlb : lo ≤ base) {vs : List Value} (h1 : vs.length = E.length) (h2 : w.ownsRow base e 3 v1 E.length (logC E vs))
    (h3 : ∀ (i : Nat) (y : SE) (v : Value), E[i]? = some y → vs[i]? = some v → opX lo w v y.op) (hx : opX lo w vx x.op) (hg : w.grownBy w' v1.ownBlock) (hnew : w'.ownsRow base e 3 v2 (E.length + 1) (logC E vs ++ [.int .i64 x.c, .int .i64 x.i, vx])) : isLog e lo base w' v2 (E ++ [x]) := by
  have hk := fun k => log_own (k := k) ⟨vs, h1, h2, h3⟩
  have hs : sameBut w w' fun k => v1.ownBlock = some k := sameBut_grown hg fun k e => e
  have hS : ∀ k, k < w.heap.size → v1.ownBlock = some k → lo ≤ k ∧ noPart w k := fun k _ hkk => by
    obtain ⟨a, b, cs, c⟩ := hk k hkk
    exact ⟨Nat.le_trans hlb a, noPart_of c he⟩
  refine ⟨vs ++ [vx], by simp [h1], ?_, fun i y v hy hv => ?_⟩
  · rw [logC_snoc E vs h1, List.length_append]
    exact hnew
  · rcases Nat.lt_or_ge i E.length with hi | hi
    · rw [List.getElem?_append_left hi] at hy
      rw [List.getElem?_append_left (by omega)] at hv
      exact opX_same (h3 i y v hy hv) hs hS
    · have : i = E.length := by
        rcases Nat.lt_or_ge E.length i with h | h
        · rw [List.getElem?_append_right hi] at hy
          obtain ⟨j, hj⟩ : ∃ j, i - E.length = j + 1 := ⟨i - E.length - 1, by omega⟩
          rw [hj] at hy; simp at hy
        · omega
      subst this
      rw [List.getElem?_append_right (Nat.le_refl _), Nat.sub_self] at hy
      rw [List.getElem?_append_right (by omega), h1, Nat.sub_self] at hv
      obtain rfl : x = y := by simpa using hy
      obtain rfl : vx = v := by simpa using hv
      exact opX_same hx hs hS

/-- A server: its own three blocks (its struct, its log's row, its map). -/
def isSrv (lo n : Nat) (w : World) (b bm : Nat) (t : List UInt8) (E : List SE) (M : Told) : Prop :=
  lo ≤ b ∧ lo ≤ bm ∧ (∃ v1, w.heap[b]? = some (.cells #[.string ⟨t.toArray⟩, v1, .map (some bm)] 196 (0, 0)) ∧ isLog 105 lo lo w v1 E) ∧ isLast n w bm M
/-- What one server's changes change: blocks that it alone has. -/
def touchS (lo : Nat) (w : World) (bm k : Nat) : Prop := lo ≤ k ∧ (k = bm ∨ ∃ cs T, w.heap[k]? = some (.cells cs T (0, 0)) ∧ (T = 196 ∨ T = 105))
def docsC (D : List (List UInt8)) : List Value := D.map fun d => .string ⟨d.toArray⟩
def isRef (lo n : Nat) (w : World) (b bm : Nat) (D : List (List UInt8)) (E : List SE) (M : Told) : Prop :=
  lo ≤ b ∧ lo ≤ bm ∧ (∃ v0 v1, w.heap[b]? = some (.cells #[v0, v1, .map (some bm)] 84 (0, 0)) ∧ w.ownsRow lo 9 1 v0 D.length (docsC D) ∧ isLog 103 lo lo w v1 E) ∧ isLast n w bm M
theorem not_type {w : World} {k : Nat} {cs cs' : Array Value} {T T' : TypeId} {fz fz' : Nat × Nat} (h : w.heap[k]? = some (.cells cs T fz)) (h' : w.heap[k]? = some (.cells cs' T' fz')) : T = T' := by
  rw [h] at h'
  injection h' with e
  injection e with _ e2
theorem isSrv_below {lo n : Nat} {w w' : World} {b bm : Nat} {t : List UInt8} {E : List SE} {M : Told} (h : isSrv lo n w b bm t E M) (hb : Below w.heap.size w w') : isSrv lo n w' b bm t E M := by
  obtain ⟨h1, h2, ⟨v1, h3, h4⟩, h5⟩ := h
  exact ⟨h1, h2, ⟨v1, (hb.block b (Array.getElem?_eq_some_iff.1 h3).1).trans h3, isLog_below h4 hb⟩, isLast_but (S := fun _ => False) h5 (sameBut_below hb _) id⟩
theorem isRef_below {lo n : Nat} {w w' : World} {b bm : Nat} {D : List (List UInt8)} {E : List SE} {M : Told} (h : isRef lo n w b bm D E M) (hb : Below w.heap.size w w') : isRef lo n w' b bm D E M := by
  obtain ⟨h1, h2, ⟨v0, v1, h3, h30, h4⟩, h5⟩ := h
  exact ⟨h1, h2, ⟨v0, v1, (hb.block b (Array.getElem?_eq_some_iff.1 h3).1).trans h3, own_below h30 hb, isLog_below h4 hb⟩, isLast_but (S := fun _ => False) h5 (sameBut_below hb _) id⟩

/-! what is done -/
def doE (l0 : Int) (t : List UInt8) (E : List SE) (rev : Int) (ps : List Pt) : Int :=
  if rev < 0 ∨ (E.length : Int) < rev then 2 else if 300 ≤ E.length then 4
  else if chkE ps (endE l0 (E.take rev.toNat)) ≠ 0 then chkE ps (endE l0 (E.take rev.toNat))
  else if ordE (turnS ps (E.drop rev.toNat)) t ≠ 0 then ordE (turnS ps (E.drop rev.toNat)) t
  else if 2000 < (applyP (turnS ps (E.drop rev.toNat)) t).length then 12 else 0
/-- What a server keeps of what it was told. -/
structure okS (l0 : Int) (t : List UInt8) (E : List SE) : Prop where
  text : V t
  room : t.length ≤ 2000
  pos : 0 ≤ l0
  top : l0 ≤ 3000
  chain : chainE l0 E
  last : endE l0 E = t.length
theorem chain_snoc : ∀ (E : List SE) (l0 : Int) (x : SE), chainE l0 E → okOp x.op (endE l0 E) → putsP x.op ≤ 40000 → 0 ≤ (x.op.map isP).sum → (x.op.map isP).sum ≤ 3000 → chainE l0 (E ++ [x]) ∧ endE l0 (E ++ [x]) = (x.op.map isP).sum
  | [], l0, x, _, h1, h2, h3, h4 => ⟨⟨h1, h2, h3, h4, trivial⟩, rfl⟩
  | y :: E, l0, x, h, h1, h2, h3, h4 => by
    obtain ⟨c1, c2, c3, c4, c5⟩ := h
    obtain ⟨i1, i2⟩ := chain_snoc E _ x c5 h1 h2 h3 h4
    exact ⟨⟨c1, c2, c3, c4, i1⟩, i2⟩
theorem chain_drop : ∀ (E : List SE) (l0 : Int) (k : Nat), chainE l0 E → chainE (endE l0 (E.take k)) (E.drop k) ∧ endE (endE l0 (E.take k)) (E.drop k) = endE l0 E
  | E, l0, 0, h => ⟨h, rfl⟩
  | [], l0, k + 1, _ => ⟨trivial, rfl⟩
  | y :: E, l0, k + 1, h => chain_drop E _ k h.2.2.2.2
theorem end_take_le : ∀ (E : List SE) (l0 : Int) (k : Nat), chainE l0 E → 0 ≤ l0 → l0 ≤ 3000 → 0 ≤ endE l0 (E.take k) ∧ endE l0 (E.take k) ≤ 3000
  | E, l0, 0, _, h, h' => ⟨h, h'⟩
  | [], l0, k + 1, _, h, h' => ⟨h, h'⟩
  | y :: E, l0, k + 1, h, _, _ => end_take_le E _ k h.2.2.2.2 h.2.2.1 h.2.2.2.1
/-- What comes in without an error is turned into what has none over the text's bytes. -/
theorem do_turned {l0 : Int} {t : List UInt8} {E : List SE} (h : okS l0 t E) {ps : List Pt} {k : Nat} (hp : putsP ps ≤ 40000) (hc : chkE ps (endE l0 (E.take k)) = 0) : okOp (turnS ps (E.drop k)) t.length ∧ putsP (turnS ps (E.drop k)) = putsP ps := by
  obtain ⟨c1, c2⟩ := chain_drop E l0 k h.chain
  obtain ⟨e1, e2⟩ := end_take_le E l0 k h.chain h.pos h.top
  obtain ⟨k1, k2⟩ := turnS_ok (E.drop k) ps _ (okOp_of_chk hc) hp e2 c1
  rw [c2, h.last] at k1
  exact ⟨k1, k2⟩
theorem do_next {l0 : Int} {t : List UInt8} {E : List SE} (h : okS l0 t E) {ps : List Pt} {c i rev : Int} (hp : putsP ps ≤ 40000) (hd : doE l0 t E rev ps = 0) :
    okS l0 (applyP (turnS ps (E.drop rev.toNat)) t) (E ++ [⟨c, i, turnS ps (E.drop rev.toNat)⟩]) := by
  unfold doE at hd
  split at hd
  · cases hd
  split at hd
  · cases hd
  split at hd
  · rename_i h1; exact absurd hd h1
  rename_i hc
  split at hd
  · rename_i h1; exact absurd hd h1
  rename_i ho
  split at hd
  · cases hd
  rename_i hl
  have hc : chkE ps (endE l0 (E.take rev.toNat)) = 0 := by simpa using hc
  have ho : ordE (turnS ps (E.drop rev.toNat)) t = 0 := by simpa using ho
  obtain ⟨k1, k2⟩ := do_turned h hp hc
  have hg := good_of_ord h.text ho
  have hlen := apply_len _ t hg.left
  obtain ⟨i1, i2⟩ := chain_snoc E l0 ⟨c, i, turnS ps (E.drop rev.toNat)⟩ h.chain (by rw [h.last]; exact k1) (by rw [k2]; exact hp) (by rw [← hlen]; omega) (by rw [← hlen]; omega)
  exact ⟨apply_V hg.al, by omega, h.pos, h.top, i1, by rw [i2, hlen]⟩
end Go.Proofs.YtedgnlgjmnccgabGreatDoor
