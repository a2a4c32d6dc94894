/-
  What servers keep in memory: operations in rows of parts, logs of entries, texts, maps of a number to two.
-/
import Derived.Test.YtedgnlgjmnccgabGreatDoorOpsCheckLaw
import Derived.Maps.OwnSet
import Derived.Maps.Views
namespace Go.Proofs.YtedgnlgjmnccgabGreatDoor
open Go.RowKit Go.Maps
set_option linter.unusedVariables false

/-- All blocks but some are as they were. -/
structure sameBut (w w' : World) (S : Nat → Prop) : Prop where
  size : w.heap.size ≤ w'.heap.size
  block : ∀ k, k < w.heap.size → ¬ S k → w'.heap[k]? = w.heap[k]?
  os : w'.os = w.os
  tape : w'.tape = w.tape
  output : w'.output = w.output
theorem sameBut_below {w w' : World} (h : Below w.heap.size w w') (S : Nat → Prop) : sameBut w w' S := ⟨h.size, fun k hk _ => h.block k hk, h.os, h.tape, h.output⟩
theorem sameBut_refl (w : World) (S : Nat → Prop) : sameBut w w S := ⟨Nat.le_refl _, fun _ _ _ => rfl, rfl, rfl, rfl⟩
theorem sameBut.trans {w w' w'' : World} {S : Nat → Prop} (h : sameBut w w' S) (h' : sameBut w' w'' S) : sameBut w w'' S :=
  ⟨Nat.le_trans h.1 h'.1, fun k hk hs => (h'.2 k (Nat.lt_of_lt_of_le hk h.1) hs).trans (h.2 k hk hs), h'.os.trans h.os, h'.tape.trans h.tape, h'.output.trans h.output⟩
theorem sameBut.mono {w w' : World} {S S' : Nat → Prop} (h : sameBut w w' S) (hs : ∀ k, k < w.heap.size → S k → S' k) : sameBut w w' S' :=
  ⟨h.1, fun k hk hn => h.2 k hk fun e => hn (hs k hk e), h.os, h.tape, h.output⟩
theorem sameBut_set {w : World} {b o : Nat} {v : Value} {S : Nat → Prop} (hS : S b) : sameBut w (w.setCell ⟨b, o, none⟩ v) S :=
  ⟨by simp, fun k hk hn => Below.heap_setCell w ⟨b, o, none⟩ v k (fun e => hn (e ▸ hS)), rfl, rfl, rfl⟩
theorem sameBut_grown {w w' : World} {row : Option Nat} {S : Nat → Prop} (h : w.grownBy w' row) (hS : ∀ k, row = some k → S k) : sameBut w w' S :=
  ⟨h.size, fun k hk hn => h.block k hk fun e => hn (hS k e.symm), h.os, h.tape, h.output⟩

theorem cell_same {w w' : World} {S : Nat → Prop} (h : sameBut w w' S) {b o : Nat} {v : Value} (hc : w.cell? ⟨b, o, none⟩ = some v) (hS : ¬ S b) : w'.cell? ⟨b, o, none⟩ = some v :=
  (World.cell?_of_block (w := w) (a := ⟨b, o, none⟩) (h.2 b (World.block_lt_of_cell? w _ hc) hS)).trans hc

/-- An operation in a row of parts, or handed in. -/
def opX (lo : Nat) (w : World) (v : Value) (ps : List Pt) : Prop := opAt w v ps ∧ (ps ≠ [] → ∀ k, v.ownBlock = some k → k < lo ∨ ∃ cs fz, w.heap[k]? = some (.cells cs 50 fz))
def noPart (w : World) (k : Nat) : Prop := ∀ cs fz, w.heap[k]? ≠ some (.cells cs 50 fz)
theorem opX_of_new {B lo : Nat} {w : World} {v : Value} {ps : List Pt} (h : opN B w v ps) : opX lo w v ps := ⟨h.1, fun _ k hk => .inr (h.2 k hk).2⟩
theorem opX_own {B lo : Nat} {w : World} {v : Value} {ps : List Pt} (h : w.ownsRow B 50 3 v ps.length (cellsP ps)) : opX lo w v ps := opX_of_new (opN_own (Nat.le_refl B) h)
theorem opX_but {lo : Nat} {w w' : World} {v : Value} {ps : List Pt} {S : Nat → Prop} (h : opX lo w v ps) (hs : sameBut w w' S) (hS : ∀ k, S k → lo ≤ k ∧ noPart w k) : opX lo w' v ps := by
  obtain ⟨⟨p, c, rfl, h1, h2, h3⟩, ht⟩ := h
  have hn : ps ≠ [] → ∀ b o, p = some ⟨b, o, none⟩ → ¬ S b := fun hne b o e hSb => by
    obtain ⟨s1, s2⟩ := hS b hSb
    rcases ht hne b (by rw [e]; rfl) with h | ⟨cs, fz, h⟩
    · omega
    · exact s2 cs fz h
  refine ⟨⟨p, c, rfl, h1, h2, fun hne => ?_⟩, fun hne k hk => ?_⟩
  · obtain ⟨b, o, e, hb, hc⟩ := h3 hne
    refine ⟨b, o, e, Nat.lt_of_lt_of_le hb hs.1, fun i q hi => ?_⟩
    obtain ⟨c0, c1, c2⟩ := hc i q hi
    exact ⟨cell_same hs c0 (hn hne b o e), cell_same hs c1 (hn hne b o e), cell_same hs c2 (hn hne b o e)⟩
  · rcases ht hne k hk with h | ⟨cs, fz, h⟩
    · exact .inl h
    · refine .inr ⟨cs, fz, (hs.2 k (Array.getElem?_eq_some_iff.1 h).1 fun hSk => (hS k hSk).2 cs fz h).trans h⟩
theorem opX_grown {lo : Nat} {w w' : World} {v : Value} {ps : List Pt} (h : opX lo w v ps) (hb : Below w.heap.size w w') : opX lo w' v ps :=
  opX_but (S := fun _ => False) h (sameBut_below hb _) fun _ h => h.elim

/-- Who, which, and what. -/
structure SE where
  c : Int
  i : Int
  op : List Pt
def logC (E : List SE) (vs : List Value) : List Value := (E.zip vs).flatMap fun x => [.int .i64 x.1.c, .int .i64 x.1.i, x.2]
theorem logC_get : ∀ (E : List SE) (vs : List Value) (i : Nat) (x : SE) (v : Value), E[i]? = some x → vs[i]? = some v → (logC E vs)[i * 3]? = some (.int .i64 x.c) ∧ (logC E vs)[i * 3 + 1]? = some (.int .i64 x.i) ∧ (logC E vs)[i * 3 + 2]? = some v
  | [], _, _, _, _, h, _ => by simp at h
  | _ :: _, [], _, _, _, _, h => by simp at h
  | y :: E, u :: vs, 0, x, v, h, h2 => by
    obtain rfl : y = x := by simpa using h
    obtain rfl : u = v := by simpa using h2
    exact ⟨rfl, rfl, rfl⟩
  | y :: E, u :: vs, i + 1, x, v, h, h2 => by
    obtain ⟨a, b, c⟩ := logC_get E vs i x v (by simpa using h) (by simpa using h2)
    have e : logC (y :: E) (u :: vs) = .int .i64 y.c :: .int .i64 y.i :: u :: logC E vs := rfl
    have e1 : (i + 1) * 3 = i * 3 + 3 := by omega
    rw [e, e1]
    exact ⟨by simpa using a, by simpa using b, by simpa using c⟩
theorem logC_snoc (E : List SE) (vs : List Value) (h : vs.length = E.length) (x : SE) (v : Value) : logC (E ++ [x]) (vs ++ [v]) = logC E vs ++ [.int .i64 x.c, .int .i64 x.i, v] := by
  unfold logC
  rw [List.zip_append h.symm, List.flatMap_append]
  rfl
/-- A log: a row of entries. -/
def isLog (e : TypeId) (lo base : Nat) (w : World) (v1 : Value) (E : List SE) : Prop :=
  ∃ vs, vs.length = E.length ∧ w.ownsRow base e 3 v1 E.length (logC E vs) ∧ ∀ (i : Nat) (x : SE) (v : Value), E[i]? = some x → vs[i]? = some v → opX lo w v x.op
theorem own_same {w w' : World} {B e size n : Nat} {v : Value} {xs : List Value} {S : Nat → Prop} (h : w.ownsRow B e size v n xs) (hs : sameBut w w' S) (hS : ∀ k, v.ownBlock = some k → ¬ S k) : w'.ownsRow B e size v n xs := by
  obtain ⟨h0, hrow⟩ := h
  refine ⟨h0, ?_⟩
  rcases hrow with h1 | ⟨g, cap, cur, rfl, h2, h3, h4⟩
  · exact .inl h1
  · exact .inr ⟨g, cap, cur, rfl, h2, (hs.2 g (Array.getElem?_eq_some_iff.1 h3).1 (hS g rfl)).trans h3, h4⟩
theorem isLog_but {e lo base : Nat} {w w' : World} {v1 : Value} {E : List SE} {S : Nat → Prop} (h : isLog e lo base w v1 E) (hs : sameBut w w' S) (hS : ∀ k, S k → lo ≤ k ∧ noPart w k ∧ ∀ cs fz, w.heap[k]? ≠ some (.cells cs e fz)) : isLog e lo base w' v1 E := by
  obtain ⟨vs, h1, h2, h3⟩ := h
  refine ⟨vs, h1, own_same h2 hs fun k hk hSk => ?_, fun i x v hx hv => opX_but (h3 i x v hx hv) hs fun k hk => ⟨(hS k hk).1, (hS k hk).2.1⟩⟩
  rcases h2.2 with ⟨rfl, _⟩ | ⟨g, cap, cur, rfl, _, hg, _⟩
  · cases hk
  · obtain rfl : g = k := Option.some.inj hk
    exact (hS g hSk).2.2 _ _ hg
theorem isLog_below {e lo base : Nat} {w w' : World} {v1 : Value} {E : List SE} (h : isLog e lo base w v1 E) (hb : Below w.heap.size w w') : isLog e lo base w' v1 E :=
  isLog_but (S := fun _ => False) h (sameBut_below hb _) fun _ h => h.elim
theorem isLog_shape {e lo base : Nat} {w : World} {v1 : Value} {E : List SE} (h : isLog e lo base w v1 E) : ∃ p c, v1 = .slice p E.length c := by
  obtain ⟨vs, _, h2, _⟩ := h
  exact own_slice h2
/-- An entry's cells. -/
theorem isLog_at {e lo base : Nat} {w : World} {p : Option Addr} {n c : Nat} {E : List SE} (h : isLog e lo base w (.slice p n c) E) (hne : E ≠ []) : ∃ g, p = some ⟨g, 0, none⟩ ∧ g < w.heap.size ∧ n = E.length ∧ n ≤ c ∧ c ≤ maxLen ∧ ∀ i x, E[i]? = some x → ∃ v, w.cell? ⟨g, i * 3, none⟩ = some (.int .i64 x.c) ∧ w.cell? ⟨g, i * 3 + 1, none⟩ = some (.int .i64 x.i) ∧ w.cell? ⟨g, i * 3 + 2, none⟩ = some v ∧ opX lo w v x.op := by
  obtain ⟨vs, h1, ⟨h0, hrow⟩, h3⟩ := h
  rcases hrow with ⟨_, hz⟩ | ⟨g, cap, cur, hv, h4, h5, h6, h7, h8, h9⟩
  · exact absurd (List.eq_nil_of_length_eq_zero hz) hne
  · injection hv with hp hn hc
    subst hp hn hc
    refine ⟨g, rfl, (Array.getElem?_eq_some_iff.1 h5).1, rfl, h6, h7, fun i x hx => ?_⟩
    have hi : i < E.length := (List.getElem?_eq_some_iff.1 hx).1
    have hiv : i < vs.length := by omega
    have hv : vs[i]? = some vs[i] := List.getElem?_eq_getElem hiv
    obtain ⟨k0, k1, k2⟩ := logC_get E vs i x vs[i] hx hv
    have hc : ∀ j u, j < E.length * 3 → (logC E vs)[j]? = some u → w.cell? ⟨g, j, none⟩ = some u := fun j u hj hu => by
      have hcur : cur[j]? = some u := by
        rw [← Array.getElem?_toList]
        have := congrArg (·[j]?) h9
        simp only [List.getElem?_take, hj, if_true] at this
        rw [this, hu]
      unfold World.cell?
      simp [h5, hcur]
    exact ⟨vs[i], hc _ _ (by omega) k0, hc _ _ (by omega) k1, hc _ _ (by omega) k2, h3 i x vs[i] hx hv⟩

/-! maps of a number to two numbers -/
def pairD (a b : Int) : DataW Unit := .agg [.lit (.int .i64 a), .lit (.int .i64 b)]
def pairR (v : Value) : Option (DataW Unit × List MemPlace) :=
  match v with
  | .agg cs => (match cs.toList with
    | [.int k a, .int k' b] => if k = .i64 ∧ k' = .i64 then some (pairD a b, []) else none
    | _ => none)
  | _ => none
theorem pairR_mk (a b : Int) : pairR (.agg #[.int .i64 a, .int .i64 b]) = some (pairD a b, []) := rfl
theorem pairR_inv {v : Value} {a b : Int} {ps : List MemPlace} (h : pairR v = some (pairD a b, ps)) : v = .agg #[.int .i64 a, .int .i64 b] := by
  unfold pairR at h
  split at h
  · rename_i cs
    split at h
    · rename_i k x k' y e
      split at h
      · rename_i hk
        simp only [Option.some.injEq, Prod.mk.injEq, pairD, DataW.agg.injEq, List.cons.injEq, DataW.lit.injEq, Lit.int.injEq, true_and, and_true] at h
        obtain ⟨⟨h1, h2⟩, _⟩ := h
        rw [hk.1, hk.2, h1, h2] at e
        have : cs = #[.int .i64 a, .int .i64 b] := by
          apply Array.toList_inj.1
          rw [e]
        rw [this]
      · cases h
    · cases h
  · cases h
def rng (c : Int) : Prop := -9223372036854775808 ≤ c ∧ c < 9223372036854775808
theorem rng_wf {c : Int} (h : rng c) : (Lit.int .i64 c).wf = true := by
  unfold rng at h
  simp [Lit.wf, IntKind.min, IntKind.max, IntKind.signed, IntKind.bits]
  omega
abbrev Told := Int → Option (Int × Int)
def got (M : Told) (c : Int) : Int × Int := (M c).getD (0, 0)
def upd (M : Told) (c : Int) (x : Int × Int) : Told := fun k => if k = c then some x else M k
/-- A map that holds just so much. -/
def isLast (n : Nat) (w : World) (bm : Nat) (M : Told) : Prop :=
  ∃ D, w.ownsMap Tryz.prog 3 pairR bm n D ∧ ∀ c, rng c → D.atKey (.int .i64 c) (pairD 0 0) = pairD (got M c).1 (got M c).2 ∧ Maps.has D (.int .i64 c) = (M c).isSome
theorem intKey : Keyed Tryz.prog 3 := int_keyed Tryz.underlying3
theorem isLast_made (w : World) : isLast 0 (w.alloc (.map #[] 0)) w.heap.size fun _ => none :=
  ⟨.map [], World.ownsMap_made w _ _ _, fun c _ => ⟨rfl, rfl⟩⟩
theorem isLast_but {n : Nat} {w w' : World} {bm : Nat} {M : Told} {S : Nat → Prop} (h : isLast n w bm M) (hs : sameBut w w' S) (hS : ¬ S bm) : isLast n w' bm M := by
  obtain ⟨D, h1, h2⟩ := h
  refine ⟨D, ?_, h2⟩
  have hlt := h1.lt
  obtain ⟨es, clock, hb, F, hn, hD⟩ := h1
  exact ⟨es, clock, (hs.2 bm hlt hS).trans hb, F, hn, hD⟩
theorem isLast_look {n : Nat} {w : World} {bm : Nat} {M : Told} (h : isLast n w bm M) {t e : TypeId} (ht : Tryz.prog.underlying t = some (.map 3 e)) (hz : (zeroValue e).run Tryz.prog w = .ok (.agg #[.int .i64 0, .int .i64 0]) w) {c : Int} (hc : rng c) :
    (Instr.lookup t (.map (some bm)) (.int .i64 c) false).run Tryz.prog w = .ok (.agg #[.int .i64 (got M c).1, .int .i64 (got M c).2]) w := by
  obtain ⟨D, h1, h2⟩ := h
  obtain ⟨v, ps, hrun, hv⟩ := h1.lookup intKey ht hz (pairR_mk 0 0) (keyOf_int_mk Tryz.underlying3 (rng_wf hc))
  rw [(h2 c hc).1] at hv
  rw [hrun, pairR_inv hv]
theorem isLast_put {n : Nat} {w : World} {bm : Nat} {M : Told} (h : isLast n w bm M) (hn : n < 1000000000) {t e : TypeId} (ht : Tryz.prog.underlying t = some (.map 3 e)) {c : Int} (hc : rng c) (a b : Int) :
    ∃ w', (Instr.mapUpdate t (.map (some bm)) (.int .i64 c) (.agg #[.int .i64 a, .int .i64 b])).run Tryz.prog w = .ok () w' ∧ isLast (n + 1) w' bm (upd M c (a, b)) ∧ w.mapTurned w' bm := by
  obtain ⟨D, h1, h2⟩ := h
  obtain ⟨w', hrun, ho, ht'⟩ := h1.store intKey ht (by unfold maxLen; omega) (keyOf_int_mk Tryz.underlying3 (rng_wf hc)) (pairR_mk a b)
  have hM := h1.isMap
  refine ⟨w', hrun, ⟨_, ho, fun k hk => ?_⟩, ht'⟩
  by_cases hkc : k = c
  · subst hkc
    have hkl : WideAt.IsKeyLit (Lit.int .i64 k) := by trivial
    have g1 : got (upd M k (a, b)) k = (a, b) := by simp [got, upd]
    have g2 : (upd M k (a, b) k).isSome = true := by simp [upd]
    rw [g1, g2]
    exact ⟨atKey_put_same hM hkl _ _, has_put_same hM hkl _⟩
  · have hne : (Lit.int .i64 k) ≠ (Lit.int .i64 c) := fun e => by injection e with _ e2; exact hkc e2
    have g1 : got (upd M c (a, b)) k = got M k := by simp [got, upd, hkc]
    have g2 : (upd M c (a, b) k).isSome = (M k).isSome := by simp [upd, hkc]
    rw [g1, g2]
    exact ⟨(atKey_put_other hne _ _).trans (h2 k hk).1, (has_put_other hne _).trans (h2 k hk).2⟩
theorem turned_same {w w' : World} {bm : Nat} (h : w.mapTurned w' bm) {S : Nat → Prop} (hS : S bm) : sameBut w w' S := sameBut_grown h.grown fun k e => by
  obtain rfl := Option.some.inj e; exact hS
end Go.Proofs.YtedgnlgjmnccgabGreatDoor
