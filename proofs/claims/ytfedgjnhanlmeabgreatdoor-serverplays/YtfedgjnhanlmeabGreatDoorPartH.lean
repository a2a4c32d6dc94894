/-
  The two servers in memory.
  The server's readers: done, Rev, Text, Last, size.
  server.do.
  What is put behind a server's rows.
  server.do where its text would be too great, and where it is done.
  server.Take.
  server.Log.
  The document's server: Text, and what it does where nothing is done ahead of the check.
  The document's server: what it does behind the check.
  The document's server where its text would be too great, and where it is done.
  The document's server where it is done.
  The document's server: Take.
-/
import Derived.Test.YtfedgjnhanlmeabGreatDoorPartG
import Derived.Test.YtfedgjnhanlmeabGreatDoorPartF
import Derived.Test.YtfedgjnhanlmeabGreatDoorPartC
import Derived.Test.YtfedgjnhanlmeabGreatDoorPartE
namespace Go.Proofs.YtfedgjnhanlmeabGreatDoor
open Go.RowKit Go.Maps
set_option linter.unusedVariables false

theorem sameBut.comp {w w' w'' : World} {S S' : Nat → Prop} (h : sameBut w w' S) (h' : sameBut w' w'' S') (hs : ∀ k, k < w.heap.size → S' k → S k) : sameBut w w'' S :=
  ⟨Nat.le_trans h.1 h'.1, fun k hk hn => (h'.2 k (Nat.lt_of_lt_of_le hk h.1) fun e => hn (hs k hk e)).trans (h.2 k hk hn), h'.os.trans h.os, h'.tape.trans h.tape, h'.output.trans h.output⟩
theorem noPart_of {w : World} {k : Nat} {cs : Array Value} {T : TypeId} {fz : Nat × Nat} (h : w.heap[k]? = some (.cells cs T fz)) (hT : T ≠ 50) : noPart w k := fun cs' fz' e => by
  rw [h] at e
  injection e with e
  injection e with _ e2
  exact hT e2
theorem noCells_map {w : World} {k n : Nat} {M : Told} (h : isLast n w k M) : ∀ cs T fz, w.heap[k]? ≠ some (.cells cs T fz) := fun cs T fz e => by
  obtain ⟨D, ⟨es, clock, hb, _⟩, _⟩ := h
  rw [hb] at e
  injection e with e
  cases e
/-- What a log's changes may change. -/
theorem log_own {e lo base : Nat} {w : World} {v1 : Value} {E : List SE} (h : isLog e lo base w v1 E) {k : Nat} (hk : v1.ownBlock = some k) : base ≤ k ∧ k < w.heap.size ∧ ∃ cs, w.heap[k]? = some (.cells cs e (0, 0)) := by
  obtain ⟨vs, _, h2, _⟩ := h
  rcases h2.2 with ⟨rfl, _⟩ | ⟨g, cap, cur, rfl, h3, h4, _⟩
  · cases hk
  · obtain rfl : g = k := Option.some.inj hk
    exact ⟨h3, (Array.getElem?_eq_some_iff.1 h4).1, _, h4⟩
theorem isLog_nil (e lo base : Nat) (w : World) : isLog e lo base w (.slice none 0 0) [] := ⟨[], rfl, World.ownsRow_nil _ _ _ _, fun i x v hx => by simp at hx⟩
theorem opX_same {lo : Nat} {w w' : World} {v : Value} {ps : List Pt} {S : Nat → Prop} (h : opX lo w v ps) (hs : sameBut w w' S) (hS : ∀ k, k < w.heap.size → S k → lo ≤ k ∧ noPart w k) : opX lo w' v ps :=
  opX_but (S := fun k => k < w.heap.size ∧ S k) h ⟨hs.1, fun k hk hn => hs.2 k hk fun e => hn ⟨hk, e⟩, hs.os, hs.tape, hs.output⟩ fun k e => hS k e.1 e.2
/-- An entry more. -/
theorem isLog_snoc {e lo base : Nat} {w w' : World} {v1 v2 vx : Value} {E : List SE} {x : SE} (he : e ≠ 50) (hlb : lo ≤ base) {vs : List Value} (h1 : vs.length = E.length) (h2 : w.ownsRow base e 3 v1 E.length (logC E vs))
    (h3 : ∀ (i : Nat) (y : SE) (v : Value), E[i]? = some y → vs[i]? = some v → opX lo w v y.op) (hx : opX lo w vx x.op) (hg : w.grownBy w' v1.ownBlock) (hnew : w'.ownsRow base e 3 v2 (E.length + 1) (logC E vs ++ [.int .i64 x.c, .int .i64 x.i, vx])) : isLog e lo base w' v2 (E ++ [x]) := by
  have hk := fun k => log_own (k := k) ⟨vs, h1, h2, h3⟩
  have hs : sameBut w w' fun k => v1.ownBlock = some k := sameBut_grown hg fun k e => e
  have hS : ∀ k, k < w.heap.size → v1.ownBlock = some k → lo ≤ k ∧ noPart w k := fun k _ hkk => by
    obtain ⟨a, b, cs, c⟩ := hk k hkk
    exact ⟨Nat.le_trans hlb a, noPart_of c he⟩
  refine ⟨vs ++ [vx], by simp [h1], ?_, fun i y v hy hv => ?_⟩
  · rw [logC_snoc E vs h1, List.length_append]
    exact hnew
  · rcases Nat.lt_or_ge i E.length with hi | hi
    · rw [List.getElem?_append_left hi] at hy
      rw [List.getElem?_append_left (by omega)] at hv
      exact opX_same (h3 i y v hy hv) hs hS
    · have : i = E.length := by
        rcases Nat.lt_or_ge E.length i with h | h
        · rw [List.getElem?_append_right hi] at hy
          obtain ⟨j, hj⟩ : ∃ j, i - E.length = j + 1 := ⟨i - E.length - 1, by omega⟩
          rw [hj] at hy; simp at hy
        · omega
      subst this
      rw [List.getElem?_append_right (Nat.le_refl _), Nat.sub_self] at hy
      rw [List.getElem?_append_right (by omega), h1, Nat.sub_self] at hv
      obtain rfl : x = y := by simpa using hy
      obtain rfl : vx = v := by simpa using hv
      exact opX_same hx hs hS

/-- A server: its own three blocks (its struct, its log's row, its map). -/
def isSrv (lo n : Nat) (w : World) (b bm : Nat) (t : List UInt8) (E : List SE) (M : Told) : Prop :=
  lo ≤ b ∧ lo ≤ bm ∧ (∃ v1, w.heap[b]? = some (.cells #[.string ⟨t.toArray⟩, v1, .map (some bm)] 195 (0, 0)) ∧ isLog 105 lo lo w v1 E) ∧ isLast n w bm M
/-- What one server's changes change: blocks that it alone has. -/
def touchS (lo : Nat) (w : World) (bm k : Nat) : Prop := lo ≤ k ∧ (k = bm ∨ ∃ cs T, w.heap[k]? = some (.cells cs T (0, 0)) ∧ (T = 195 ∨ T = 105))
def docsC (D : List (List UInt8)) : List Value := D.map fun d => .string ⟨d.toArray⟩
def isRef (lo n : Nat) (w : World) (b bm : Nat) (D : List (List UInt8)) (E : List SE) (M : Told) : Prop :=
  lo ≤ b ∧ lo ≤ bm ∧ (∃ v0 v1, w.heap[b]? = some (.cells #[v0, v1, .map (some bm)] 84 (0, 0)) ∧ w.ownsRow lo 9 1 v0 D.length (docsC D) ∧ isLog 103 lo lo w v1 E) ∧ isLast n w bm M
def touchR (lo : Nat) (w : World) (bm k : Nat) : Prop := lo ≤ k ∧ (k = bm ∨ ∃ cs T, w.heap[k]? = some (.cells cs T (0, 0)) ∧ (T = 84 ∨ T = 103 ∨ T = 9))
theorem not_type {w : World} {k : Nat} {cs cs' : Array Value} {T T' : TypeId} {fz fz' : Nat × Nat} (h : w.heap[k]? = some (.cells cs T fz)) (h' : w.heap[k]? = some (.cells cs' T' fz')) : T = T' := by
  rw [h] at h'
  injection h' with e
  injection e with _ e2
/-- A server is kept where another one is told. -/
theorem isSrv_keep {lo n m : Nat} {w w' : World} {b bm bm' : Nat} {t : List UInt8} {E : List SE} {M M' : Told} (h : isSrv lo n w b bm t E M) (h' : isLast m w bm' M') (hne : bm ≠ bm') (hs : sameBut w w' (touchR lo w bm')) : isSrv lo n w' b bm t E M := by
  obtain ⟨h1, h2, ⟨v1, h3, h4⟩, h5⟩ := h
  have hnm := noCells_map h'
  have no : ∀ k cs T, w.heap[k]? = some (.cells cs T (0, 0)) → T ≠ 84 → T ≠ 103 → T ≠ 9 → ¬ touchR lo w bm' k := fun k cs T hk t1 t2 t3 ht => by
    rcases ht.2 with rfl | ⟨cs', T', hk', ht'⟩
    · exact hnm _ _ _ hk
    · obtain rfl := not_type hk hk'
      rcases ht' with e | e | e
      · exact t1 e
      · exact t2 e
      · exact t3 e
  refine ⟨h1, h2, ⟨v1, (hs.2 b (Array.getElem?_eq_some_iff.1 h3).1 (no b _ _ h3 (by decide) (by decide) (by decide))).trans h3, isLog_but h4 hs fun k hk => ⟨hk.1, ?_, ?_⟩⟩, isLast_but h5 hs fun hk => ?_⟩
  · rcases hk.2 with rfl | ⟨cs, T, hk', ht⟩
    · exact fun cs fz => hnm cs _ fz
    · exact noPart_of hk' (by rcases ht with rfl | rfl | rfl <;> decide)
  · rcases hk.2 with rfl | ⟨cs, T, hk', ht⟩
    · exact fun cs fz => hnm cs _ fz
    · intro cs' fz e
      have := not_type hk' e
      subst this
      revert ht; decide
  · rcases hk.2 with e | ⟨cs, T, hk', _⟩
    · exact hne e
    · exact noCells_map h5 _ _ _ hk'
theorem isRef_keep {lo n m : Nat} {w w' : World} {b bm bm' : Nat} {D : List (List UInt8)} {E : List SE} {M M' : Told} (h : isRef lo n w b bm D E M) (h' : isLast m w bm' M') (hne : bm ≠ bm') (hs : sameBut w w' (touchS lo w bm')) : isRef lo n w' b bm D E M := by
  obtain ⟨h1, h2, ⟨v0, v1, h3, h30, h4⟩, h5⟩ := h
  have hnm := noCells_map h'
  have no : ∀ k cs T, w.heap[k]? = some (.cells cs T (0, 0)) → T ≠ 195 → T ≠ 105 → ¬ touchS lo w bm' k := fun k cs T hk t1 t2 ht => by
    rcases ht.2 with rfl | ⟨cs', T', hk', ht'⟩
    · exact hnm _ _ _ hk
    · obtain rfl := not_type hk hk'
      rcases ht' with e | e
      · exact t1 e
      · exact t2 e
  refine ⟨h1, h2, ⟨v0, v1, (hs.2 b (Array.getElem?_eq_some_iff.1 h3).1 (no b _ _ h3 (by decide) (by decide))).trans h3, own_same h30 hs fun k hk => ?_, isLog_but h4 hs fun k hk => ⟨hk.1, ?_, ?_⟩⟩, isLast_but h5 hs fun hk => ?_⟩
  · rcases h30.2 with ⟨rfl, _⟩ | ⟨g, cap, cur, rfl, _, hg, _⟩
    · cases hk
    · obtain rfl : g = k := Option.some.inj hk
      exact no g _ _ hg (by decide) (by decide)
  · rcases hk.2 with rfl | ⟨cs, T, hk', ht⟩
    · exact fun cs fz => hnm cs _ fz
    · exact noPart_of hk' (by rcases ht with rfl | rfl <;> decide)
  · rcases hk.2 with rfl | ⟨cs, T, hk', ht⟩
    · exact fun cs fz => hnm cs _ fz
    · intro cs' fz e
      have := not_type hk' e
      subst this
      revert ht; decide
  · rcases hk.2 with e | ⟨cs, T, hk', _⟩
    · exact hne e
    · exact noCells_map h5 _ _ _ hk'
theorem isSrv_below {lo n : Nat} {w w' : World} {b bm : Nat} {t : List UInt8} {E : List SE} {M : Told} (h : isSrv lo n w b bm t E M) (hb : Below w.heap.size w w') : isSrv lo n w' b bm t E M := by
  obtain ⟨h1, h2, ⟨v1, h3, h4⟩, h5⟩ := h
  exact ⟨h1, h2, ⟨v1, (hb.block b (Array.getElem?_eq_some_iff.1 h3).1).trans h3, isLog_below h4 hb⟩, isLast_but (S := fun _ => False) h5 (sameBut_below hb _) id⟩
theorem isRef_below {lo n : Nat} {w w' : World} {b bm : Nat} {D : List (List UInt8)} {E : List SE} {M : Told} (h : isRef lo n w b bm D E M) (hb : Below w.heap.size w w') : isRef lo n w' b bm D E M := by
  obtain ⟨h1, h2, ⟨v0, v1, h3, h30, h4⟩, h5⟩ := h
  exact ⟨h1, h2, ⟨v0, v1, (hb.block b (Array.getElem?_eq_some_iff.1 h3).1).trans h3, own_below h30 hb, isLog_below h4 hb⟩, isLast_but (S := fun _ => False) h5 (sameBut_below hb _) id⟩

/-! what is done -/
def doE (l0 : Int) (t : List UInt8) (E : List SE) (rev : Int) (ps : List Pt) : Int :=
  if rev < 0 ∨ (E.length : Int) < rev then 2 else if 300 ≤ E.length then 4
  else if chkE ps (endE l0 (E.take rev.toNat)) ≠ 0 then chkE ps (endE l0 (E.take rev.toNat))
  else if ordE (turnS ps (E.drop rev.toNat)) t ≠ 0 then ordE (turnS ps (E.drop rev.toNat)) t
  else if 2000 < (applyP (turnS ps (E.drop rev.toNat)) t).length then 12 else 0
/-- What a server keeps of what it was told. -/
structure okS (l0 : Int) (t : List UInt8) (E : List SE) : Prop where
  text : V t
  room : t.length ≤ 2000
  pos : 0 ≤ l0
  top : l0 ≤ 3000
  chain : chainE l0 E
  last : endE l0 E = t.length
theorem chain_snoc : ∀ (E : List SE) (l0 : Int) (x : SE), chainE l0 E → okOp x.op (endE l0 E) → putsP x.op ≤ 40000 → 0 ≤ (x.op.map isP).sum → (x.op.map isP).sum ≤ 3000 → chainE l0 (E ++ [x]) ∧ endE l0 (E ++ [x]) = (x.op.map isP).sum
  | [], l0, x, _, h1, h2, h3, h4 => ⟨⟨h1, h2, h3, h4, trivial⟩, rfl⟩
  | y :: E, l0, x, h, h1, h2, h3, h4 => by
    obtain ⟨c1, c2, c3, c4, c5⟩ := h
    obtain ⟨i1, i2⟩ := chain_snoc E _ x c5 h1 h2 h3 h4
    exact ⟨⟨c1, c2, c3, c4, i1⟩, i2⟩
theorem chain_drop : ∀ (E : List SE) (l0 : Int) (k : Nat), chainE l0 E → chainE (endE l0 (E.take k)) (E.drop k) ∧ endE (endE l0 (E.take k)) (E.drop k) = endE l0 E
  | E, l0, 0, h => ⟨h, rfl⟩
  | [], l0, k + 1, _ => ⟨trivial, rfl⟩
  | y :: E, l0, k + 1, h => chain_drop E _ k h.2.2.2.2
theorem end_take_le : ∀ (E : List SE) (l0 : Int) (k : Nat), chainE l0 E → 0 ≤ l0 → l0 ≤ 3000 → 0 ≤ endE l0 (E.take k) ∧ endE l0 (E.take k) ≤ 3000
  | E, l0, 0, _, h, h' => ⟨h, h'⟩
  | [], l0, k + 1, _, h, h' => ⟨h, h'⟩
  | y :: E, l0, k + 1, h, _, _ => end_take_le E _ k h.2.2.2.2 h.2.2.1 h.2.2.2.1
/-- What comes in without an error is turned into what has none over the text's bytes. -/
theorem do_turned {l0 : Int} {t : List UInt8} {E : List SE} (h : okS l0 t E) {ps : List Pt} {k : Nat} (hp : putsP ps ≤ 40000) (hc : chkE ps (endE l0 (E.take k)) = 0) : okOp (turnS ps (E.drop k)) t.length ∧ putsP (turnS ps (E.drop k)) = putsP ps := by
  obtain ⟨c1, c2⟩ := chain_drop E l0 k h.chain
  obtain ⟨e1, e2⟩ := end_take_le E l0 k h.chain h.pos h.top
  obtain ⟨k1, k2⟩ := turnS_ok (E.drop k) ps _ (okOp_of_chk hc) hp e2 c1
  rw [c2, h.last] at k1
  exact ⟨k1, k2⟩
theorem do_next {l0 : Int} {t : List UInt8} {E : List SE} (h : okS l0 t E) {ps : List Pt} {c i rev : Int} (hp : putsP ps ≤ 40000) (hd : doE l0 t E rev ps = 0) :
    okS l0 (applyP (turnS ps (E.drop rev.toNat)) t) (E ++ [⟨c, i, turnS ps (E.drop rev.toNat)⟩]) := by
  unfold doE at hd
  split at hd
  · cases hd
  split at hd
  · cases hd
  split at hd
  · rename_i h1; exact absurd hd h1
  rename_i hc
  split at hd
  · rename_i h1; exact absurd hd h1
  rename_i ho
  split at hd
  · cases hd
  rename_i hl
  have hc : chkE ps (endE l0 (E.take rev.toNat)) = 0 := by simpa using hc
  have ho : ordE (turnS ps (E.drop rev.toNat)) t = 0 := by simpa using ho
  obtain ⟨k1, k2⟩ := do_turned h hp hc
  have hg := good_of_ord h.text ho
  have hlen := apply_len _ t hg.left
  obtain ⟨i1, i2⟩ := chain_snoc E l0 ⟨c, i, turnS ps (E.drop rev.toNat)⟩ h.chain (by rw [h.last]; exact k1) (by rw [k2]; exact hp) (by rw [← hlen]; omega) (by rw [← hlen]; omega)
  exact ⟨apply_V hg.al, by omega, h.pos, h.top, i1, by rw [i2, hlen]⟩
end Go.Proofs.YtfedgjnhanlmeabGreatDoor

namespace Go.Proofs.YtfedgjnhanlmeabGreatDoor
open Go.RowKit Go.Maps
set_option linter.unusedVariables false
attribute [local go_sem] Oper.semAt_some

theorem srvDone_any (lo n : Nat) (w : World) (b bm : Nat) (t : List UInt8) (E : List SE) (M : Told) (h : isSrv lo n w b bm t E M) :
    Calls Tryz.prog 113 #[.pointer (some ⟨b, 0, none⟩)] w fun e w' => w' = w ∧ ∃ v1, e = .returned v1 ∧ w.cell? ⟨b, 1, none⟩ = some v1 ∧ isLog 105 lo lo w v1 E := by
  obtain ⟨_, _, ⟨v1, h3, h4⟩, _⟩ := h
  obtain ⟨p, c, rfl⟩ := isLog_shape h4
  have x1 : w.cell? ⟨b, 1, none⟩ = some (.slice p E.length c) := Lib.cell_of_heap h3 1
  have H4 : Hid _ := h4
  clear h3 h4
  go_enter Tryz.func113, Tryz.ntmps113
  go_wp2
  go_ret
  exact ⟨rfl, _, rfl, x1, H4.out⟩
theorem srvRev_any (lo n : Nat) (w : World) (b bm : Nat) (t : List UInt8) (E : List SE) (M : Told) (h : isSrv lo n w b bm t E M) :
    Calls Tryz.prog 40 #[.pointer (some ⟨b, 0, none⟩)] w fun e w' => w' = w ∧ e = .returned (.int .i64 E.length) := by
  have C : Hid _ := srvDone_any lo n w b bm t E M h
  clear h
  go_enter Tryz.func40, Tryz.ntmps40
  go_wp2_with (first | (go_at_call 113; refine Calls.mono C.out ?_; rintro e w1 ⟨hw, v1, rfl, hc, hl⟩; obtain rfl := hw.symm; obtain ⟨p, c, rfl⟩ := isLog_shape hl; clear hc hl) | fail)
  go_ret
  exact ⟨rfl, rfl⟩
theorem srvText_any (lo n : Nat) (w : World) (b bm : Nat) (t : List UInt8) (E : List SE) (M : Told) (h : isSrv lo n w b bm t E M) :
    Calls Tryz.prog 41 #[.pointer (some ⟨b, 0, none⟩)] w fun e w' => w' = w ∧ e = .returned (.string ⟨t.toArray⟩) := by
  obtain ⟨_, _, ⟨v1, h3, h4⟩, _⟩ := h
  have x1 : w.cell? ⟨b, 0, none⟩ = some (.string ⟨t.toArray⟩) := Lib.cell_of_heap h3 0
  clear h3 h4
  go_enter Tryz.func41, Tryz.ntmps41
  go_wp2
  go_ret
  exact ⟨rfl, rfl⟩
theorem run_ti {P : Program} {w : World} {t : TypeId} {i : TypeInfo} (h : P.info? t = some i) : (typeInfo t).run P w = .ok i w := by simp [typeInfo, h]
theorem run_zero {P : Program} {w : World} {t : TypeId} {i : TypeInfo} {z : Value} (h : P.info? t = some i) (hz : i.zero = some z) : (zeroValue t).run P w = .ok z w := by
  simp [zeroValue, Sem.run_bind, run_ti h, hz]
theorem zero_of {t : TypeId} {z : Value} (h : (Tryz.prog.info? t).map (·.zero) = some (some z)) (w : World) : (zeroValue t).run Tryz.prog w = .ok z w := by
  obtain ⟨i, hi, hz⟩ := Option.map_eq_some_iff.1 h
  exact run_zero hi hz
theorem info_told : (Tryz.prog.info? 197).map (·.zero) = some (some (.agg #[.int .i64 0, .int .i64 0])) := by kernel_rfl
theorem toldZero (w : World) : (zeroValue 197).run Tryz.prog w = .ok (.agg #[.int .i64 0, .int .i64 0]) w := zero_of info_told w
theorem srvLast_any (lo n : Nat) (w : World) (b bm : Nat) (t : List UInt8) (E : List SE) (M : Told) (h : isSrv lo n w b bm t E M) (c : Int) (hc : rng c) :
    Calls Tryz.prog 39 #[.pointer (some ⟨b, 0, none⟩), .int .i64 c] w fun e w' => e = .returned (.tuple #[.int .i64 (got M c).1, .int .i64 (got M c).2]) ∧ Below w.heap.size w w' := by
  obtain ⟨_, _, ⟨v1, h3, h4⟩, h5⟩ := h
  have x2 : w.cell? ⟨b, 2, none⟩ = some (.map (some bm)) := Lib.cell_of_heap h3 2
  have L : Hid _ := isLast_look h5 (t := 193) Tryz.underlying193 (toldZero w) hc
  clear h3 h4 h5
  go_enter Tryz.func39, Tryz.ntmps39
  go_wp2_with (first | (rw [L.out]) | fail)
  go_region
  go_wp2
  go_ret2
  exact ⟨rfl, by first | exact ((Below.refl _ _).alloc (Nat.le_refl _) _).drew | exact (Below.refl _ _).alloc (Nat.le_refl _) _⟩
theorem srvSize_any (lo n : Nat) (w : World) (b bm : Nat) (t : List UInt8) (E : List SE) (M : Told) (h : isSrv lo n w b bm t E M) {l0 : Int} (hk : okS l0 t E) (k : Nat) (hkl : k ≤ E.length) (hn : E.length ≤ 1000) :
    Calls Tryz.prog 170 #[.pointer (some ⟨b, 0, none⟩), .int .i64 k] w fun e w' => e = .returned (.int .i64 (endE l0 (E.take k))) ∧ Below w.heap.size w w' := by
  obtain ⟨_, _, ⟨v1, h3, h4⟩, _⟩ := h
  obtain ⟨p, c, rfl⟩ := isLog_shape h4
  have x0 : w.cell? ⟨b, 0, none⟩ = some (.string ⟨t.toArray⟩) := Lib.cell_of_heap h3 0
  have x1 : w.cell? ⟨b, 1, none⟩ = some (.slice p E.length c) := Lib.cell_of_heap h3 1
  by_cases he : k = E.length
  · have hz : (ByteArray.mk t.toArray).size = t.length := by simp [ByteArray.size]
    have hv : endE l0 (E.take k) = t.length := by rw [he, List.take_length]; exact hk.last
    rw [hv]
    subst he
    clear h3 h4 hk hv hkl
    go_enter Tryz.func170, Tryz.ntmps170
    go_wp2
    go_ret
    exact ⟨rfl, Below.refl _ _⟩
  · have hlt : k < E.length := by omega
    have hne : E ≠ [] := by intro e; rw [e] at hlt; exact absurd hlt (Nat.not_lt_zero _)
    obtain ⟨g, rfl, hg, _, _, _, hcell⟩ := isLog_at h4 hne
    obtain ⟨ve, _, _, f2, f3⟩ := hcell k E[k] (List.getElem?_eq_getElem hlt)
    obtain ⟨t1, t2, t3, t4, t5⟩ := chain_at E l0 k hlt hk.chain hk.top
    have hb1 : endE l0 (E.take k) + putsP E[k].op < 1000000 := by omega
    have hle := (t2.fine hb1).len
    have CL : Hid _ := Lens_any ve E[k].op w f3.1 hle
    have HV : Hid ((lensW E[k].op).1 = endE l0 (E.take k)) := t2.lens hb1
    have hsh : ∃ p c, ve = .slice p E[k].op.length c := by obtain ⟨p, c, e, _⟩ := f3.1; exact ⟨p, c, e⟩
    obtain ⟨pe, ce, rfl⟩ := hsh
    have hki : ((k : Int) == (E.length : Int)) = false := by simp; omega
    have hki2 : (k : Int) < (E.length : Int) := by omega
    generalize endE l0 (E.take k) = R at *
    generalize E[k] = x at *
    generalize E.length = n at *
    clear h3 h4 hk hcell t1 t2 t3 t4 t5 hb1 f3 hne
    go_enter Tryz.func170, Tryz.ntmps170
    go_wp2_with (first
      | (go_at_call 118; refine Calls.mono CL.out ?_; rintro e w1 ⟨rfl, hb1⟩; have HB1 : Hid (Below w.heap.size w w1) := hb1; clear hb1)
      | fail)
    go_ret
    refine ⟨?_, HB1.out⟩
    have := HV.out
    first | rfl | (simp; done) | (rw [← this]; rfl) | (subst this; rfl)
end Go.Proofs.YtfedgjnhanlmeabGreatDoor

namespace Go.Proofs.YtfedgjnhanlmeabGreatDoor
open Go.RowKit Go.Maps
set_option linter.unusedVariables false
attribute [local go_sem] Oper.semAt_some

theorem info_sentry : (Tryz.prog.info? 105).map (fun i => (i.zero, i.size, i.bytes)) = some (some (.agg #[.int .i64 0, .int .i64 0, .slice none 0 0]), 3, 40) := by kernel_rfl
theorem errV_ne {n : Int} (h : n ≠ 0) : errV n = .iface 26 (.int .i64 n) := if_neg h
/-- What comes of it. -/
def doT (l0 : Int) (t : List UInt8) (E : List SE) (rev : Int) (ps : List Pt) : List UInt8 := if doE l0 t E rev ps = 0 then applyP (turnS ps (E.drop rev.toNat)) t else t
def doL (l0 : Int) (t : List UInt8) (E : List SE) (c i rev : Int) (ps : List Pt) : List SE := if doE l0 t E rev ps = 0 then E ++ [⟨c, i, turnS ps (E.drop rev.toNat)⟩] else E
/-- Nothing is done. -/
theorem do_none {lo n : Nat} {w w' : World} {b bm : Nat} {t : List UInt8} {E : List SE} {M : Told} {l0 : Int} {c i rev : Int} {ps : List Pt} (h : isSrv lo n w b bm t E M) (hb : Below w.heap.size w w') (hd : doE l0 t E rev ps ≠ 0) :
    isSrv lo n w' b bm (doT l0 t E rev ps) (doL l0 t E c i rev ps) M ∧ sameBut w w' (touchS lo w bm) := by
  unfold doT doL
  rw [if_neg hd, if_neg hd]
  exact ⟨isSrv_below h hb, sameBut_below hb _⟩

set_option maxHeartbeats 1000000 in
theorem srvDo_range {lo n : Nat} {w : World} {b bm : Nat} {t : List UInt8} {E : List SE} {M : Told} (h : isSrv lo n w b bm t E M) (c i rev : Int) (v : Value) (hr : rev < 0 ∨ (E.length : Int) < rev) :
    Calls Tryz.prog 111 #[.pointer (some ⟨b, 0, none⟩), .int .i64 c, .int .i64 i, .int .i64 rev, v] w fun e w' => e = .returned (errV 2) ∧ Below w.heap.size w w' := by
  obtain ⟨_, _, ⟨v1, h3, h4⟩, _⟩ := h
  obtain ⟨p, c1, rfl⟩ := isLog_shape h4
  have x1 : w.cell? ⟨b, 1, none⟩ = some (.slice p E.length c1) := Lib.cell_of_heap h3 1
  have hV : errV 2 = .iface 26 (.int .i64 2) := rfl
  rw [hV]
  clear h3 h4 hV
  by_cases h0 : rev < 0
  · clear hr
    go_enter Tryz.func111, Tryz.ntmps111
    go_wp2
    go_ret
    exact ⟨rfl, Below.refl _ _⟩
  · have h1 : (E.length : Int) < rev := by omega
    clear hr
    go_enter Tryz.func111, Tryz.ntmps111
    go_wp2
    go_ret
    exact ⟨rfl, Below.refl _ _⟩

set_option maxHeartbeats 1000000 in
theorem srvDo_check {lo n : Nat} {w : World} {b bm : Nat} {t : List UInt8} {E : List SE} {M : Told} (h : isSrv lo n w b bm t E M) {l0 : Int} (hk : okS l0 t E) (c i : Int) (k : Nat) (v : Value) (ps : List Pt) (hT : Lib.Utf8Tabs 2 3 w) (hr : opAt w v ps) (hwf : ∀ p ∈ ps, wfP p) (hl : ps.length ≤ 100) (hkl : k ≤ E.length) (hn : E.length ≤ 100) (hc : chkE ps (endE l0 (E.take k)) ≠ 0) :
    Calls Tryz.prog 111 #[.pointer (some ⟨b, 0, none⟩), .int .i64 c, .int .i64 i, .int .i64 (k : Int), v] w fun e w' => e = .returned (errV (chkE ps (endE l0 (E.take k)))) ∧ Below w.heap.size w w' := by
  have CS : Hid _ := srvSize_any lo n w b bm t E M h hk k hkl (by omega)
  have hle := end_take_le E l0 k hk.chain hk.pos hk.top
  have CC : Hid (∀ wx, Below w.heap.size w wx → Calls Tryz.prog 90 #[v, .int .i64 (endE l0 (E.take k))] wx fun e w' => e = .returned (errV (chkE ps (endE l0 (E.take k)))) ∧ Below wx.heap.size wx w') := fun wx hb =>
    Check_any v ps _ wx (Go.Proofs.Utf8Tabs_below hT hb) (opAt_below hr hb (Nat.le_refl _)) hwf (by omega) (by omega)
  obtain ⟨_, _, ⟨v1, h3, h4⟩, _⟩ := h
  obtain ⟨p, c1, rfl⟩ := isLog_shape h4
  have x1 : w.cell? ⟨b, 1, none⟩ = some (.slice p E.length c1) := Lib.cell_of_heap h3 1
  rw [errV_ne hc] at CC ⊢
  have hk0 : ¬ (k : Int) < 0 := by omega
  have hk1 : ¬ (E.length : Int) < (k : Int) := by omega
  have hk2 : ¬ (300 : Int) ≤ (E.length : Int) := by omega
  obtain ⟨pv, cv, rfl, _⟩ := hr
  generalize chkE ps (endE l0 (E.take k)) = X at *
  generalize endE l0 (E.take k) = R at *
  clear h3 h4 hk hT hwf hle hc
  go_enter Tryz.func111, Tryz.ntmps111
  go_wp2_with (first
    | (go_at_call 170; refine Calls.mono CS.out ?_; rintro e w1 ⟨rfl, hb1⟩; have HB1 : Hid (Below w.heap.size w w1) := hb1; clear hb1)
    | (go_at_call 90; refine (CC.out _ HB1.out).mono ?_; rintro e w2 ⟨rfl, hb2⟩; have HB2 : Hid (Below w.heap.size w w2) := HB1.out.trans (hb2.mono HB1.out.size); clear hb2)
    | fail)
  go_ret
  exact ⟨rfl, HB2.out⟩
/-- The two calls behind the check. -/
def TurnC (w : World) (l0 : Int) (E : List SE) (k : Nat) (p : Option Addr) (c1 : Nat) (v : Value) (ps : List Pt) : Prop := ∀ wx, Below w.heap.size w wx → Calls Tryz.prog 171 #[v, .slice (if c1 = k then p else Option.map (fun x => x.add (k * 3)) p) (E.length - k) (c1 - k)] wx fun e w' => ∃ p' c', e = .returned (.tuple #[.slice p' (turnS ps (E.drop k)).length c', .nilIface]) ∧ opN wx.heap.size w' (.slice p' (turnS ps (E.drop k)).length c') (turnS ps (E.drop k)) ∧ Below wx.heap.size wx w'
def ApplyC (w : World) (t : List UInt8) (q : List Pt) : Prop := ∀ wx v', Below w.heap.size w wx → opAt wx v' q → Calls Tryz.prog 28 #[v', .string ⟨t.toArray⟩] wx fun e w' => e = .returned (.tuple #[.string ⟨(if ordE q t = 0 then applyP q t else []).toArray⟩, errV (ordE q t)]) ∧ Below wx.heap.size wx w'
theorem do_C {lo : Nat} {w : World} {t : List UInt8} {E : List SE} {l0 : Int} (hk : okS l0 t E) (k : Nat) {p : Option Addr} {c1 : Nat} (hlog : logAt lo w p E.length c1 E) {v : Value} {ps : List Pt} (hT : Lib.Utf8Tabs 2 3 w) (hr : opAt w v ps) (hpu : putsP ps ≤ 40000) (hkl : k ≤ E.length) (hn : E.length ≤ 100) (hc : chkE ps (endE l0 (E.take k)) = 0) : TurnC w l0 E k p c1 v ps ∧ ApplyC w t (turnS ps (E.drop k)) := by
  have hle := end_take_le E l0 k hk.chain hk.pos hk.top
  obtain ⟨q1, q2⟩ := do_turned hk hpu hc
  have hrm := hk.room
  have hb1 : (t.length : Int) + putsP (turnS ps (E.drop k)) < 1000000 := by omega
  have hlen := (q1.fine hb1).len
  refine ⟨fun wx hb => ?_, fun wx v' hb ho => Apply_any v' _ t wx (Go.Proofs.Utf8Tabs_below hT hb) ho (q1.wf hb1) (by omega) hlen (by omega)⟩
  refine (turnSv_any lo v ps _ _ _ (E.drop k) (endE l0 (E.take k)) wx (Go.Proofs.Utf8Tabs_below hT hb) (opAt_below hr hb (Nat.le_refl _)) (logAt_cut (logAt_below hlog hb) hkl) (okOp_of_chk hc) hpu hle.1 hle.2 (chain_drop E l0 k hk.chain).1 (by omega)).mono ?_
  rintro e w' ⟨v', rfl, ho, hb'⟩
  obtain ⟨p', c', rfl, _⟩ := ho.1
  exact ⟨p', c', rfl, ho, hb'⟩

/-- What all three ends of it start with. -/
structure DoStart (lo n : Nat) (w : World) (b bm : Nat) (t : List UInt8) (E : List SE) (M : Told) (l0 : Int) (k : Nat) (v : Value) (ps : List Pt) (p : Option Addr) (c1 : Nat) : Prop where
  size : Calls Tryz.prog 170 #[.pointer (some ⟨b, 0, none⟩), .int .i64 k] w fun e w' => e = .returned (.int .i64 (endE l0 (E.take k))) ∧ Below w.heap.size w w'
  check : ∀ wx, Below w.heap.size w wx → Calls Tryz.prog 90 #[v, .int .i64 (endE l0 (E.take k))] wx fun e w' => e = .returned .nilIface ∧ Below wx.heap.size wx w'
  turn : TurnC w l0 E k p c1 v ps
  apply : ApplyC w t (turnS ps (E.drop k))
  block : w.heap[b]? = some (.cells #[.string ⟨t.toArray⟩, .slice p E.length c1, .map (some bm)] 195 (0, 0))
theorem do_start {lo n : Nat} {w : World} {b bm : Nat} {t : List UInt8} {E : List SE} {M : Told} (h : isSrv lo n w b bm t E M) {l0 : Int} (hk : okS l0 t E) (k : Nat) (v : Value) (ps : List Pt) (hT : Lib.Utf8Tabs 2 3 w) (hr : opAt w v ps) (hwf : ∀ p ∈ ps, wfP p) (hl : ps.length ≤ 100) (hpu : putsP ps ≤ 40000) (hkl : k ≤ E.length) (hn : E.length ≤ 100) (hc : chkE ps (endE l0 (E.take k)) = 0) :
    ∃ p c1, DoStart lo n w b bm t E M l0 k v ps p c1 ∧ isLog 105 lo lo w (.slice p E.length c1) E := by
  have cs := srvSize_any lo n w b bm t E M h hk k hkl (by omega)
  have hle := end_take_le E l0 k hk.chain hk.pos hk.top
  obtain ⟨_, _, ⟨v1, h3, h4⟩, _⟩ := h
  obtain ⟨p, c1, rfl⟩ := isLog_shape h4
  obtain ⟨k1, k2⟩ := do_C hk k (logAt_of h4) hT hr hpu hkl hn hc
  refine ⟨p, c1, ⟨cs, fun wx hb => ?_, k1, k2, h3⟩, h4⟩
  have := Check_any v ps (endE l0 (E.take k)) wx (Go.Proofs.Utf8Tabs_below hT hb) (opAt_below hr hb (Nat.le_refl _)) hwf (by omega) (by omega)
  rw [hc] at this
  exact this

set_option maxRecDepth 100000 in
set_option maxHeartbeats 2000000 in
theorem srvDo_apply {lo n : Nat} {w : World} {b bm : Nat} {t : List UInt8} {E : List SE} {M : Told} {l0 : Int} (c i : Int) (k : Nat) (v : Value) (ps : List Pt) {p : Option Addr} {c1 : Nat} (hr : opAt w v ps) (hkl : k ≤ E.length) (hn : E.length ≤ 100) (hc1 : E.length ≤ c1) (S : DoStart lo n w b bm t E M l0 k v ps p c1) (ho : ordE (turnS ps (E.drop k)) t ≠ 0) :
    Calls Tryz.prog 111 #[.pointer (some ⟨b, 0, none⟩), .int .i64 c, .int .i64 i, .int .i64 (k : Int), v] w fun e w' => e = .returned (errV (ordE (turnS ps (E.drop k)) t)) ∧ Below w.heap.size w w' := by
  obtain ⟨s1, s2, s3, s4, h3⟩ := S
  have CS : Hid _ := s1
  have CC : Hid (∀ wx, Below w.heap.size w wx → Calls Tryz.prog 90 #[v, .int .i64 (endE l0 (E.take k))] wx fun e w' => e = .returned .nilIface ∧ Below wx.heap.size wx w') := s2
  have CT : Hid (TurnC w l0 E k p c1 v ps) := s3
  have CA : Hid (ApplyC w t (turnS ps (E.drop k))) := s4
  have hbl := (Array.getElem?_eq_some_iff.1 h3).1
  have x0 : w.cell? ⟨b, 0, none⟩ = some (.string ⟨t.toArray⟩) := Lib.cell_of_heap h3 0
  have x1 : w.cell? ⟨b, 1, none⟩ = some (.slice p E.length c1) := Lib.cell_of_heap h3 1
  have HB : Hid (b < w.heap.size) := hbl
  have X0 : Hid (w.cell? ⟨b, 0, none⟩ = some (.string ⟨t.toArray⟩)) := x0
  have X1 : Hid (w.cell? ⟨b, 1, none⟩ = some (.slice p E.length c1)) := x1
  unfold TurnC at CT
  unfold ApplyC at CA
  rw [if_neg ho, errV_ne ho] at CA
  rw [errV_ne ho]
  have hk0 : ¬ (k : Int) < 0 := by omega
  have hk1 : ¬ (E.length : Int) < (k : Int) := by omega
  have hk2 : ¬ (300 : Int) ≤ (E.length : Int) := by omega
  have hk3 : (k : Int) ≤ (E.length : Int) := by omega
  obtain ⟨pv, cv, rfl, _⟩ := hr
  generalize ordE (turnS ps (E.drop k)) t = X at *
  generalize endE l0 (E.take k) = R at *
  generalize turnS ps (E.drop k) = q at *
  obtain ⟨qn, hqn⟩ : ∃ m, q.length = m := ⟨_, rfl⟩
  rw [hqn] at CT
  have en : (ByteArray.mk [].toArray) = ⟨#[]⟩ := rfl
  rw [en] at CA
  clear h3 s1 s2 s3 s4 ho hbl en
  go_enter Tryz.func111, Tryz.ntmps111
  go_wp2_with (first
    | (go_at_call 170; refine Calls.mono CS.out ?_; rintro e w1 ⟨rfl, hb1⟩; have HB1 : Hid (Below w.heap.size w w1) := hb1; clear hb1)
    | (go_at_call 90; refine (CC.out _ HB1.out).mono ?_; rintro e w2 ⟨rfl, hb2⟩; have HB2 : Hid (Below w.heap.size w w2) := HB1.out.trans (hb2.mono HB1.out.size); have y1 : w2.cell? ⟨b, 1, none⟩ = some (.slice p E.length c1) := (HB2.out.cell (p := ⟨b, 1, none⟩) HB.out).trans X1.out; clear hb2)
    | (go_at_call 171; refine (CT.out _ HB2.out).mono ?_; rintro e w3 ⟨p', c', rfl, ho3, hb3⟩; have HO3 : Hid (opAt w3 (.slice p' qn c') q) := ho3.1; have HB3 : Hid (Below w.heap.size w w3) := HB2.out.trans (hb3.mono HB2.out.size); have y0 : w3.cell? ⟨b, 0, none⟩ = some (.string ⟨t.toArray⟩) := (HB3.out.cell (p := ⟨b, 0, none⟩) HB.out).trans X0.out; clear hb3 ho3)
    | (go_at_call 28; refine (CA.out _ _ HB3.out HO3.out).mono ?_; rintro e w4 ⟨rfl, hb4⟩; have HB4 : Hid (Below w.heap.size w w4) := HB3.out.trans (hb4.mono HB3.out.size); clear hb4)
    | fail)
  all_goals
    go_ret
    exact ⟨rfl, HB4.out⟩
end Go.Proofs.YtfedgjnhanlmeabGreatDoor

namespace Go.Proofs.YtfedgjnhanlmeabGreatDoor
open Go.RowKit Go.Maps
set_option linter.unusedVariables false

theorem frozen_block {w : World} {b o : Nat} {cs : Array Value} {T : TypeId} (h : w.heap[b]? = some (.cells cs T (0, 0))) : w.frozen? ⟨b, o, none⟩ = false := by unfold World.frozen?; simp [h]
theorem alloc_block {w : World} {k : Nat} {o o' : Obj} (h : w.heap[k]? = some o) : (w.alloc o').heap[k]? = some o :=
  (((Below.refl w.heap.size w).alloc (Nat.le_refl _) o').block k (Array.getElem?_eq_some_iff.1 h).1).trans h
/-- The log's row holds an entry more, and the struct says so. -/
theorem log_push {e TS lo : Nat} {w : World} {b : Nat} {x0 m v1 vx : Value} {E : List SE} {x : SE} (he : e ≠ 50) (hTS : TS ≠ 50) (hne : TS ≠ e) (hlo : lo ≤ b) (hb : w.heap[b]? = some (.cells #[x0, v1, m] TS (0, 0))) (hl : isLog e lo lo w v1 E) (hx : opX lo w vx x.op) :
    ∃ vs, vs.length = E.length ∧ (w.alloc (.cells #[.int .i64 x.c, .int .i64 x.i, vx] e)).ownsRow lo e 3 v1 E.length (logC E vs) ∧ ∀ w6 v2, w6.ownsRow lo e 3 v2 (E.length + 1) (logC E vs ++ [.int .i64 x.c, .int .i64 x.i, vx]) → (w.alloc (.cells #[.int .i64 x.c, .int .i64 x.i, vx] e)).grownBy w6 v1.ownBlock →
      w6.cell? ⟨b, 1, none⟩ = some v1 ∧ w6.frozen? ⟨b, 1, none⟩ = false ∧ (w6.setCell ⟨b, 1, none⟩ v2).heap[b]? = some (.cells #[x0, v2, m] TS (0, 0)) ∧ isLog e lo lo (w6.setCell ⟨b, 1, none⟩ v2) v2 (E ++ [x]) ∧ sameBut w (w6.setCell ⟨b, 1, none⟩ v2) (fun k => k = b ∨ v1.ownBlock = some k) := by
  have hbw : Below w.heap.size w (w.alloc (.cells #[.int .i64 x.c, .int .i64 x.i, vx] e)) := (Below.refl _ _).alloc (Nat.le_refl _) _
  obtain ⟨vs, h1, h2, h3⟩ := isLog_below hl hbw
  have hown := fun k => log_own (k := k) hl
  refine ⟨vs, h1, h2, fun w6 v2 hnew hg => ?_⟩
  have h6 := isLog_snoc (x := x) he (Nat.le_refl _) h1 h2 h3 (opX_grown hx hbw) hg hnew
  have hnb : some b ≠ v1.ownBlock := fun e => by
    obtain ⟨_, _, cs, hc⟩ := hown b e.symm
    exact hne (not_type hb hc)
  have hb6 : w6.heap[b]? = some (.cells #[x0, v1, m] TS (0, 0)) := (hg.block b (Array.getElem?_eq_some_iff.1 (alloc_block hb)).1 hnb).trans (alloc_block hb)
  refine ⟨Lib.cell_of_heap hb6 1, frozen_block hb6, heap_setCell_same w6 b 1 _ TS v2 hb6, isLog_but (S := fun k => k = b) h6 (sameBut_set rfl) fun k hk => ?_, ?_⟩
  · obtain rfl := hk
    exact ⟨hlo, noPart_of hb6 hTS, fun cs fz hc => hne (not_type hb6 hc)⟩
  · exact ((sameBut_below hbw _).comp (sameBut_grown (S := fun k => k = b ∨ v1.ownBlock = some k) hg fun k e => .inr e) fun k _ h => h).comp (sameBut_set (S := fun k => k = b ∨ v1.ownBlock = some k) (.inl rfl)) fun k _ h => h
/-- The documents' row holds one more. -/
theorem docs_push {e TS lo : Nat} {w : World} {b : Nat} {v0 m v1 : Value} {D : List (List UInt8)} {d : List UInt8} {E : List SE} (he : e ≠ 50) (hTS : TS ≠ 50) (hne : TS ≠ e) (hs : TS ≠ 9) (hes : e ≠ 9) (hlo : lo ≤ b) (hb : w.heap[b]? = some (.cells #[v0, v1, m] TS (0, 0))) (hd : w.ownsRow lo 9 1 v0 D.length (docsC D)) (hl : isLog e lo lo w v1 E) :
    (w.alloc (.cells #[.string ⟨d.toArray⟩] 9)).ownsRow lo 9 1 v0 D.length (docsC D) ∧ ∀ w6 v2, w6.ownsRow lo 9 1 v2 (D.length + 1) (docsC D ++ [.string ⟨d.toArray⟩]) → (w.alloc (.cells #[.string ⟨d.toArray⟩] 9)).grownBy w6 v0.ownBlock →
      w6.cell? ⟨b, 0, none⟩ = some v0 ∧ w6.frozen? ⟨b, 0, none⟩ = false ∧ (w6.setCell ⟨b, 0, none⟩ v2).heap[b]? = some (.cells #[v2, v1, m] TS (0, 0)) ∧ (w6.setCell ⟨b, 0, none⟩ v2).ownsRow lo 9 1 v2 (D ++ [d]).length (docsC (D ++ [d])) ∧ isLog e lo lo (w6.setCell ⟨b, 0, none⟩ v2) v1 E ∧ sameBut w (w6.setCell ⟨b, 0, none⟩ v2) (fun k => k = b ∨ v0.ownBlock = some k) := by
  have hbw : Below w.heap.size w (w.alloc (.cells #[.string ⟨d.toArray⟩] 9)) := (Below.refl _ _).alloc (Nat.le_refl _) _
  have h2 := own_below hd hbw
  have hst : ∀ k, v0.ownBlock = some k → lo ≤ k ∧ ∃ cs, w.heap[k]? = some (.cells cs 9 (0, 0)) := fun k hk => by
    rcases hd.2 with ⟨rfl, _⟩ | ⟨g, cap, cur, rfl, h3, h4, _⟩
    · cases hk
    · obtain rfl : g = k := Option.some.inj hk
      exact ⟨h3, _, h4⟩
  refine ⟨h2, fun w6 v2 hnew hg => ?_⟩
  have hnb : some b ≠ v0.ownBlock := fun e => by
    obtain ⟨_, cs, hc⟩ := hst b e.symm
    exact hs (not_type hb hc)
  have hb6 : w6.heap[b]? = some (.cells #[v0, v1, m] TS (0, 0)) := (hg.block b (Array.getElem?_eq_some_iff.1 (alloc_block hb)).1 hnb).trans (alloc_block hb)
  have hS : sameBut w (w6.setCell ⟨b, 0, none⟩ v2) (fun k => k = b ∨ v0.ownBlock = some k) := ((sameBut_below hbw _).comp (sameBut_grown (S := fun k => k = b ∨ v0.ownBlock = some k) hg fun k e => .inr e) fun k _ h => h).comp (sameBut_set (S := fun k => k = b ∨ v0.ownBlock = some k) (.inl rfl)) fun k _ h => h
  refine ⟨Lib.cell_of_heap hb6 0, frozen_block hb6, heap_setCell_same w6 b 0 _ TS v2 hb6, ?_, isLog_but hl hS fun k hk => ?_, hS⟩
  · have e1 : docsC (D ++ [d]) = docsC D ++ [.string ⟨d.toArray⟩] := by simp [docsC]
    rw [e1, List.length_append]
    refine own_same (S := fun k => k = b) hnew (sameBut_set rfl) fun k hk hkb => ?_
    obtain rfl := hkb
    rcases hnew.2 with ⟨_, h0⟩ | ⟨g, cap, cur, e, h3, h4, _⟩
    · exact absurd h0 (Nat.succ_ne_zero _)
    · subst e
      obtain rfl : g = k := Option.some.inj hk
      exact hs (not_type hb6 h4)
  · rcases hk with rfl | hk
    · exact ⟨hlo, noPart_of hb hTS, fun cs fz hc => hne (not_type hb hc)⟩
    · obtain ⟨k1, cs, hc⟩ := hst k hk
      exact ⟨k1, noPart_of hc (by decide), fun cs' fz hc' => hes (not_type hc hc').symm⟩
/-- The struct's first cell is set. -/
theorem text_set {e TS lo : Nat} {w : World} {b : Nat} {x0 m v1 : Value} {E : List SE} (hTS : TS ≠ 50) (hne : TS ≠ e) (hlo : lo ≤ b) (hb : w.heap[b]? = some (.cells #[x0, v1, m] TS (0, 0))) (hl : isLog e lo lo w v1 E) (u : Value) :
    w.frozen? ⟨b, 0, none⟩ = false ∧ (w.setCell ⟨b, 0, none⟩ u).heap[b]? = some (.cells #[u, v1, m] TS (0, 0)) ∧ isLog e lo lo (w.setCell ⟨b, 0, none⟩ u) v1 E :=
  ⟨frozen_block hb, heap_setCell_same w b 0 _ TS u hb, isLog_but (S := fun k => k = b) hl (sameBut_set rfl) fun k hk => by
    obtain rfl := hk
    exact ⟨hlo, noPart_of hb hTS, fun cs fz hc => hne (not_type hb hc)⟩⟩
end Go.Proofs.YtfedgjnhanlmeabGreatDoor

namespace Go.Proofs.YtfedgjnhanlmeabGreatDoor
open Go.RowKit Go.Maps
set_option linter.unusedVariables false
attribute [local go_sem] Oper.semAt_some

theorem entry_one (a b : Int) (p : Option Addr) (n c : Nat) : ∀ u ∈ [Value.int .i64 a, .int .i64 b, .slice p n c], u.oneCell' = true := fun u hu => by
  simp only [List.mem_cons, List.mem_nil_iff, or_false] at hu
  rcases hu with rfl | rfl | rfl <;> rfl
set_option maxRecDepth 100000 in
set_option maxHeartbeats 2000000 in
theorem srvDo_full {lo n : Nat} {w : World} {b bm : Nat} {t : List UInt8} {E : List SE} {M : Told} {l0 : Int} (c i : Int) (k : Nat) (v : Value) (ps : List Pt) {p : Option Addr} {c1 : Nat} (hr : opAt w v ps) (hkl : k ≤ E.length) (hn : E.length ≤ 100) (hc1 : E.length ≤ c1) (S : DoStart lo n w b bm t E M l0 k v ps p c1) (ho : ordE (turnS ps (E.drop k)) t = 0) (hz : 2000 < (applyP (turnS ps (E.drop k)) t).length) :
    Calls Tryz.prog 111 #[.pointer (some ⟨b, 0, none⟩), .int .i64 c, .int .i64 i, .int .i64 (k : Int), v] w fun e w' => e = .returned (errV 12) ∧ Below w.heap.size w w' := by
  obtain ⟨s1, s2, s3, s4, h3⟩ := S
  have CS : Hid _ := s1
  have CC : Hid (∀ wx, Below w.heap.size w wx → Calls Tryz.prog 90 #[v, .int .i64 (endE l0 (E.take k))] wx fun e w' => e = .returned .nilIface ∧ Below wx.heap.size wx w') := s2
  have CT : Hid (TurnC w l0 E k p c1 v ps) := s3
  have CA : Hid (ApplyC w t (turnS ps (E.drop k))) := s4
  have hbl := (Array.getElem?_eq_some_iff.1 h3).1
  have x0 : w.cell? ⟨b, 0, none⟩ = some (.string ⟨t.toArray⟩) := Lib.cell_of_heap h3 0
  have x1 : w.cell? ⟨b, 1, none⟩ = some (.slice p E.length c1) := Lib.cell_of_heap h3 1
  have HB : Hid (b < w.heap.size) := hbl
  have X0 : Hid (w.cell? ⟨b, 0, none⟩ = some (.string ⟨t.toArray⟩)) := x0
  have X1 : Hid (w.cell? ⟨b, 1, none⟩ = some (.slice p E.length c1)) := x1
  unfold TurnC at CT
  unfold ApplyC at CA
  rw [if_pos ho, ho, show errV 0 = .nilIface from rfl] at CA
  have hV : errV 12 = .iface 26 (.int .i64 12) := rfl
  rw [hV]
  have hk0 : ¬ (k : Int) < 0 := by omega
  have hk1 : ¬ (E.length : Int) < (k : Int) := by omega
  have hk2 : ¬ (300 : Int) ≤ (E.length : Int) := by omega
  have hk3 : (k : Int) ≤ (E.length : Int) := by omega
  obtain ⟨pv, cv, rfl, _⟩ := hr
  generalize endE l0 (E.take k) = R at *
  generalize turnS ps (E.drop k) = q at *
  generalize applyP q t = s' at *
  have hz1 : (ByteArray.mk s'.toArray).size = s'.length := by simp [ByteArray.size]
  have hz2 : (2000 : Int) < (s'.length : Int) := by omega
  obtain ⟨qn, hqn⟩ : ∃ m, q.length = m := ⟨_, rfl⟩
  rw [hqn] at CT
  clear h3 s1 s2 s3 s4 ho hbl hV hz
  go_enter Tryz.func111, Tryz.ntmps111
  go_wp2_with (first
    | (go_at_call 170; refine Calls.mono CS.out ?_; rintro e w1 ⟨rfl, hb1⟩; have HB1 : Hid (Below w.heap.size w w1) := hb1; clear hb1)
    | (go_at_call 90; refine (CC.out _ HB1.out).mono ?_; rintro e w2 ⟨rfl, hb2⟩; have HB2 : Hid (Below w.heap.size w w2) := HB1.out.trans (hb2.mono HB1.out.size); have y1 : w2.cell? ⟨b, 1, none⟩ = some (.slice p E.length c1) := (HB2.out.cell (p := ⟨b, 1, none⟩) HB.out).trans X1.out; clear hb2)
    | (go_at_call 171; refine (CT.out _ HB2.out).mono ?_; rintro e w3 ⟨p', c', rfl, ho3, hb3⟩; have HO3 : Hid (opAt w3 (.slice p' qn c') q) := ho3.1; have HB3 : Hid (Below w.heap.size w w3) := HB2.out.trans (hb3.mono HB2.out.size); have y0 : w3.cell? ⟨b, 0, none⟩ = some (.string ⟨t.toArray⟩) := (HB3.out.cell (p := ⟨b, 0, none⟩) HB.out).trans X0.out; clear hb3 ho3)
    | (go_at_call 28; refine (CA.out _ _ HB3.out HO3.out).mono ?_; rintro e w4 ⟨rfl, hb4⟩; have HB4 : Hid (Below w.heap.size w w4) := HB3.out.trans (hb4.mono HB3.out.size); clear hb4)
    | fail)
  all_goals
    go_ret
    exact ⟨rfl, HB4.out⟩
set_option maxRecDepth 100000 in
set_option maxHeartbeats 2000000 in
theorem srvDo_ok {lo n : Nat} {w : World} {b bm : Nat} {t : List UInt8} {E : List SE} {M : Told} {l0 : Int} (c i : Int) (k : Nat) (v : Value) (ps : List Pt) {p : Option Addr} {c1 : Nat} (hr : opAt w v ps) (hkl : k ≤ E.length) (hn : E.length ≤ 100) (hc1 : E.length ≤ c1) (S : DoStart lo n w b bm t E M l0 k v ps p c1) (ho : ordE (turnS ps (E.drop k)) t = 0) (hz : (applyP (turnS ps (E.drop k)) t).length ≤ 2000) (hs : isSrv lo n w b bm t E M) (hlg : isLog 105 lo lo w (.slice p E.length c1) E) :
    Calls Tryz.prog 111 #[.pointer (some ⟨b, 0, none⟩), .int .i64 c, .int .i64 i, .int .i64 (k : Int), v] w fun e w' => e = .returned .nilIface ∧ isSrv lo n w' b bm (applyP (turnS ps (E.drop k)) t) (E ++ [⟨c, i, turnS ps (E.drop k)⟩]) M ∧ sameBut w w' (touchS lo w bm) := by
  obtain ⟨s1, s2, s3, s4, h3⟩ := S
  have CS : Hid _ := s1
  have CC : Hid (∀ wx, Below w.heap.size w wx → Calls Tryz.prog 90 #[v, .int .i64 (endE l0 (E.take k))] wx fun e w' => e = .returned .nilIface ∧ Below wx.heap.size wx w') := s2
  have CT : Hid (TurnC w l0 E k p c1 v ps) := s3
  have CA : Hid (ApplyC w t (turnS ps (E.drop k))) := s4
  have hbl := (Array.getElem?_eq_some_iff.1 h3).1
  have x0 : w.cell? ⟨b, 0, none⟩ = some (.string ⟨t.toArray⟩) := Lib.cell_of_heap h3 0
  have x1 : w.cell? ⟨b, 1, none⟩ = some (.slice p E.length c1) := Lib.cell_of_heap h3 1
  have HB : Hid (b < w.heap.size) := hbl
  have X0 : Hid (w.cell? ⟨b, 0, none⟩ = some (.string ⟨t.toArray⟩)) := x0
  have X1 : Hid (w.cell? ⟨b, 1, none⟩ = some (.slice p E.length c1)) := x1
  unfold TurnC at CT
  unfold ApplyC at CA
  rw [if_pos ho, ho, show errV 0 = .nilIface from rfl] at CA
  have hk0 : ¬ (k : Int) < 0 := by omega
  have hk1 : ¬ (E.length : Int) < (k : Int) := by omega
  have hk2 : ¬ (300 : Int) ≤ (E.length : Int) := by omega
  have hk3 : (k : Int) ≤ (E.length : Int) := by omega
  obtain ⟨i0, hi, hq0, hq1, hq2⟩ := info_parts info_sentry
  have PUSH : Hid (∀ (q : List Pt) (s' : List UInt8) w4 v', Below w.heap.size w w4 → opX lo w4 v' q → w4.frozen? ⟨b, 0, none⟩ = false ∧ (w4.setCell ⟨b, 0, none⟩ (.string ⟨s'.toArray⟩)).cell? ⟨b, 1, none⟩ = some (.slice p E.length c1) ∧ ∃ vs, vs.length = E.length ∧ ((w4.setCell ⟨b, 0, none⟩ (.string ⟨s'.toArray⟩)).alloc (.cells #[.int .i64 c, .int .i64 i, v'] 105)).ownsRow lo 105 3 (.slice p E.length c1) E.length (logC E vs) ∧ ∀ w6 v2, w6.ownsRow lo 105 3 v2 (E.length + 1) (logC E vs ++ [.int .i64 c, .int .i64 i, v']) → ((w4.setCell ⟨b, 0, none⟩ (.string ⟨s'.toArray⟩)).alloc (.cells #[.int .i64 c, .int .i64 i, v'] 105)).grownBy w6 (Value.slice p E.length c1).ownBlock →
      w6.cell? ⟨b, 1, none⟩ = some (.slice p E.length c1) ∧ w6.frozen? ⟨b, 1, none⟩ = false ∧ isSrv lo n (w6.setCell ⟨b, 1, none⟩ v2) b bm s' (E ++ [⟨c, i, q⟩]) M ∧ sameBut w (w6.setCell ⟨b, 1, none⟩ v2) (touchS lo w bm)) := fun q s' w4 v' hb4 hx => by
    obtain ⟨g1, g2, _, g4⟩ := hs
    have hb4' : w4.heap[b]? = some (.cells #[.string ⟨t.toArray⟩, .slice p E.length c1, .map (some bm)] 195 (0, 0)) := (hb4.block b hbl).trans h3
    obtain ⟨t1, t2, t3⟩ := text_set (e := 105) (by decide) (by decide) g1 hb4' (isLog_below hlg hb4) (.string ⟨s'.toArray⟩)
    obtain ⟨vs, u1, u2, u3⟩ := log_push (x := ⟨c, i, q⟩) (vx := v') (by decide) (by decide) (by decide) g1 t2 t3 (opX_same hx (sameBut_set (S := fun k => k = b) rfl) fun k _ hk => by obtain rfl := hk; exact ⟨g1, noPart_of hb4' (by decide)⟩)
    refine ⟨t1, Lib.cell_of_heap t2 1, vs, u1, u2, fun w6 v2 hn6 hg6 => ?_⟩
    obtain ⟨y1, y2, y3, y4, y5⟩ := u3 w6 v2 hn6 hg6
    have hS : sameBut w (w6.setCell ⟨b, 1, none⟩ v2) (fun k => k = b ∨ (Value.slice p E.length c1).ownBlock = some k) := ((sameBut_below hb4 _).comp (sameBut_set (S := fun k => k = b ∨ (Value.slice p E.length c1).ownBlock = some k) (.inl rfl)) fun k _ h => h).comp y5 fun k _ h => h
    have hcell : ∀ k, (k = b ∨ (Value.slice p E.length c1).ownBlock = some k) → lo ≤ k ∧ ∃ cs T, w.heap[k]? = some (.cells cs T (0, 0)) ∧ (T = 195 ∨ T = 105) := fun k hk => by
      rcases hk with rfl | hk
      · exact ⟨g1, _, _, h3, .inl rfl⟩
      · obtain ⟨a1, _, cs, a2⟩ := log_own hlg hk
        exact ⟨a1, cs, _, a2, .inr rfl⟩
    refine ⟨y1, y2, ⟨g1, g2, ⟨v2, y3, y4⟩, isLast_but g4 hS fun hk => ?_⟩, hS.mono fun k _ hk => ⟨(hcell k hk).1, .inr (hcell k hk).2⟩⟩
    obtain ⟨_, cs, T, hc, _⟩ := hcell bm hk
    exact noCells_map g4 _ _ _ hc
  obtain ⟨pv, cv, rfl, _⟩ := hr
  generalize endE l0 (E.take k) = R at *
  generalize turnS ps (E.drop k) = q at *
  generalize applyP q t = s' at *
  have hz1 : (ByteArray.mk s'.toArray).size = s'.length := by simp [ByteArray.size]
  have hz2 : ¬ (2000 : Int) < (s'.length : Int) := by omega
  obtain ⟨qn, hqn⟩ : ∃ m, q.length = m := ⟨_, rfl⟩
  rw [hqn] at CT
  have HLO : Hid (lo ≤ b) := hs.1
  clear h3 s1 s2 s3 s4 ho hbl hz hs hlg
  go_enter Tryz.func111, Tryz.ntmps111
  go_wp2_with (first
    | (go_at_call 170; refine Calls.mono CS.out ?_; rintro e w1 ⟨rfl, hb1⟩; have HB1 : Hid (Below w.heap.size w w1) := hb1; clear hb1)
    | (go_at_call 90; refine (CC.out _ HB1.out).mono ?_; rintro e w2 ⟨rfl, hb2⟩; have HB2 : Hid (Below w.heap.size w w2) := HB1.out.trans (hb2.mono HB1.out.size); have y1 : w2.cell? ⟨b, 1, none⟩ = some (.slice p E.length c1) := (HB2.out.cell (p := ⟨b, 1, none⟩) HB.out).trans X1.out; clear hb2)
    | (go_at_call 171; refine (CT.out _ HB2.out).mono ?_; rintro e w3 ⟨p', c', rfl, ho3, hb3⟩; have HO3 : Hid (opAt w3 (.slice p' qn c') q) := ho3.1; have HX3 : Hid (opX lo w3 (.slice p' qn c') q) := opX_of_new ho3; have HB3 : Hid (Below w.heap.size w w3) := HB2.out.trans (hb3.mono HB2.out.size); have y0 : w3.cell? ⟨b, 0, none⟩ = some (.string ⟨t.toArray⟩) := (HB3.out.cell (p := ⟨b, 0, none⟩) HB.out).trans X0.out; clear hb3 ho3)
    | (go_at_call 28; refine (CA.out _ _ HB3.out HO3.out).mono ?_; rintro e w4 ⟨rfl, hb4⟩; have HB4 : Hid (Below w.heap.size w w4) := HB3.out.trans (hb4.mono HB3.out.size); obtain ⟨zf, z1, vs, z2, z3, z4⟩ := PUSH.out q s' w4 _ HB4.out (opX_grown HX3.out hb4); have Z3 : Hid _ := z3; have Z4 : Hid _ := z4; have z0 : w4.cell? ⟨b, 0, none⟩ = some (.string ⟨t.toArray⟩) := (HB4.out.cell (p := ⟨b, 0, none⟩) HB.out).trans X0.out; have HLS : Hid (lo ≤ b ∧ b < w4.heap.size) := ⟨HLO.out, Nat.lt_of_lt_of_le HB.out HB4.out.size⟩; clear hb4 z3 z4)
    | (at_builtin; refine wpList_append_own _ rfl _ _ 87 rfl lo 105 i0 (.agg #[.int .i64 0, .int .i64 0, .slice none 0 0]) 3 40 Tryz.underlying87 hi hq0 hq1 hq2 rfl (by decide) _ _ _ rfl Z3.out ⟨w4.heap.size, 0, none⟩ 1 1 [.int .i64 c, .int .i64 i, .slice p' qn c'] rfl rfl (cells_newS _ _ (by first | rfl | simp) _ _) (entry_one _ _ _ _ _) (by unfold maxLen; omega) (by omega) (by have := HLS.out; simp; omega) ?_)
    | fail)
  all_goals
    intro v2 w6 hown' hg' _
    have hg2 : ((w4.setCell ⟨b, 0, none⟩ (.string ⟨s'.toArray⟩)).alloc (.cells #[.int .i64 c, .int .i64 i, .slice p' qn c'] 105)).grownBy w6 (Value.slice p E.length c1).ownBlock := by
      first
        | exact hg'
        | (have e : c1 = k := by assumption
           rw [e]; exact hg')
    obtain ⟨y1, y2, y3, y4⟩ := Z4.out w6 v2 hown' hg2
    have Y3 : Hid _ := y3
    have Y4 : Hid _ := y4
    obtain ⟨p6, c6, rfl⟩ := own_slice hown'
    clear hown' hg' hg2 y3 y4
    go_wp2
    go_ret
    exact ⟨rfl, Y3.out, Y4.out⟩
end Go.Proofs.YtfedgjnhanlmeabGreatDoor

namespace Go.Proofs.YtfedgjnhanlmeabGreatDoor
open Go.RowKit Go.Maps
set_option linter.unusedVariables false
attribute [local go_sem] Oper.semAt_some

theorem srvDo_any {lo n : Nat} {w : World} {b bm : Nat} {t : List UInt8} {E : List SE} {M : Told} (h : isSrv lo n w b bm t E M) {l0 : Int} (hk : okS l0 t E) (c i rev : Int) (v : Value) (ps : List Pt) (hT : Lib.Utf8Tabs 2 3 w) (hr : opAt w v ps) (hwf : ∀ p ∈ ps, wfP p) (hl : ps.length ≤ 100) (hpu : putsP ps ≤ 40000) (hn : E.length ≤ 100) :
    Calls Tryz.prog 111 #[.pointer (some ⟨b, 0, none⟩), .int .i64 c, .int .i64 i, .int .i64 rev, v] w fun e w' => e = .returned (errV (doE l0 t E rev ps)) ∧ isSrv lo n w' b bm (doT l0 t E rev ps) (doL l0 t E c i rev ps) M ∧ sameBut w w' (touchS lo w bm) := by
  by_cases h1 : rev < 0 ∨ (E.length : Int) < rev
  · have hd : doE l0 t E rev ps = 2 := if_pos h1
    refine (srvDo_range h c i rev v h1).mono ?_
    rintro e w' ⟨rfl, hb⟩
    exact ⟨by rw [hd], do_none h hb (by rw [hd]; decide)⟩
  · obtain ⟨k, rfl⟩ : ∃ k : Nat, rev = (k : Int) := ⟨rev.toNat, by omega⟩
    have hkl : k ≤ E.length := by omega
    have ek : ((k : Int)).toNat = k := rfl
    have e2 : ¬ (300 ≤ E.length) := by omega
    by_cases hc : chkE ps (endE l0 (E.take k)) = 0
    · obtain ⟨p, c1, S, hlg⟩ := do_start h hk k v ps hT hr hwf hl hpu hkl hn hc
      have hc1 : E.length ≤ c1 := (logAt_of hlg).2.1
      by_cases ho : ordE (turnS ps (E.drop k)) t = 0
      · by_cases hz : 2000 < (applyP (turnS ps (E.drop k)) t).length
        · have hd : doE l0 t E k ps = 12 := by
            unfold doE
            rw [if_neg h1, if_neg e2, ek, if_neg (by rw [hc]; decide), if_neg (by rw [ho]; decide), if_pos hz]
          refine (srvDo_full c i k v ps hr hkl hn hc1 S ho hz).mono ?_
          rintro e w' ⟨rfl, hb⟩
          exact ⟨by rw [hd], do_none h hb (by rw [hd]; decide)⟩
        · have hd : doE l0 t E k ps = 0 := by
            unfold doE
            rw [if_neg h1, if_neg e2, ek, if_neg (by rw [hc]; decide), if_neg (by rw [ho]; decide), if_neg hz]
          refine (srvDo_ok c i k v ps hr hkl hn hc1 S ho (by omega) h hlg).mono ?_
          rintro e w' ⟨rfl, ha, hb⟩
          refine ⟨by rw [hd]; rfl, ?_, hb⟩
          unfold doT doL
          rw [if_pos hd, if_pos hd]
          exact ha
      · have hd : doE l0 t E k ps = ordE (turnS ps (E.drop k)) t := by
          unfold doE
          rw [if_neg h1, if_neg e2, ek, if_neg (by rw [hc]; decide), if_pos ho]
        refine (srvDo_apply c i k v ps hr hkl hn hc1 S ho).mono ?_
        rintro e w' ⟨rfl, hb⟩
        exact ⟨by rw [hd], do_none h hb (by rw [hd]; exact ho)⟩
    · have hd : doE l0 t E k ps = chkE ps (endE l0 (E.take k)) := by
        unfold doE
        rw [if_neg h1, if_neg e2, ek, if_pos hc]
      refine (srvDo_check h hk c i k v ps hT hr hwf hl hkl hn hc).mono ?_
      rintro e w' ⟨rfl, hb⟩
      exact ⟨by rw [hd], do_none h hb (by rw [hd]; exact hc)⟩
theorem srvTell_any (n : Int) (w : World) (hg : asLaid w) : Calls Tryz.prog 26 #[errV n] w fun e w' => e = .returned (.int .i64 n) ∧ Below w.heap.size w w' := by
  unfold errV
  by_cases h : n = 0
  · subst h
    rw [if_pos rfl]
    refine (Tell_nil w).mono ?_
    rintro e w' ⟨rfl, rfl⟩
    exact ⟨rfl, Below.refl _ _⟩
  · rw [if_neg h]
    exact Tell_number n w hg
theorem srvEqlSome (bm : Nat) (w : World) : (binOp .eql 193 (.map (some bm)) (.map none)).run Tryz.prog w = .ok (.bool false) w := by kernel_rfl
attribute [local go_sem] srvEqlSome
set_option maxRecDepth 100000 in
/-- An operation that is not new. -/
theorem srvTake_old {lo n : Nat} {w : World} {b bm : Nat} {t : List UInt8} {E : List SE} {M : Told} (h : isSrv lo n w b bm t E M) (c i rev : Int) (hc : rng c) (v : Value) (hi : i ≤ (got M c).1) :
    Calls Tryz.prog 37 #[.pointer (some ⟨b, 0, none⟩), .int .i64 c, .int .i64 i, .int .i64 rev, v] w fun e w' => e = .returned (errV (if i < (got M c).1 then 8 else (got M c).2)) ∧ Below w.heap.size w w' := by
  obtain ⟨_, _, ⟨v1, h3, h4⟩, h5⟩ := h
  have x2 : w.cell? ⟨b, 2, none⟩ = some (.map (some bm)) := Lib.cell_of_heap h3 2
  have L : Hid _ := isLast_look h5 (t := 193) Tryz.underlying193 (toldZero w) hc
  obtain ⟨gp, hgp⟩ : ∃ x, got M c = x := ⟨_, rfl⟩
  rw [hgp] at hi L ⊢
  obtain ⟨g1, g2⟩ := gp
  simp only at hi L ⊢
  clear h3 h4 h5
  by_cases h1 : i < g1
  · rw [if_pos h1, show errV 8 = .iface 26 (.int .i64 8) from rfl]
    go_enter Tryz.func37, Tryz.ntmps37
    go_wp2_with (first | (rw [L.out]) | fail)
    go_ret
    exact ⟨rfl, (Below.refl _ _).alloc (Nat.le_refl _) _⟩
  · rw [if_neg h1]
    have h2 : ¬ g1 < i := by omega
    by_cases hz : g2 = 0
    · subst hz
      rw [show errV 0 = .nilIface from rfl]
      go_enter Tryz.func37, Tryz.ntmps37
      go_wp2_with (first | (rw [L.out]) | fail)
      go_ret
      exact ⟨rfl, (Below.refl _ _).alloc (Nat.le_refl _) _⟩
    · rw [errV_ne hz]
      have hz2 : (g2 == 0) = false := by simpa using hz
      go_enter Tryz.func37, Tryz.ntmps37
      go_wp2_with (first | (rw [L.out]) | fail)
      go_ret
      exact ⟨rfl, (Below.refl _ _).alloc (Nat.le_refl _) _⟩

theorem isSrv_other {lo n : Nat} {w w' : World} {b bm : Nat} {t : List UInt8} {E : List SE} {M : Told} {S : Nat → Prop} (h : isSrv lo n w b bm t E M) (hs : sameBut w w' S) (hS : ∀ k, k < w.heap.size → S k → lo ≤ k ∧ ∃ cs T fz, w.heap[k]? = some (.cells cs T fz) ∧ T ≠ 50 ∧ T ≠ 195 ∧ T ≠ 105) : isSrv lo n w' b bm t E M := by
  obtain ⟨h1, h2, ⟨v1, h3, h4⟩, h5⟩ := h
  have hs' : sameBut w w' (fun k => k < w.heap.size ∧ S k) := ⟨hs.1, fun k hk hn => hs.2 k hk fun e => hn ⟨hk, e⟩, hs.os, hs.tape, hs.output⟩
  refine ⟨h1, h2, ⟨v1, (hs'.2 b (Array.getElem?_eq_some_iff.1 h3).1 fun hk => ?_).trans h3, isLog_but h4 hs' fun k hk => ?_⟩, isLast_but h5 hs' fun hk => ?_⟩
  · obtain ⟨_, cs, T, fz, hc, _, t2, _⟩ := hS b hk.1 hk.2
    exact t2 (not_type h3 hc).symm
  · obtain ⟨a, cs, T, fz, hc, t1, _, t3⟩ := hS k hk.1 hk.2
    exact ⟨a, noPart_of hc t1, fun cs' fz' hc' => t3 (not_type hc hc')⟩
  · obtain ⟨_, cs, T, fz, hc, _⟩ := hS bm hk.1 hk.2
    exact noCells_map h5 _ _ _ hc
theorem asLaid_same {w w' : World} {S : Nat → Prop} (h : asLaid w) (hs : sameBut w w' S) (hS : ¬ S 0) : asLaid w' := cell_same hs h hS
set_option maxRecDepth 100000 in
set_option maxHeartbeats 2000000 in
/-- An operation that is new. -/
theorem srvTake_new {lo n : Nat} {w : World} {b bm : Nat} {t : List UInt8} {E : List SE} {M : Told} (h : isSrv lo n w b bm t E M) {l0 : Int} (hk : okS l0 t E) (c i rev : Int) (hc : rng c) (v : Value) (ps : List Pt) (hg : asLaid w) (hG : 0 < lo) (hT : Lib.Utf8Tabs 2 3 w) (hr : opAt w v ps) (hwf : ∀ p ∈ ps, wfP p) (hl : ps.length ≤ 100) (hpu : putsP ps ≤ 40000) (hn : E.length ≤ 100) (hnn : n < 1000) (hi : (got M c).1 < i) :
    Calls Tryz.prog 37 #[.pointer (some ⟨b, 0, none⟩), .int .i64 c, .int .i64 i, .int .i64 rev, v] w fun e w' => e = .returned (errV (doE l0 t E rev ps)) ∧ isSrv lo (n + 1) w' b bm (doT l0 t E rev ps) (doL l0 t E c i rev ps) (upd M c (i, doE l0 t E rev ps)) ∧ sameBut w w' (touchS lo w bm) := by
  have CD : Hid (∀ wx, Below w.heap.size w wx → Calls Tryz.prog 111 #[.pointer (some ⟨b, 0, none⟩), .int .i64 c, .int .i64 i, .int .i64 rev, v] wx fun e w' => e = .returned (errV (doE l0 t E rev ps)) ∧ isSrv lo n w' b bm (doT l0 t E rev ps) (doL l0 t E c i rev ps) M ∧ sameBut wx w' (touchS lo wx bm)) := fun wx hb =>
    srvDo_any (isSrv_below h hb) hk c i rev v ps (Go.Proofs.Utf8Tabs_below hT hb) (opAt_below hr hb (Nat.le_refl _)) hwf hl hpu hn
  have HS : Hid (isSrv lo n w b bm t E M) := h
  have HG : Hid (asLaid w ∧ 0 < lo) := ⟨hg, hG⟩
  have hsh : ∃ p c, v = .slice p ps.length c := by obtain ⟨p, c, e, _⟩ := hr; exact ⟨p, c, e⟩
  obtain ⟨pv, cv, rfl⟩ := hsh
  obtain ⟨hlo, _, ⟨v1, h3, h4⟩, h5⟩ := h
  have x2 : w.cell? ⟨b, 2, none⟩ = some (.map (some bm)) := Lib.cell_of_heap h3 2
  have L : Hid _ := isLast_look h5 (t := 193) Tryz.underlying193 (toldZero w) hc
  have HLS : Hid (lo ≤ w.heap.size) := Nat.le_of_lt (Nat.lt_of_le_of_lt hlo (Array.getElem?_eq_some_iff.1 h3).1)
  have HC : Hid (rng c) := hc
  obtain ⟨gp, hgp⟩ : ∃ x, got M c = x := ⟨_, rfl⟩
  rw [hgp] at hi L
  obtain ⟨g1, g2⟩ := gp
  simp only at hi L
  have hi2 : ¬ i < g1 := by omega
  obtain ⟨β, hβ⟩ : ∃ β, w.heap.size = β := ⟨_, rfl⟩
  have HBT : Hid (w.heap.size = β) := hβ
  generalize hd : doE l0 t E rev ps = d at *
  generalize doT l0 t E rev ps = t' at *
  generalize doL l0 t E c i rev ps = E' at *
  have hbβ : b ≠ β := fun e => Nat.lt_irrefl _ (by have := (Array.getElem?_eq_some_iff.1 h3).1; rw [hβ, ← e] at this; exact this)
  have BOX : Hid (∀ w1 w2, sameBut (w.alloc (.cells #[.int .i64 g1, .int .i64 g2] 197)) w1 (touchS lo (w.alloc (.cells #[.int .i64 g1, .int .i64 g2] 197)) bm) → isSrv lo n w1 b bm t' E' M → Below w1.heap.size w1 w2 → w2.heap[β]? = some (.cells #[.int .i64 g1, .int .i64 g2] 197 (0, 0)) ∧ w2.cell? ⟨b, 2, none⟩ = some (.map (some bm)) ∧ isSrv lo n w2 b bm t' E' M ∧ sameBut w w2 (touchS lo w bm)) := fun w1 w2 hs1 hi1 hb2 => by
    have hal := heap_alloc_new w (.cells #[.int .i64 g1, .int .i64 g2] 197)
    have hbw : Below w.heap.size w (w.alloc (.cells #[.int .i64 g1, .int .i64 g2] 197)) := (Below.refl _ _).alloc (Nat.le_refl _) _
    have hi2 := isSrv_below hi1 hb2
    have hb1 : w1.heap[β]? = some (.cells #[.int .i64 g1, .int .i64 g2] 197 (0, 0)) := by
      rw [← hβ]
      refine (hs1.2 _ (by simp) fun hk => ?_).trans hal
      rcases hk.2 with e | ⟨cs, T, hc, ht⟩
      · exact noCells_map (isLast_but (S := fun _ => False) h5 (sameBut_below hbw _) id) _ _ _ (e ▸ hal)
      · have := not_type hal hc
        subst this
        revert ht; decide
    obtain ⟨_, _, ⟨v2, e3, _⟩, _⟩ := id hi2
    refine ⟨(hb2.block β (Array.getElem?_eq_some_iff.1 hb1).1).trans hb1, Lib.cell_of_heap e3 2, hi2, ?_⟩
    refine ((sameBut_below hbw (touchS lo w bm)).comp hs1 fun k hk hS => ⟨hS.1, hS.2.imp id fun ⟨cs, T, hc, ht⟩ => ⟨cs, T, (hbw.block k hk).symm.trans hc, ht⟩⟩).comp (sameBut_below hb2 (fun _ => False)) fun _ _ h => h.elim
  clear h3 h4 h5 hgp hk hg hG hT hr hwf hl hpu hn hc hlo
  go_enter Tryz.func37, Tryz.ntmps37
  go_wp2_with (first
    | (rw [L.out])
    | (go_at_call 111; refine (CD.out _ ((Below.refl _ _).alloc (Nat.le_refl _) _)).mono ?_; rintro e w1 ⟨rfl, hs1, hb1⟩; have HS1 : Hid _ := hs1; have HB1 : Hid _ := hb1; have HGW : Hid (asLaid w1) := asLaid_same (asLaid_below HG.out.1 ((Below.refl _ _).alloc (Nat.le_refl _) _)) hb1 (fun hk => absurd hk.1 (Nat.not_le.2 HG.out.2)); clear hs1 hb1)
    | (go_at_call 26; refine (srvTell_any d _ HGW.out).mono ?_; rintro e w2 ⟨rfl, hb2⟩; obtain ⟨b1, b2, b3, b4⟩ := BOX.out _ w2 HB1.out HS1.out hb2; have B1 : Hid _ := b1; have B3 : Hid _ := b3; have B4 : Hid _ := b4; have x0 : w2.cell? ⟨β, 0, none⟩ = some (.int .i64 g1) := Lib.cell_of_heap b1 0; have x1 : w2.cell? ⟨β, 1, none⟩ = some (.int .i64 g2) := Lib.cell_of_heap b1 1; have f0 : w2.frozen? ⟨β, 0, none⟩ = false := frozen_block b1; have f1 : w2.frozen? ⟨β, 1, none⟩ = false := frozen_block b1; clear hb2 b1 b3 b4)
    | fail)
  obtain ⟨W, hW⟩ : ∃ W, W = (w2.setCell ⟨β, 0, none⟩ (.int .i64 i)).setCell ⟨β, 1, none⟩ (.int .i64 d) := ⟨_, rfl⟩
  have W3 : W.heap[β]? = some (.cells #[.int .i64 i, .int .i64 d] 197 (0, 0)) := by
    rw [hW]; exact heap_setCell_same _ β 1 _ _ _ (heap_setCell_same _ β 0 _ _ _ B1.out)
  have hsW : sameBut w2 W (fun k => k = β) := by rw [hW]; exact (sameBut_set (S := fun k => k = β) rfl).trans (sameBut_set (S := fun k => k = β) rfl)
  have hloβ : lo ≤ β := HBT.out ▸ HLS.out
  have HW : Hid (isSrv lo n W b bm t' E' M) := isSrv_other B3.out hsW fun k _ hk => by
    obtain rfl := hk
    exact ⟨hloβ, _, _, _, B1.out, by decide, by decide, by decide⟩
  rw [← hW]
  have HSW : Hid (sameBut w W (touchS lo w bm)) := sameBut.comp B4.out hsW fun k hk e => by
    have := HBT.out; omega
  have Y : ∃ v1, W.heap[b]? = some (.cells #[.string ⟨t'.toArray⟩, v1, .map (some bm)] 195 (0, 0)) := by
    obtain ⟨_, _, ⟨v1, e3, _⟩, _⟩ := HW.out; exact ⟨v1, e3⟩
  obtain ⟨v3, hY⟩ := Y
  have y2 : W.cell? ⟨b, 2, none⟩ = some (.map (some bm)) := Lib.cell_of_heap hY 2
  have z0 : W.cell? ⟨β, 0, none⟩ = some (.int .i64 i) := Lib.cell_of_heap W3 0
  have z1 : W.cell? ⟨β, 1, none⟩ = some (.int .i64 d) := Lib.cell_of_heap W3 1
  have hLd : isLast n W.drew bm M := HW.out.2.2.2
  obtain ⟨w5, hput, hl5, ht5⟩ := isLast_put hLd (by omega) (t := 193) Tryz.underlying193 HC.out i d
  have hs5 : sameBut W w5 (fun k => k = bm) := have h : sameBut W.drew w5 (fun k => k = bm) := turned_same (w := W.drew) ht5 rfl; ⟨h.1, h.2, h.os, h.tape, h.output⟩
  have hβm : β ≠ bm := fun e => noCells_map HW.out.2.2.2 _ _ _ (e ▸ W3)
  have W5 : w5.heap[β]? = some (.cells #[.int .i64 i, .int .i64 d] 197 (0, 0)) := (hs5.2 β (Array.getElem?_eq_some_iff.1 W3).1 hβm).trans W3
  have u1 : w5.cell? ⟨β, 1, none⟩ = some (.int .i64 d) := Lib.cell_of_heap W5 1
  have FIN : Hid (isSrv lo (n + 1) w5 b bm t' E' (upd M c (i, d)) ∧ sameBut w w5 (touchS lo w bm)) := by
    obtain ⟨e1, e2, ⟨v4, e3, e4⟩, e5⟩ := HW.out
    refine ⟨⟨e1, e2, ⟨v4, (hs5.2 b (Array.getElem?_eq_some_iff.1 e3).1 fun e => noCells_map e5 _ _ _ (e ▸ e3)).trans e3, isLog_but e4 hs5 fun k hk => ?_⟩, hl5⟩, sameBut.comp HSW.out hs5 fun k _ hk => by obtain rfl := hk; exact ⟨e2, .inl rfl⟩⟩
    obtain rfl := hk
    exact ⟨e2, fun cs fz => noCells_map e5 _ _ _, fun cs fz => noCells_map e5 _ _ _⟩
  have HPUT : Hid _ := hput
  clear hW W3 hsW hLd hput hl5 ht5 hs5 W5 hY x0 x1 f0 f1 b2
  by_cases hz : d = 0
  · subst hz
    rw [show errV 0 = .nilIface from rfl] at *
    go_region_with (first | (rw [HPUT.out]) | fail)
    all_goals
      go_wp2
      go_ret
      exact ⟨rfl, FIN.out⟩
  · have hz2 : (d == 0) = false := by simpa using hz
    go_region_with (first | (rw [HPUT.out]) | fail)
    all_goals
      go_wp2
      go_ret
      refine ⟨?_, FIN.out⟩
      first | rfl | (rw [errV_ne hz]; rfl)
end Go.Proofs.YtfedgjnhanlmeabGreatDoor

namespace Go.Proofs.YtfedgjnhanlmeabGreatDoor
open Go.RowKit Go.Maps
set_option linter.unusedVariables false
attribute [local go_sem] Oper.semAt_some

set_option maxRecDepth 100000 in
theorem srvLog_bad {lo n : Nat} {w : World} {b bm : Nat} {t : List UInt8} {E : List SE} {M : Told} (h : isSrv lo n w b bm t E M) (k : Int) (hk : k < 0 ∨ (E.length : Int) < k) :
    Calls Tryz.prog 43 #[.pointer (some ⟨b, 0, none⟩), .int .i64 k] w fun e w' => e = .returned (.tuple #[.slice none 0 0, errV 2]) ∧ Below w.heap.size w w' := by
  have C : Hid _ := srvRev_any lo n w b bm t E M h
  rw [show errV 2 = .iface 26 (.int .i64 2) from rfl]
  by_cases h0 : k < 0
  · clear h hk
    go_enter Tryz.func43, Tryz.ntmps43
    go_wp2
    go_ret2
    exact ⟨rfl, Below.refl _ _⟩
  · have h1 : (E.length : Int) < k := by omega
    clear h hk
    go_enter Tryz.func43, Tryz.ntmps43
    go_wp2_with (first | (go_at_call 40; refine Calls.mono C.out ?_; rintro e w1 ⟨hw, rfl⟩; obtain rfl := hw.symm) | fail)
    go_ret2
    exact ⟨rfl, Below.refl _ _⟩

set_option maxRecDepth 100000 in
set_option maxHeartbeats 2000000 in
theorem srvLog_ok {lo n : Nat} {w : World} {b bm : Nat} {t : List UInt8} {E : List SE} {M : Told} (h : isSrv lo n w b bm t E M) {l0 : Int} (hok : okS l0 t E) (k : Nat) (hk : k ≤ E.length) (hn : E.length ≤ 1000) :
    Calls Tryz.prog 43 #[.pointer (some ⟨b, 0, none⟩), .int .i64 (k : Int)] w fun e w' => ∃ v', e = .returned (.tuple #[v', .nilIface]) ∧ isLog 105 lo w.heap.size w' v' (E.drop k) ∧ Below w.heap.size w w' := by
  have CR : Hid _ := srvRev_any lo n w b bm t E M h
  have CD : Hid _ := srvDone_any lo n w b bm t E M h
  obtain ⟨hlo, _, ⟨v1, h3, h4⟩, _⟩ := h
  obtain ⟨p, c1, rfl⟩ := isLog_shape h4
  have x1 : w.cell? ⟨b, 1, none⟩ = some (.slice p E.length c1) := Lib.cell_of_heap h3 1
  have HX1 : Hid (w.cell? ⟨b, 1, none⟩ = some (.slice p E.length c1)) := x1
  have HE : Hid (logAt lo w (if c1 = k then p else Option.map (fun x => x.add (k * 3)) p) (E.length - k) (c1 - k) (E.drop k)) := logAt_cut (logAt_of h4) hk
  have HLO : Hid (lo ≤ w.heap.size) := Nat.le_of_lt (Nat.lt_of_le_of_lt hlo (Array.getElem?_eq_some_iff.1 h3).1)
  have hc1 := (logAt_of h4).2.1
  have HOK : Hid (∀ x ∈ E.drop k, (∀ q ∈ x.op, q.put.length ≤ 10000000) ∧ x.op.length ≤ 10000000) := fun x hx => by
    obtain ⟨j, hj, rfl⟩ := List.getElem_of_mem (List.mem_of_mem_drop hx)
    obtain ⟨t1, t2, t3, t4, t5⟩ := chain_at E l0 j hj hok.chain hok.top
    have hb1 : endE l0 (E.take j) + putsP E[j].op < 1000000 := by omega
    exact ⟨fun q hq => by have := put_le_putsS q _ hq; omega, Nat.le_of_lt (t2.fine hb1).len⟩
  have hdl : (E.drop k).length = E.length - k := List.length_drop
  generalize hF : E.drop k = F at *
  have h0 : ¬ (k : Int) < 0 := by omega
  have h1 : ¬ (E.length : Int) < (k : Int) := by omega
  have h2 : (k : Int) ≤ (E.length : Int) := by omega
  have HN : Hid (E.length - k = F.length) := hdl.symm
  have HNN : Hid (F.length ≤ 1000) := by rw [hdl]; exact Nat.le_trans (Nat.sub_le _ _) hn
  obtain ⟨i0, hi, hq0, hq1, hq2⟩ := info_parts info_sentry
  have HI : Hid _ := hi
  have HQ0 : Hid _ := hq0
  have HQ1 : Hid _ := hq1
  have HQ2 : Hid _ := hq2
  clear hi hq0 hq1 hq2
  clear h3 h4 hok hdl hlo x1
  have hFL := HN.out
  have hni : (F.length : Int) ≤ 1000 := by have := HNN.out; omega
  by_cases hck : c1 = k
  · rw [if_pos hck, hck, Nat.sub_self, hFL] at HE
    rw [hck] at HX1
    go_enter Tryz.func43, Tryz.ntmps43
    go_wp2_with (first
      | (go_at_call 40; refine Calls.mono CR.out ?_; rintro e w1 ⟨hw, rfl⟩; obtain rfl := hw.symm)
      | (go_at_call 113; refine Calls.mono CD.out ?_; rintro e w1 ⟨hw, v1', rfl, hcc, _⟩; obtain rfl := hw.symm; rw [HX1.out] at hcc; obtain rfl := (Option.some.inj hcc).symm; clear hcc)
      | fail)
    all_goals
      go_loopw [6, 23] (fun v6 i wr => ∃ j : Nat, i = .int .i64 j ∧ j ≤ F.length ∧ isLog 105 lo w.heap.size wr v6 (F.take j) ∧ Below w.heap.size w wr) (fun _ i _ => F.length - (intOf i).toNat)
      case atStart => exact ⟨0, rfl, Nat.zero_le _, isLog_nil _ _ _ _, Below.refl _ _⟩
      case round =>
        obtain ⟨j, rfl, hj, hown, hbw⟩ := hrel
        obtain ⟨p6, c6, rfl⟩ := isLog_shape hown
        have hjl : (F.take j).length = j := by rw [List.length_take]; omega
        rw [hjl]
        have HOW : Hid (isLog 105 lo w.heap.size wr (.slice p6 j c6) (F.take j)) := by
          have := hown; rw [hjl] at this; exact this
        have HBW : Hid (Below w.heap.size w wr) := hbw
        have hws := hbw.size
        have HWS : Hid (w.heap.size ≤ wr.heap.size) := hws
        have HJL : Hid ((F.take j).length = j) := hjl
        have hjle := hown
        by_cases hlt : j < F.length
        · have hne : F ≠ [] := by intro e; rw [e] at hlt; exact absurd hlt (Nat.not_lt_zero _)
          have hcell0 := HE.out.2.2.2
          obtain ⟨g, o, ePP, hg, hcell⟩ := hcell0 hne
          clear hcell0
          subst ePP
          obtain ⟨ve, f0, f1, f2, f3⟩ := hcell j F[j] (List.getElem?_eq_getElem hlt)
          have g0 := (HBW.out.cell (p := ⟨g, o + j * 3, none⟩) hg).trans f0
          have g1 := (HBW.out.cell (p := ⟨g, o + j * 3 + 1, none⟩) hg).trans f1
          have g2 := (HBW.out.cell (p := ⟨g, o + j * 3 + 2, none⟩) hg).trans f2
          have HX : Hid (opAt wr ve F[j].op) := opAt_below f3.1 HBW.out (Nat.le_refl _)
          have HTK : Hid (F.take (j + 1) = F.take j ++ [F[j]]) := List.take_succ_eq_append_getElem hlt
          have HPL : Hid _ := HOK.out F[j] (List.getElem_mem hlt)
          have hki : (j : Int) < (F.length : Int) := by omega
          have hsh : ∃ p c, ve = .slice p F[j].op.length c := by obtain ⟨p, c, e, _⟩ := HX.out; exact ⟨p, c, e⟩
          obtain ⟨pe, ce, rfl⟩ := hsh
          clear hcell f0 f1 f2 f3 hne hown hbw hjle
          generalize F[j] = x at *
          obtain ⟨xc, xi, xo⟩ := x
          simp only at g0 g1 g2 HX HPL
          obtain ⟨xn, hxn⟩ : ∃ m, xo.length = m := ⟨_, rfl⟩
          rw [hxn] at g2 HX
          have HXN : Hid (xo.length = xn) := hxn
          have CO : Hid (∀ wx, Below wr.heap.size wr wx → Calls Tryz.prog 114 #[.slice pe xn ce] wx fun e w' => ∃ p' c', e = .returned (.slice p' xn c') ∧ opX lo w' (.slice p' xn c') xo ∧ Below wx.heap.size wx w') := fun wx hb =>
            (own_any _ xo wx (opAt_below HX.out hb (Nat.le_refl _)) HPL.out.1 HPL.out.2).mono fun e w' ⟨v', e1, ho, hb'⟩ => by
              obtain ⟨p', c', rfl⟩ := own_slice ho
              rw [HXN.out] at e1 ho
              exact ⟨p', c', e1, opX_own (by rw [HXN.out]; exact ho), hb'⟩
          obtain ⟨β, hβ⟩ : ∃ β, wr.heap.size = β := ⟨_, rfl⟩
          have HBT : Hid (wr.heap.size = β) := hβ
          clear hxn hjl hFL hck HN HOK
          go_wp2_with (first
            | (go_at_call 114; refine (CO.out _ ((Below.refl _ _).alloc (Nat.le_refl _) _)).mono ?_; rintro e w2 ⟨p', c', rfl, hx2, hb2⟩
               have hbox : w2.heap[β]? = some (.cells #[.int .i64 xc, .int .i64 xi, .slice pe xn ce] 105 (0, 0)) := (hb2.block β (by rw [World.size_alloc, HBT.out]; omega)).trans (by have := heap_alloc_new wr (.cells #[.int .i64 xc, .int .i64 xi, .slice pe xn ce] 105); rwa [HBT.out] at this)
               have y0 : w2.cell? ⟨β, 0, none⟩ = some (.int .i64 xc) := Lib.cell_of_heap hbox 0
               have y1 : w2.cell? ⟨β, 1, none⟩ = some (.int .i64 xi) := Lib.cell_of_heap hbox 1
               have y2 : w2.cell? ⟨β, 2, none⟩ = some (.slice pe xn ce) := Lib.cell_of_heap hbox 2
               have xf : w2.frozen? ⟨β, 2, none⟩ = false := frozen_block hbox
               have HB2 : Hid (Below w.heap.size w w2) := (HBW.out.alloc HWS.out _).trans (hb2.mono (by rw [World.size_alloc]; have := HWS.out; omega))
               have hs2 : β + 1 ≤ w2.heap.size := by have := hb2.size; rw [World.size_alloc, HBT.out] at this; exact this
               have HS2 : Hid (β + 1 ≤ w2.heap.size) := hs2
               have HLW : Hid (lo ≤ β) := by have := HLO.out; have := HWS.out; have := HBT.out; show lo ≤ β; omega
               have hlg2 : isLog 105 lo w.heap.size w2 (.slice p6 j c6) (F.take j) := isLog_below (isLog_below HOW.out ((Below.refl _ _).alloc (Nat.le_refl _) _)) hb2
               have hnp : noPart w2 β := noPart_of hbox (by decide)
               have hset : sameBut w2 (w2.setCell ⟨β, 2, none⟩ (.slice p' xn c')) (fun k => k = β) := sameBut_set rfl
               have hlg3 : ∃ vs, vs.length = (F.take j).length ∧ ((w2.setCell ⟨β, 2, none⟩ (.slice p' xn c')).alloc (.cells #[.int .i64 xc, .int .i64 xi, .slice p' xn c'] 105)).ownsRow w.heap.size 105 3 (.slice p6 j c6) j (logC (F.take j) vs) ∧ ∀ w6 v2, w6.ownsRow w.heap.size 105 3 v2 (j + 1) (logC (F.take j) vs ++ [.int .i64 xc, .int .i64 xi, .slice p' xn c']) → ((w2.setCell ⟨β, 2, none⟩ (.slice p' xn c')).alloc (.cells #[.int .i64 xc, .int .i64 xi, .slice p' xn c'] 105)).grownBy w6 (Value.slice p6 j c6).ownBlock → isLog 105 lo w.heap.size w6 v2 (F.take j ++ [⟨xc, xi, xo⟩]) := by
                 obtain ⟨vs, q1, q2, q3⟩ := hlg2
                 have hbw3 : Below (w2.setCell ⟨β, 2, none⟩ (.slice p' xn c')).heap.size (w2.setCell ⟨β, 2, none⟩ (.slice p' xn c')) ((w2.setCell ⟨β, 2, none⟩ (.slice p' xn c')).alloc (.cells #[.int .i64 xc, .int .i64 xi, .slice p' xn c'] 105)) := (Below.refl _ _).alloc (Nat.le_refl _) _
                 have hmv : ∀ {v q}, opX lo w2 v q → opX lo ((w2.setCell ⟨β, 2, none⟩ (.slice p' xn c')).alloc (.cells #[.int .i64 xc, .int .i64 xi, .slice p' xn c'] 105)) v q := fun hx => opX_grown (opX_but hx hset fun k hk => by obtain rfl := hk; exact ⟨HLW.out, hnp⟩) hbw3
                 have hnb : ∀ k, (Value.slice p6 j c6).ownBlock = some k → k < β := fun k hk => by
                   have := (log_own HOW.out hk).2.1
                   have := HBT.out; omega
                 have q2' := own_below (own_setS q2 hnb (.slice p' xn c')) hbw3
                 rw [HJL.out] at q2'
                 refine ⟨vs, q1, q2', fun w6 v2 hn6 hg6 => ?_⟩
                 refine isLog_snoc (x := ⟨xc, xi, xo⟩) (by decide) HLO.out q1 (by rw [HJL.out]; exact q2') (fun i y v hy hv => hmv (q3 i y v hy hv)) (hmv hx2) hg6 ?_
                 rw [HJL.out]; exact hn6
               obtain ⟨vs, m1, m2, m3⟩ := hlg3
               have M2 : Hid _ := m2
               have M3 : Hid _ := m3
               clear hb2 hbox hlg2 hnp hset m2 m3 hx2)
            | (at_builtin; refine wpList_append_own _ rfl _ _ 87 rfl w.heap.size 105 i0 (.agg #[.int .i64 0, .int .i64 0, .slice none 0 0]) 3 40 Tryz.underlying87 HI.out HQ0.out HQ1.out HQ2.out rfl (by decide) _ _ _ rfl M2.out ⟨w2.heap.size, 0, none⟩ 1 1 [.int .i64 xc, .int .i64 xi, .slice p' xn c'] rfl rfl (cells_newS _ _ (by first | rfl | simp) _ _) (entry_one _ _ _ _ _) (by have := HNN.out; unfold maxLen; omega) (by have := HNN.out; omega) (by have := HB2.out.size; simp; omega) ?_)
            | fail)
          all_goals
            intro v2 w6 hown' hg' _
            obtain ⟨p7, c7, rfl⟩ := own_slice hown'
            have HO3 : Hid (isLog 105 lo w.heap.size w6 (.slice p7 (j + 1) c7) (F.take (j + 1))) := by
              rw [HTK.out]; exact M3.out w6 _ hown' hg'
            have HB3 : Hid (Below w.heap.size w w6) := ((HB2.out.setCell (p := ⟨β, 2, none⟩) (by show w.heap.size ≤ β; have := HWS.out; have := HBT.out; omega) _).alloc (by rw [World.size_setCell]; exact HB2.out.size) _).grown hg' (by simp; have := HB2.out.size; omega) fun k hk => (log_own HOW.out hk).1
            clear hown' hg' y0 y1 y2 xf g0 g1 g2
            go_wp2
            exact ⟨⟨j + 1, by go_num, by omega, HO3.out, HB3.out⟩, by simp [intOf]; omega⟩
        · obtain rfl : j = F.length := by omega
          have hki : ¬ ((F.length : Int) < (F.length : Int)) := by omega
          have HTK : Hid (F.take F.length = F) := List.take_length
          clear hown hbw hjle
          go_wp2
          go_ret2
          have := HOW.out
          rw [HTK.out] at this
          exact ⟨_, rfl, this, HBW.out⟩
  · rw [if_neg hck, hFL] at HE
    go_enter Tryz.func43, Tryz.ntmps43
    go_wp2_with (first
      | (go_at_call 40; refine Calls.mono CR.out ?_; rintro e w1 ⟨hw, rfl⟩; obtain rfl := hw.symm)
      | (go_at_call 113; refine Calls.mono CD.out ?_; rintro e w1 ⟨hw, v1', rfl, hcc, _⟩; obtain rfl := hw.symm; rw [HX1.out] at hcc; obtain rfl := (Option.some.inj hcc).symm; clear hcc)
      | fail)
    all_goals
      generalize Option.map (fun x => x.add (k * 3)) p = P at *
      go_loopw [6, 23] (fun v6 i wr => ∃ j : Nat, i = .int .i64 j ∧ j ≤ F.length ∧ isLog 105 lo w.heap.size wr v6 (F.take j) ∧ Below w.heap.size w wr) (fun _ i _ => F.length - (intOf i).toNat)
      case atStart => exact ⟨0, rfl, Nat.zero_le _, isLog_nil _ _ _ _, Below.refl _ _⟩
      case round =>
        obtain ⟨j, rfl, hj, hown, hbw⟩ := hrel
        obtain ⟨p6, c6, rfl⟩ := isLog_shape hown
        have hjl : (F.take j).length = j := by rw [List.length_take]; omega
        rw [hjl]
        have HOW : Hid (isLog 105 lo w.heap.size wr (.slice p6 j c6) (F.take j)) := by
          have := hown; rw [hjl] at this; exact this
        have HBW : Hid (Below w.heap.size w wr) := hbw
        have hws := hbw.size
        have HWS : Hid (w.heap.size ≤ wr.heap.size) := hws
        have HJL : Hid ((F.take j).length = j) := hjl
        have hjle := hown
        by_cases hlt : j < F.length
        · have hne : F ≠ [] := by intro e; rw [e] at hlt; exact absurd hlt (Nat.not_lt_zero _)
          have hcell0 := HE.out.2.2.2
          obtain ⟨g, o, ePP, hg, hcell⟩ := hcell0 hne
          clear hcell0
          subst ePP
          obtain ⟨ve, f0, f1, f2, f3⟩ := hcell j F[j] (List.getElem?_eq_getElem hlt)
          have g0 := (HBW.out.cell (p := ⟨g, o + j * 3, none⟩) hg).trans f0
          have g1 := (HBW.out.cell (p := ⟨g, o + j * 3 + 1, none⟩) hg).trans f1
          have g2 := (HBW.out.cell (p := ⟨g, o + j * 3 + 2, none⟩) hg).trans f2
          have HX : Hid (opAt wr ve F[j].op) := opAt_below f3.1 HBW.out (Nat.le_refl _)
          have HTK : Hid (F.take (j + 1) = F.take j ++ [F[j]]) := List.take_succ_eq_append_getElem hlt
          have HPL : Hid _ := HOK.out F[j] (List.getElem_mem hlt)
          have hki : (j : Int) < (F.length : Int) := by omega
          have hsh : ∃ p c, ve = .slice p F[j].op.length c := by obtain ⟨p, c, e, _⟩ := HX.out; exact ⟨p, c, e⟩
          obtain ⟨pe, ce, rfl⟩ := hsh
          clear hcell f0 f1 f2 f3 hne hown hbw hjle
          generalize F[j] = x at *
          obtain ⟨xc, xi, xo⟩ := x
          simp only at g0 g1 g2 HX HPL
          obtain ⟨xn, hxn⟩ : ∃ m, xo.length = m := ⟨_, rfl⟩
          rw [hxn] at g2 HX
          have HXN : Hid (xo.length = xn) := hxn
          have CO : Hid (∀ wx, Below wr.heap.size wr wx → Calls Tryz.prog 114 #[.slice pe xn ce] wx fun e w' => ∃ p' c', e = .returned (.slice p' xn c') ∧ opX lo w' (.slice p' xn c') xo ∧ Below wx.heap.size wx w') := fun wx hb =>
            (own_any _ xo wx (opAt_below HX.out hb (Nat.le_refl _)) HPL.out.1 HPL.out.2).mono fun e w' ⟨v', e1, ho, hb'⟩ => by
              obtain ⟨p', c', rfl⟩ := own_slice ho
              rw [HXN.out] at e1 ho
              exact ⟨p', c', e1, opX_own (by rw [HXN.out]; exact ho), hb'⟩
          obtain ⟨β, hβ⟩ : ∃ β, wr.heap.size = β := ⟨_, rfl⟩
          have HBT : Hid (wr.heap.size = β) := hβ
          clear hxn hjl hFL hck HN HOK
          go_wp2_with (first
            | (go_at_call 114; refine (CO.out _ ((Below.refl _ _).alloc (Nat.le_refl _) _)).mono ?_; rintro e w2 ⟨p', c', rfl, hx2, hb2⟩
               have hbox : w2.heap[β]? = some (.cells #[.int .i64 xc, .int .i64 xi, .slice pe xn ce] 105 (0, 0)) := (hb2.block β (by rw [World.size_alloc, HBT.out]; omega)).trans (by have := heap_alloc_new wr (.cells #[.int .i64 xc, .int .i64 xi, .slice pe xn ce] 105); rwa [HBT.out] at this)
               have y0 : w2.cell? ⟨β, 0, none⟩ = some (.int .i64 xc) := Lib.cell_of_heap hbox 0
               have y1 : w2.cell? ⟨β, 1, none⟩ = some (.int .i64 xi) := Lib.cell_of_heap hbox 1
               have y2 : w2.cell? ⟨β, 2, none⟩ = some (.slice pe xn ce) := Lib.cell_of_heap hbox 2
               have xf : w2.frozen? ⟨β, 2, none⟩ = false := frozen_block hbox
               have HB2 : Hid (Below w.heap.size w w2) := (HBW.out.alloc HWS.out _).trans (hb2.mono (by rw [World.size_alloc]; have := HWS.out; omega))
               have hs2 : β + 1 ≤ w2.heap.size := by have := hb2.size; rw [World.size_alloc, HBT.out] at this; exact this
               have HS2 : Hid (β + 1 ≤ w2.heap.size) := hs2
               have HLW : Hid (lo ≤ β) := by have := HLO.out; have := HWS.out; have := HBT.out; show lo ≤ β; omega
               have hlg2 : isLog 105 lo w.heap.size w2 (.slice p6 j c6) (F.take j) := isLog_below (isLog_below HOW.out ((Below.refl _ _).alloc (Nat.le_refl _) _)) hb2
               have hnp : noPart w2 β := noPart_of hbox (by decide)
               have hset : sameBut w2 (w2.setCell ⟨β, 2, none⟩ (.slice p' xn c')) (fun k => k = β) := sameBut_set rfl
               have hlg3 : ∃ vs, vs.length = (F.take j).length ∧ ((w2.setCell ⟨β, 2, none⟩ (.slice p' xn c')).alloc (.cells #[.int .i64 xc, .int .i64 xi, .slice p' xn c'] 105)).ownsRow w.heap.size 105 3 (.slice p6 j c6) j (logC (F.take j) vs) ∧ ∀ w6 v2, w6.ownsRow w.heap.size 105 3 v2 (j + 1) (logC (F.take j) vs ++ [.int .i64 xc, .int .i64 xi, .slice p' xn c']) → ((w2.setCell ⟨β, 2, none⟩ (.slice p' xn c')).alloc (.cells #[.int .i64 xc, .int .i64 xi, .slice p' xn c'] 105)).grownBy w6 (Value.slice p6 j c6).ownBlock → isLog 105 lo w.heap.size w6 v2 (F.take j ++ [⟨xc, xi, xo⟩]) := by
                 obtain ⟨vs, q1, q2, q3⟩ := hlg2
                 have hbw3 : Below (w2.setCell ⟨β, 2, none⟩ (.slice p' xn c')).heap.size (w2.setCell ⟨β, 2, none⟩ (.slice p' xn c')) ((w2.setCell ⟨β, 2, none⟩ (.slice p' xn c')).alloc (.cells #[.int .i64 xc, .int .i64 xi, .slice p' xn c'] 105)) := (Below.refl _ _).alloc (Nat.le_refl _) _
                 have hmv : ∀ {v q}, opX lo w2 v q → opX lo ((w2.setCell ⟨β, 2, none⟩ (.slice p' xn c')).alloc (.cells #[.int .i64 xc, .int .i64 xi, .slice p' xn c'] 105)) v q := fun hx => opX_grown (opX_but hx hset fun k hk => by obtain rfl := hk; exact ⟨HLW.out, hnp⟩) hbw3
                 have hnb : ∀ k, (Value.slice p6 j c6).ownBlock = some k → k < β := fun k hk => by
                   have := (log_own HOW.out hk).2.1
                   have := HBT.out; omega
                 have q2' := own_below (own_setS q2 hnb (.slice p' xn c')) hbw3
                 rw [HJL.out] at q2'
                 refine ⟨vs, q1, q2', fun w6 v2 hn6 hg6 => ?_⟩
                 refine isLog_snoc (x := ⟨xc, xi, xo⟩) (by decide) HLO.out q1 (by rw [HJL.out]; exact q2') (fun i y v hy hv => hmv (q3 i y v hy hv)) (hmv hx2) hg6 ?_
                 rw [HJL.out]; exact hn6
               obtain ⟨vs, m1, m2, m3⟩ := hlg3
               have M2 : Hid _ := m2
               have M3 : Hid _ := m3
               clear hb2 hbox hlg2 hnp hset m2 m3 hx2)
            | (at_builtin; refine wpList_append_own _ rfl _ _ 87 rfl w.heap.size 105 i0 (.agg #[.int .i64 0, .int .i64 0, .slice none 0 0]) 3 40 Tryz.underlying87 HI.out HQ0.out HQ1.out HQ2.out rfl (by decide) _ _ _ rfl M2.out ⟨w2.heap.size, 0, none⟩ 1 1 [.int .i64 xc, .int .i64 xi, .slice p' xn c'] rfl rfl (cells_newS _ _ (by first | rfl | simp) _ _) (entry_one _ _ _ _ _) (by have := HNN.out; unfold maxLen; omega) (by have := HNN.out; omega) (by have := HB2.out.size; simp; omega) ?_)
            | fail)
          all_goals
            intro v2 w6 hown' hg' _
            obtain ⟨p7, c7, rfl⟩ := own_slice hown'
            have HO3 : Hid (isLog 105 lo w.heap.size w6 (.slice p7 (j + 1) c7) (F.take (j + 1))) := by
              rw [HTK.out]; exact M3.out w6 _ hown' hg'
            have HB3 : Hid (Below w.heap.size w w6) := ((HB2.out.setCell (p := ⟨β, 2, none⟩) (by show w.heap.size ≤ β; have := HWS.out; have := HBT.out; omega) _).alloc (by rw [World.size_setCell]; exact HB2.out.size) _).grown hg' (by simp; have := HB2.out.size; omega) fun k hk => (log_own HOW.out hk).1
            clear hown' hg' y0 y1 y2 xf g0 g1 g2
            go_wp2
            exact ⟨⟨j + 1, by go_num, by omega, HO3.out, HB3.out⟩, by simp [intOf]; omega⟩
        · obtain rfl : j = F.length := by omega
          have hki : ¬ ((F.length : Int) < (F.length : Int)) := by omega
          have HTK : Hid (F.take F.length = F) := List.take_length
          clear hown hbw hjle
          go_wp2
          go_ret2
          have := HOW.out
          rw [HTK.out] at this
          exact ⟨_, rfl, this, HBW.out⟩
end Go.Proofs.YtfedgjnhanlmeabGreatDoor

namespace Go.Proofs.YtfedgjnhanlmeabGreatDoor
open Go.RowKit Go.Maps
set_option linter.unusedVariables false
attribute [local go_sem] Oper.semAt_some

theorem docs_at {lo : Nat} {w : World} {p : Option Addr} {n c : Nat} {D : List (List UInt8)} (h : w.ownsRow lo 9 1 (.slice p n c) D.length (docsC D)) {i : Nat} {d : List UInt8} (hd : D[i]? = some d) :
    ∃ g, p = some ⟨g, 0, none⟩ ∧ n = D.length ∧ n ≤ c ∧ c ≤ maxLen ∧ g < w.heap.size ∧ w.cell? ⟨g, i, none⟩ = some (.string ⟨d.toArray⟩) := by
  have hi : i < D.length := (List.getElem?_eq_some_iff.1 hd).1
  obtain ⟨h0, hrow⟩ := h
  rcases hrow with ⟨_, hz⟩ | ⟨g, cap, cur, hv, h4, h5, h6, h7, h8, h9⟩
  · omega
  · injection hv with hp hn hc
    subst hp hn hc
    refine ⟨g, rfl, rfl, h6, h7, (Array.getElem?_eq_some_iff.1 h5).1, ?_⟩
    have hcd : (docsC D)[i]? = some (.string ⟨d.toArray⟩) := by unfold docsC; rw [List.getElem?_map, hd]; rfl
    have hcur : cur[i]? = some (.string ⟨d.toArray⟩) := by
      rw [← Array.getElem?_toList]
      have := congrArg (·[i]?) h9
      simp only [List.getElem?_take, show i < D.length * 1 by omega, if_true] at this
      rw [this, hcd]
    unfold World.cell?
    simp [h5, hcur]
/-- The documents that there were. -/
structure okD (l0 : Int) (t : List UInt8) (E : List SE) (D : List (List UInt8)) : Prop where
  len : D.length = E.length + 1
  at_ : ∀ k, k ≤ E.length → ∃ d, D[k]? = some d ∧ (d.length : Int) = endE l0 (E.take k)
  last : D[E.length]? = some t

set_option maxRecDepth 100000 in
theorem refText_srv {lo n : Nat} {w : World} {b bm : Nat} {D : List (List UInt8)} {E : List SE} {M : Told} (h : isRef lo n w b bm D E M) {l0 : Int} {t : List UInt8} (hD : okD l0 t E D) (hn : E.length ≤ 1000) :
    Calls Tryz.prog 42 #[.pointer (some ⟨b, 0, none⟩)] w fun e w' => e = .returned (.string ⟨t.toArray⟩) ∧ Below w.heap.size w w' := by
  obtain ⟨_, _, ⟨v0, v1, h3, h30, h4⟩, _⟩ := h
  obtain ⟨p, c, rfl⟩ := own_slice h30
  obtain ⟨g, rfl, _, hc1, hc2, _, hcell⟩ := docs_at h30 hD.last
  have x0 : w.cell? ⟨b, 0, none⟩ = some (.slice (some ⟨g, 0, none⟩) D.length c) := Lib.cell_of_heap h3 0
  rw [hD.len] at x0
  have hni : (E.length : Int) ≤ 1000 := by omega
  generalize E.length = m at *
  clear h3 h30 h4 hD hc1 hc2
  go_enter Tryz.func42, Tryz.ntmps42
  go_wp2
  go_region
  all_goals
    go_wp2
    go_ret
    exact ⟨rfl, by first | exact (Below.refl _ _).drew | exact Below.refl _ _⟩
set_option maxRecDepth 100000 in
set_option maxHeartbeats 1000000 in
theorem refDoes_range {lo n : Nat} {w : World} {b bm : Nat} {D : List (List UInt8)} {E : List SE} {M : Told} (h : isRef lo n w b bm D E M) (c i rev : Int) (v : Value) (hr : rev < 0 ∨ (E.length : Int) < rev) :
    Calls Tryz.prog 112 #[.pointer (some ⟨b, 0, none⟩), .int .i64 c, .int .i64 i, .int .i64 rev, v] w fun e w' => e = .returned (.int .i64 2) ∧ Below w.heap.size w w' := by
  obtain ⟨_, _, ⟨v0, v1, h3, h30, h4⟩, _⟩ := h
  obtain ⟨p, c1, rfl⟩ := isLog_shape h4
  have x1 : w.cell? ⟨b, 1, none⟩ = some (.slice p E.length c1) := Lib.cell_of_heap h3 1
  have hin : inB rev 0 E.length = false := by unfold inB; simp; omega
  have CI : Hid (Calls Tryz.prog 83 #[.int .i64 rev, .int .i64 0, .int .i64 E.length] w fun e w' => e = .returned (.bool false) ∧ w' = w) := by
    have := in_any rev 0 E.length w; rw [hin] at this; exact this
  clear h3 h30 h4 hr hin
  go_enter Tryz.func112, Tryz.ntmps112
  go_wp2_with (first
    | (go_at_call 83; refine Calls.mono CI.out ?_; rintro e w1 ⟨rfl, hw⟩; obtain rfl := hw.symm)
    | fail)
  go_ret
  exact ⟨rfl, Below.refl _ _⟩
set_option maxRecDepth 100000 in
set_option maxHeartbeats 1000000 in
theorem refDoes_check {lo n : Nat} {w : World} {b bm : Nat} {D : List (List UInt8)} {E : List SE} {M : Told} (h : isRef lo n w b bm D E M) {l0 : Int} {t : List UInt8} (hk : okS l0 t E) (hD : okD l0 t E D) (c i : Int) (k : Nat) (v : Value) (ps : List Pt) (hr : opAt w v ps) (hwf : ∀ p ∈ ps, wfP p) (hsm : ∀ p ∈ ps, p.put.length ≤ 300) (hl : ps.length ≤ 100) (hkl : k ≤ E.length) (hn : E.length ≤ 100) (hc : chkE ps (endE l0 (E.take k)) ≠ 0) :
    Calls Tryz.prog 112 #[.pointer (some ⟨b, 0, none⟩), .int .i64 c, .int .i64 i, .int .i64 (k : Int), v] w fun e w' => e = .returned (.int .i64 (chkE ps (endE l0 (E.take k)))) ∧ Below w.heap.size w w' := by
  obtain ⟨_, _, ⟨v0, v1, h3, h30, h4⟩, _⟩ := h
  obtain ⟨p, c1, rfl⟩ := isLog_shape h4
  obtain ⟨p0, c0, rfl⟩ := own_slice h30
  obtain ⟨d, hd, hdl⟩ := hD.at_ k hkl
  obtain ⟨g, rfl, _, hc1, hc2, _, hcell⟩ := docs_at h30 hd
  have x0 : w.cell? ⟨b, 0, none⟩ = some (.slice (some ⟨g, 0, none⟩) D.length c0) := Lib.cell_of_heap h3 0
  have x1 : w.cell? ⟨b, 1, none⟩ = some (.slice p E.length c1) := Lib.cell_of_heap h3 1
  rw [hD.len] at x0
  have hle := end_take_le E l0 k hk.chain hk.pos hk.top
  have hin : inB (k : Int) 0 E.length = true := by unfold inB; simp; omega
  have CI : Hid (Calls Tryz.prog 83 #[.int .i64 (k : Int), .int .i64 0, .int .i64 E.length] w fun e w' => e = .returned (.bool true) ∧ w' = w) := by
    have := in_any (k : Int) 0 E.length w; rw [hin] at this; exact this
  rw [← hdl] at hle hc ⊢
  have CC : Hid _ := refCheck_any v ps (d.length : Int) w hr hwf (fun q hq => by have := hsm q hq; omega) (by omega) (by omega)
  have hz : (ByteArray.mk d.toArray).size = d.length := by simp [ByteArray.size]
  have hk1 : ¬ (300 : Int) ≤ (E.length : Int) := by omega
  have hk2 : (k : Int) < (E.length : Int) + 1 := by omega
  have hni : (E.length : Int) ≤ 1000 := by omega
  have hx : (chkE ps (d.length : Int) != 0) = true := by simpa using hc
  obtain ⟨pv, cv, rfl, _⟩ := hr
  generalize chkE ps (d.length : Int) = X at *
  clear h3 h30 h4 hk hD hwf hle hc hin hc1 hc2 hdl hd
  go_enter Tryz.func112, Tryz.ntmps112
  go_wp2_with (first
    | (go_at_call 83; refine Calls.mono CI.out ?_; rintro e w1 ⟨rfl, hw⟩; obtain rfl := hw.symm)
    | (go_at_call 84; refine Calls.mono CC.out ?_; rintro e w2 ⟨rfl, hb2⟩; have HB2 : Hid (Below w.heap.size w w2) := hb2; clear hb2)
    | fail)
  go_ret
  exact ⟨rfl, HB2.out⟩
end Go.Proofs.YtfedgjnhanlmeabGreatDoor

namespace Go.Proofs.YtfedgjnhanlmeabGreatDoor
open Go.RowKit Go.Maps
set_option linter.unusedVariables false
attribute [local go_sem] Oper.semAt_some

theorem info_rentry : (Tryz.prog.info? 103).map (fun i => (i.zero, i.size, i.bytes)) = some (some (.agg #[.int .i64 0, .int .i64 0, .slice none 0 0]), 3, 40) := by kernel_rfl
theorem info_string : (Tryz.prog.info? 9).map (fun i => (i.zero, i.size, i.bytes)) = some (some (.string ⟨#[]⟩), 1, 16) := by kernel_rfl
theorem string_one (d : ByteArray) : ∀ u ∈ [Value.string d], u.oneCell' = true := fun u hu => by
  simp only [List.mem_cons, List.mem_nil_iff, or_false] at hu
  obtain rfl := hu; rfl
/-- All that its walk from the check on starts with. -/
structure RefStart (lo n : Nat) (w : World) (b bm : Nat) (t : List UInt8) (D : List (List UInt8)) (E : List SE) (k : Nat) (v : Value) (ps : List Pt) (g c0 : Nat) (p : Option Addr) (c1 : Nat) (d : List UInt8) : Prop where
  isIn : Calls Tryz.prog 83 #[.int .i64 (k : Int), .int .i64 0, .int .i64 E.length] w fun e w' => e = .returned (.bool true) ∧ w' = w
  check : Calls Tryz.prog 84 #[v, .int .i64 (d.length : Int)] w fun e w' => e = .returned (.int .i64 0) ∧ Below w.heap.size w w'
  x0 : w.cell? ⟨b, 0, none⟩ = some (.slice (some ⟨g, 0, none⟩) (E.length + 1) c0)
  x1 : w.cell? ⟨b, 1, none⟩ = some (.slice p E.length c1)
  xd : w.cell? ⟨g, k, none⟩ = some (.string ⟨d.toArray⟩)
  bl : b < w.heap.size
  gl : g < w.heap.size
  cut : logAt lo w (if c1 = k then p else Option.map (fun x => x.add (k * 3)) p) (E.length - k) (c1 - k) (E.drop k)
theorem turnS_ref {l0 : Int} {E : List SE} {ps : List Pt} {len : Int} {F : List SE} (hok : okOp ps len) (hpu : putsP ps ≤ 40000) (hl0 : 0 ≤ len) (hl : len ≤ 3000) (hch : chainE len F) (j : Nat) (hj : j < F.length) (v0 ve : Value) (w : World) (h1 : opAt w v0 (turnS ps (F.take j))) (h2 : opAt w ve F[j].op) :
    Calls Tryz.prog 123 #[v0, ve, .bool false] w fun e w' => ∃ v', e = .returned (.tuple #[v', .int .i64 0]) ∧ opN w.heap.size w' v' (turnS ps (F.take (j + 1))) ∧ Below w.heap.size w w' := by
  obtain ⟨t1, t2, t3, t4, t5⟩ := chain_at F len j hj hch hl
  obtain ⟨s1, s2⟩ := turnS_ok (F.take j) ps len hok hpu hl t1
  have b1 : endE len (F.take j) + putsP (turnS ps (F.take j)) < 1000000 := by omega
  have b2 : endE len (F.take j) + putsP F[j].op < 1000000 := by omega
  obtain ⟨e1, e2⟩ := s1.turn t2 b1 b2
  have f1 := s1.fine b1
  have f2 := t2.fine b2
  have hend := t5 hl0
  have := refTrans_allN v0 ve false (turnS ps (F.take j)) F[j].op w h1 h2 (s1.wf b1) (t2.wf b2) (fun q hq => by have := put_le_putsS q _ hq; omega) (fun q hq => by have := put_le_putsS q _ hq; omega) f1.len f2.len fun _ => ⟨f1, f2⟩
  rw [e2, if_pos rfl] at this
  rw [turnS_take ps F j hj]
  exact this

set_option maxRecDepth 100000 in
set_option maxHeartbeats 4000000 in
theorem refDoes_apply {lo n : Nat} {w : World} {b bm : Nat} {t : List UInt8} {D : List (List UInt8)} {E : List SE} {M : Told} {l0 : Int} (hk : okS l0 t E) (c i : Int) (k : Nat) (v : Value) (ps : List Pt) {g c0 : Nat} {p : Option Addr} {c1 : Nat} {d : List UInt8} (hr : opX lo w v ps) (hpu : putsP ps ≤ 40000) (hkl : k ≤ E.length) (hn : E.length ≤ 100) (hc1 : E.length ≤ c1) (hc0 : E.length + 1 ≤ c0) (hcm : c1 ≤ maxLen) (hc : chkE ps (endE l0 (E.take k)) = 0) (S : RefStart lo n w b bm t D E k v ps g c0 p c1 d) (CT : ∀ wx, Below w.heap.size w wx → Calls Tryz.prog 42 #[.pointer (some ⟨b, 0, none⟩)] wx fun e w' => e = .returned (.string ⟨t.toArray⟩) ∧ Below wx.heap.size wx w') (ho : ordE (turnS ps (E.drop k)) t ≠ 0) :
    Calls Tryz.prog 112 #[.pointer (some ⟨b, 0, none⟩), .int .i64 c, .int .i64 i, .int .i64 (k : Int), v] w fun e w' => e = .returned (.int .i64 (ordE (turnS ps (E.drop k)) t)) ∧ Below w.heap.size w w' := by
  obtain ⟨s1, s2, x0, x1, xd, hbl, hgl, hcut⟩ := S
  have CI : Hid _ := s1
  have CC : Hid _ := s2
  have CX : Hid _ := CT
  obtain ⟨q1, q2⟩ := do_turned hk hpu hc
  have hrm := hk.room
  have hb1 : (t.length : Int) + putsP (turnS ps (E.drop k)) < 1000000 := by omega
  have hlen := (q1.fine hb1).len
  have CA : Hid (∀ wx v', opAt wx v' (turnS ps (E.drop k)) → Calls Tryz.prog 31 #[v', .string ⟨t.toArray⟩] wx fun e w' => e = .returned (.tuple #[.string ⟨(if ordE (turnS ps (E.drop k)) t = 0 then applyP (turnS ps (E.drop k)) t else []).toArray⟩, .int .i64 (ordE (turnS ps (E.drop k)) t)]) ∧ Below wx.heap.size wx w') := fun wx v' ho =>
    refApply_any v' _ t wx ho (q1.wf hb1) (fun q hq => by have := put_le_putsS q _ hq; omega) (by omega) hlen (by omega)
  have hle := end_take_le E l0 k hk.chain hk.pos hk.top
  have hch := (chain_drop E l0 k hk.chain).1
  have HT : Hid (∀ (j : Nat) (hj : j < (E.drop k).length) (v0 ve : Value) (w : World), opAt w v0 (turnS ps ((E.drop k).take j)) → opAt w ve (E.drop k)[j].op → Calls Tryz.prog 123 #[v0, ve, .bool false] w fun e w' => ∃ v', e = .returned (.tuple #[v', .int .i64 0]) ∧ opN w.heap.size w' v' (turnS ps ((E.drop k).take (j + 1))) ∧ Below w.heap.size w w') := fun j hj v0 ve w h1 h2 => turnS_ref (l0 := l0) (E := E) (okOp_of_chk hc) hpu hle.1 hle.2 hch j hj v0 ve w h1 h2
  have hz : (ByteArray.mk d.toArray).size = d.length := by simp [ByteArray.size]
  have hk1 : ¬ (300 : Int) ≤ (E.length : Int) := by omega
  have hk2 : (k : Int) < (E.length : Int) + 1 := by omega
  have hk3 : (k : Int) ≤ (E.length : Int) := by omega
  have hni : (E.length : Int) ≤ 1000 := by omega
  have HR : Hid _ := hr
  have HB : Hid (b < w.heap.size) := hbl
  have hx : (ordE (turnS ps (E.drop k)) t != 0) = true := by simpa using ho
  have en : (ByteArray.mk [].toArray) = ⟨#[]⟩ := rfl
  rw [if_neg ho, en] at CA
  clear ho en
  have hsh : ∃ p c, v = .slice p ps.length c := by obtain ⟨⟨p, c, e, _⟩, _⟩ := hr; exact ⟨p, c, e⟩
  obtain ⟨pv, cv, rfl⟩ := hsh
  have hdl : (E.drop k).length = E.length - k := List.length_drop
  have HOK0 : Hid (turnS ps ((E.drop k).take 0) = ps) := rfl
  generalize hF : E.drop k = F at *
  generalize ordE (turnS ps F) t = X at *
  have HN : Hid (E.length - k = F.length) := hdl.symm
  have hnf : (F.length : Int) ≤ 1000 := by omega
  have HE : Hid _ := hcut
  rw [← hdl] at HE
  have hFL := HN.out
  clear s1 s2 hr hpu hbl hgl hcut q1 q2 hrm hb1 hlen hle hch hdl hc0 hcm hk CT hc
  by_cases hck : c1 = k
  · rw [if_pos hck, hck, Nat.sub_self] at HE
    rw [hck] at x1
    have hck' : True := trivial
    clear hc1
    go_enter Tryz.func112, Tryz.ntmps112
    go_wp2_with (first
      | (go_at_call 83; refine Calls.mono CI.out ?_; rintro e w1 ⟨rfl, hw⟩; obtain rfl := hw.symm)
      | (go_at_call 84; refine Calls.mono CC.out ?_; rintro e w2 ⟨rfl, hb2⟩; have HB2 : Hid (Below w.heap.size w w2) := hb2; have y1 : w2.cell? ⟨b, 1, none⟩ = some (.slice p E.length k) := (hb2.cell (p := ⟨b, 1, none⟩) HB.out).trans x1; clear hb2)
      | fail)
    all_goals
      go_loopw [4, 50] (fun v4 i wr => ∃ j : Nat, i = .int .i64 j ∧ j ≤ F.length ∧ opX lo wr v4 (turnS ps (F.take j)) ∧ Below w.heap.size w wr) (fun _ i _ => F.length - (intOf i).toNat)
      case atStart => exact ⟨0, rfl, Nat.zero_le _, opX_grown HR.out HB2.out, HB2.out⟩
      case round =>
        obtain ⟨j, rfl, hj, hop', hbw⟩ := hrel
        obtain ⟨L0, hL0⟩ : ∃ L, (turnS ps (F.take j)).length = L := ⟨_, rfl⟩
        have hop := hop'
        obtain ⟨⟨p4, c4, rfl, _⟩, _⟩ := hop'
        have HOP : Hid (opX lo wr (.slice p4 (turnS ps (F.take j)).length c4) (turnS ps (F.take j))) := hop
        have HBW : Hid (Below w.heap.size w wr) := hbw
        rw [hL0]
        by_cases hlt : j < F.length
        · have hne : F ≠ [] := by intro e; rw [e] at hlt; exact absurd hlt (Nat.not_lt_zero _)
          have hcell0 := HE.out.2.2.2
          obtain ⟨g', o, ePP, hg, hcell⟩ := hcell0 hne
          clear hcell0
          subst ePP
          obtain ⟨ve, f0, f1, f2, f3⟩ := hcell j F[j] (List.getElem?_eq_getElem hlt)
          have g0 := (HBW.out.cell (p := ⟨g', o + j * 3, none⟩) hg).trans f0
          have g1 := (HBW.out.cell (p := ⟨g', o + j * 3 + 1, none⟩) hg).trans f1
          have g2 := (HBW.out.cell (p := ⟨g', o + j * 3 + 2, none⟩) hg).trans f2
          have HX : Hid (opAt wr ve F[j].op) := opAt_below f3.1 HBW.out (Nat.le_refl _)
          have hki : (j : Int) < (F.length : Int) := by omega
          have CT : Hid (∀ wx, Below wr.heap.size wr wx → Calls Tryz.prog 123 #[.slice p4 (turnS ps (F.take j)).length c4, ve, .bool false] wx fun e w' => ∃ v', e = .returned (.tuple #[v', .int .i64 0]) ∧ opN wx.heap.size w' v' (turnS ps (F.take (j + 1))) ∧ Below wx.heap.size wx w') := fun wx hb => HT.out j hlt _ ve wx (opAt_below HOP.out.1 hb (Nat.le_refl _)) (opAt_below HX.out hb (Nat.le_refl _))
          have hsh : ∃ p c, ve = .slice p F[j].op.length c := by obtain ⟨p, c, e, _⟩ := HX.out; exact ⟨p, c, e⟩
          obtain ⟨pe, ce, rfl⟩ := hsh
          rw [hL0] at CT HOP
          generalize F[j].op.length = L1 at *
          generalize F[j] = x at *
          obtain ⟨xc, xi, xo⟩ := x
          simp only at g0 g1
          clear hcell f0 f1 f2 f3 hne hop hbw hL0 HN HT HE
          go_wp2_with (first
            | (go_at_call 123; refine (CT.out _ ((Below.refl _ _).alloc (Nat.le_refl _) _)).mono ?_; rintro e w3 ⟨v3, rfl, ho3, hb3⟩; have HB3 : Hid (Below w.heap.size w w3) := (HBW.out.alloc HBW.out.size _).trans (hb3.mono (by rw [World.size_alloc]; have := HBW.out.size; omega)); have HO3 : Hid (opX lo w3 v3 (turnS ps (F.take (j + 1)))) := opX_of_new ho3; clear hb3 ho3)
            | fail)
          exact ⟨⟨j + 1, by go_num, by omega, HO3.out, HB3.out⟩, by simp [intOf]; omega⟩
        · obtain rfl : j = F.length := by omega
          have hki : ¬ ((F.length : Int) < (F.length : Int)) := by omega
          have HTK : F.take F.length = F := List.take_length
          rw [HTK] at HOP hL0
          have HOQ : Hid (opX lo wr (.slice p4 L0 c4) (turnS ps F)) := by have := HOP.out; rw [hL0] at this; exact this
          clear hop hbw HOP hL0 HN HT HTK HE
          go_wp2_with (first
            | (go_at_call 42; refine (CX.out _ HBW.out).mono ?_; rintro e w5 ⟨rfl, hb5⟩; have HB5 : Hid (Below w.heap.size w w5) := HBW.out.trans (hb5.mono HBW.out.size); have HO5 : Hid (opAt w5 (.slice p4 L0 c4) (turnS ps F)) := (opX_grown HOQ.out hb5).1; clear hb5)
            | (go_at_call 31; refine (CA.out _ _ HO5.out).mono ?_; rintro e w6 ⟨rfl, hb6⟩; have HB6 : Hid (Below w.heap.size w w6) := HB5.out.trans (hb6.mono HB5.out.size); clear hb6)
            | fail)
          go_ret
          exact ⟨rfl, HB6.out⟩
  · rw [if_neg hck] at HE
    go_enter Tryz.func112, Tryz.ntmps112
    go_wp2_with (first
      | (go_at_call 83; refine Calls.mono CI.out ?_; rintro e w1 ⟨rfl, hw⟩; obtain rfl := hw.symm)
      | (go_at_call 84; refine Calls.mono CC.out ?_; rintro e w2 ⟨rfl, hb2⟩; have HB2 : Hid (Below w.heap.size w w2) := hb2; have y1 : w2.cell? ⟨b, 1, none⟩ = some (.slice p E.length c1) := (hb2.cell (p := ⟨b, 1, none⟩) HB.out).trans x1; clear hb2)
      | fail)
    all_goals
      generalize Option.map (fun x => x.add (k * 3)) p = P at *
      go_loopw [4, 50] (fun v4 i wr => ∃ j : Nat, i = .int .i64 j ∧ j ≤ F.length ∧ opX lo wr v4 (turnS ps (F.take j)) ∧ Below w.heap.size w wr) (fun _ i _ => F.length - (intOf i).toNat)
      case atStart => exact ⟨0, rfl, Nat.zero_le _, opX_grown HR.out HB2.out, HB2.out⟩
      case round =>
        obtain ⟨j, rfl, hj, hop', hbw⟩ := hrel
        obtain ⟨L0, hL0⟩ : ∃ L, (turnS ps (F.take j)).length = L := ⟨_, rfl⟩
        have hop := hop'
        obtain ⟨⟨p4, c4, rfl, _⟩, _⟩ := hop'
        have HOP : Hid (opX lo wr (.slice p4 (turnS ps (F.take j)).length c4) (turnS ps (F.take j))) := hop
        have HBW : Hid (Below w.heap.size w wr) := hbw
        rw [hL0]
        by_cases hlt : j < F.length
        · have hne : F ≠ [] := by intro e; rw [e] at hlt; exact absurd hlt (Nat.not_lt_zero _)
          have hcell0 := HE.out.2.2.2
          obtain ⟨g', o, ePP, hg, hcell⟩ := hcell0 hne
          clear hcell0
          subst ePP
          obtain ⟨ve, f0, f1, f2, f3⟩ := hcell j F[j] (List.getElem?_eq_getElem hlt)
          have g0 := (HBW.out.cell (p := ⟨g', o + j * 3, none⟩) hg).trans f0
          have g1 := (HBW.out.cell (p := ⟨g', o + j * 3 + 1, none⟩) hg).trans f1
          have g2 := (HBW.out.cell (p := ⟨g', o + j * 3 + 2, none⟩) hg).trans f2
          have HX : Hid (opAt wr ve F[j].op) := opAt_below f3.1 HBW.out (Nat.le_refl _)
          have hki : (j : Int) < (F.length : Int) := by omega
          have CT : Hid (∀ wx, Below wr.heap.size wr wx → Calls Tryz.prog 123 #[.slice p4 (turnS ps (F.take j)).length c4, ve, .bool false] wx fun e w' => ∃ v', e = .returned (.tuple #[v', .int .i64 0]) ∧ opN wx.heap.size w' v' (turnS ps (F.take (j + 1))) ∧ Below wx.heap.size wx w') := fun wx hb => HT.out j hlt _ ve wx (opAt_below HOP.out.1 hb (Nat.le_refl _)) (opAt_below HX.out hb (Nat.le_refl _))
          have hsh : ∃ p c, ve = .slice p F[j].op.length c := by obtain ⟨p, c, e, _⟩ := HX.out; exact ⟨p, c, e⟩
          obtain ⟨pe, ce, rfl⟩ := hsh
          rw [hL0] at CT HOP
          generalize F[j].op.length = L1 at *
          generalize F[j] = x at *
          obtain ⟨xc, xi, xo⟩ := x
          simp only at g0 g1
          clear hcell f0 f1 f2 f3 hne hop hbw hL0 HN HT HE
          go_wp2_with (first
            | (go_at_call 123; refine (CT.out _ ((Below.refl _ _).alloc (Nat.le_refl _) _)).mono ?_; rintro e w3 ⟨v3, rfl, ho3, hb3⟩; have HB3 : Hid (Below w.heap.size w w3) := (HBW.out.alloc HBW.out.size _).trans (hb3.mono (by rw [World.size_alloc]; have := HBW.out.size; omega)); have HO3 : Hid (opX lo w3 v3 (turnS ps (F.take (j + 1)))) := opX_of_new ho3; clear hb3 ho3)
            | fail)
          exact ⟨⟨j + 1, by go_num, by omega, HO3.out, HB3.out⟩, by simp [intOf]; omega⟩
        · obtain rfl : j = F.length := by omega
          have hki : ¬ ((F.length : Int) < (F.length : Int)) := by omega
          have HTK : F.take F.length = F := List.take_length
          rw [HTK] at HOP hL0
          have HOQ : Hid (opX lo wr (.slice p4 L0 c4) (turnS ps F)) := by have := HOP.out; rw [hL0] at this; exact this
          clear hop hbw HOP hL0 HN HT HTK HE
          go_wp2_with (first
            | (go_at_call 42; refine (CX.out _ HBW.out).mono ?_; rintro e w5 ⟨rfl, hb5⟩; have HB5 : Hid (Below w.heap.size w w5) := HBW.out.trans (hb5.mono HBW.out.size); have HO5 : Hid (opAt w5 (.slice p4 L0 c4) (turnS ps F)) := (opX_grown HOQ.out hb5).1; clear hb5)
            | (go_at_call 31; refine (CA.out _ _ HO5.out).mono ?_; rintro e w6 ⟨rfl, hb6⟩; have HB6 : Hid (Below w.heap.size w w6) := HB5.out.trans (hb6.mono HB5.out.size); clear hb6)
            | fail)
          go_ret
          exact ⟨rfl, HB6.out⟩
end Go.Proofs.YtfedgjnhanlmeabGreatDoor

namespace Go.Proofs.YtfedgjnhanlmeabGreatDoor
open Go.RowKit Go.Maps
set_option linter.unusedVariables false
attribute [local go_sem] Oper.semAt_some

set_option maxRecDepth 100000 in
set_option maxHeartbeats 4000000 in
theorem refDoes_full {lo n : Nat} {w : World} {b bm : Nat} {t : List UInt8} {D : List (List UInt8)} {E : List SE} {M : Told} {l0 : Int} (hk : okS l0 t E) (c i : Int) (k : Nat) (v : Value) (ps : List Pt) {g c0 : Nat} {p : Option Addr} {c1 : Nat} {d : List UInt8} (hr : opX lo w v ps) (hpu : putsP ps ≤ 40000) (hkl : k ≤ E.length) (hn : E.length ≤ 100) (hc1 : E.length ≤ c1) (hc0 : E.length + 1 ≤ c0) (hcm : c1 ≤ maxLen) (hc : chkE ps (endE l0 (E.take k)) = 0) (S : RefStart lo n w b bm t D E k v ps g c0 p c1 d) (CT : ∀ wx, Below w.heap.size w wx → Calls Tryz.prog 42 #[.pointer (some ⟨b, 0, none⟩)] wx fun e w' => e = .returned (.string ⟨t.toArray⟩) ∧ Below wx.heap.size wx w') (ho : ordE (turnS ps (E.drop k)) t = 0) (hz2 : 2000 < (applyP (turnS ps (E.drop k)) t).length) :
    Calls Tryz.prog 112 #[.pointer (some ⟨b, 0, none⟩), .int .i64 c, .int .i64 i, .int .i64 (k : Int), v] w fun e w' => e = .returned (.int .i64 12) ∧ Below w.heap.size w w' := by
  obtain ⟨s1, s2, x0, x1, xd, hbl, hgl, hcut⟩ := S
  have CI : Hid _ := s1
  have CC : Hid _ := s2
  have CX : Hid _ := CT
  obtain ⟨q1, q2⟩ := do_turned hk hpu hc
  have hrm := hk.room
  have hb1 : (t.length : Int) + putsP (turnS ps (E.drop k)) < 1000000 := by omega
  have hlen := (q1.fine hb1).len
  have CA : Hid (∀ wx v', opAt wx v' (turnS ps (E.drop k)) → Calls Tryz.prog 31 #[v', .string ⟨t.toArray⟩] wx fun e w' => e = .returned (.tuple #[.string ⟨(if ordE (turnS ps (E.drop k)) t = 0 then applyP (turnS ps (E.drop k)) t else []).toArray⟩, .int .i64 (ordE (turnS ps (E.drop k)) t)]) ∧ Below wx.heap.size wx w') := fun wx v' ho =>
    refApply_any v' _ t wx ho (q1.wf hb1) (fun q hq => by have := put_le_putsS q _ hq; omega) (by omega) hlen (by omega)
  have hle := end_take_le E l0 k hk.chain hk.pos hk.top
  have hch := (chain_drop E l0 k hk.chain).1
  have HT : Hid (∀ (j : Nat) (hj : j < (E.drop k).length) (v0 ve : Value) (w : World), opAt w v0 (turnS ps ((E.drop k).take j)) → opAt w ve (E.drop k)[j].op → Calls Tryz.prog 123 #[v0, ve, .bool false] w fun e w' => ∃ v', e = .returned (.tuple #[v', .int .i64 0]) ∧ opN w.heap.size w' v' (turnS ps ((E.drop k).take (j + 1))) ∧ Below w.heap.size w w') := fun j hj v0 ve w h1 h2 => turnS_ref (l0 := l0) (E := E) (okOp_of_chk hc) hpu hle.1 hle.2 hch j hj v0 ve w h1 h2
  have hz : (ByteArray.mk d.toArray).size = d.length := by simp [ByteArray.size]
  have hk1 : ¬ (300 : Int) ≤ (E.length : Int) := by omega
  have hk2 : (k : Int) < (E.length : Int) + 1 := by omega
  have hk3 : (k : Int) ≤ (E.length : Int) := by omega
  have hni : (E.length : Int) ≤ 1000 := by omega
  have HR : Hid _ := hr
  have HB : Hid (b < w.heap.size) := hbl
  rw [if_pos ho, ho] at CA
  clear ho
  have hsh : ∃ p c, v = .slice p ps.length c := by obtain ⟨⟨p, c, e, _⟩, _⟩ := hr; exact ⟨p, c, e⟩
  obtain ⟨pv, cv, rfl⟩ := hsh
  have hdl : (E.drop k).length = E.length - k := List.length_drop
  have HOK0 : Hid (turnS ps ((E.drop k).take 0) = ps) := rfl
  generalize hF : E.drop k = F at *
  generalize applyP (turnS ps F) t = s' at *
  have hs1 : (ByteArray.mk s'.toArray).size = s'.length := by simp [ByteArray.size]
  have hs2 : (2000 : Int) < (s'.length : Int) := by omega
  clear hz2
  have HN : Hid (E.length - k = F.length) := hdl.symm
  have hnf : (F.length : Int) ≤ 1000 := by omega
  have HE : Hid _ := hcut
  rw [← hdl] at HE
  have hFL := HN.out
  clear s1 s2 hr hpu hbl hgl hcut q1 q2 hrm hb1 hlen hle hch hdl hc0 hcm hk CT hc
  by_cases hck : c1 = k
  · rw [if_pos hck, hck, Nat.sub_self] at HE
    rw [hck] at x1
    have hck' : True := trivial
    clear hc1
    go_enter Tryz.func112, Tryz.ntmps112
    go_wp2_with (first
      | (go_at_call 83; refine Calls.mono CI.out ?_; rintro e w1 ⟨rfl, hw⟩; obtain rfl := hw.symm)
      | (go_at_call 84; refine Calls.mono CC.out ?_; rintro e w2 ⟨rfl, hb2⟩; have HB2 : Hid (Below w.heap.size w w2) := hb2; have y1 : w2.cell? ⟨b, 1, none⟩ = some (.slice p E.length k) := (hb2.cell (p := ⟨b, 1, none⟩) HB.out).trans x1; clear hb2)
      | fail)
    all_goals
      go_loopw [4, 50] (fun v4 i wr => ∃ j : Nat, i = .int .i64 j ∧ j ≤ F.length ∧ opX lo wr v4 (turnS ps (F.take j)) ∧ Below w.heap.size w wr) (fun _ i _ => F.length - (intOf i).toNat)
      case atStart => exact ⟨0, rfl, Nat.zero_le _, opX_grown HR.out HB2.out, HB2.out⟩
      case round =>
        obtain ⟨j, rfl, hj, hop', hbw⟩ := hrel
        obtain ⟨L0, hL0⟩ : ∃ L, (turnS ps (F.take j)).length = L := ⟨_, rfl⟩
        have hop := hop'
        obtain ⟨⟨p4, c4, rfl, _⟩, _⟩ := hop'
        have HOP : Hid (opX lo wr (.slice p4 (turnS ps (F.take j)).length c4) (turnS ps (F.take j))) := hop
        have HBW : Hid (Below w.heap.size w wr) := hbw
        rw [hL0]
        by_cases hlt : j < F.length
        · have hne : F ≠ [] := by intro e; rw [e] at hlt; exact absurd hlt (Nat.not_lt_zero _)
          have hcell0 := HE.out.2.2.2
          obtain ⟨g', o, ePP, hg, hcell⟩ := hcell0 hne
          clear hcell0
          subst ePP
          obtain ⟨ve, f0, f1, f2, f3⟩ := hcell j F[j] (List.getElem?_eq_getElem hlt)
          have g0 := (HBW.out.cell (p := ⟨g', o + j * 3, none⟩) hg).trans f0
          have g1 := (HBW.out.cell (p := ⟨g', o + j * 3 + 1, none⟩) hg).trans f1
          have g2 := (HBW.out.cell (p := ⟨g', o + j * 3 + 2, none⟩) hg).trans f2
          have HX : Hid (opAt wr ve F[j].op) := opAt_below f3.1 HBW.out (Nat.le_refl _)
          have hki : (j : Int) < (F.length : Int) := by omega
          have CT : Hid (∀ wx, Below wr.heap.size wr wx → Calls Tryz.prog 123 #[.slice p4 (turnS ps (F.take j)).length c4, ve, .bool false] wx fun e w' => ∃ v', e = .returned (.tuple #[v', .int .i64 0]) ∧ opN wx.heap.size w' v' (turnS ps (F.take (j + 1))) ∧ Below wx.heap.size wx w') := fun wx hb => HT.out j hlt _ ve wx (opAt_below HOP.out.1 hb (Nat.le_refl _)) (opAt_below HX.out hb (Nat.le_refl _))
          have hsh : ∃ p c, ve = .slice p F[j].op.length c := by obtain ⟨p, c, e, _⟩ := HX.out; exact ⟨p, c, e⟩
          obtain ⟨pe, ce, rfl⟩ := hsh
          rw [hL0] at CT HOP
          generalize F[j].op.length = L1 at *
          generalize F[j] = x at *
          obtain ⟨xc, xi, xo⟩ := x
          simp only at g0 g1
          clear hcell f0 f1 f2 f3 hne hop hbw hL0 HN HT HE
          go_wp2_with (first
            | (go_at_call 123; refine (CT.out _ ((Below.refl _ _).alloc (Nat.le_refl _) _)).mono ?_; rintro e w3 ⟨v3, rfl, ho3, hb3⟩; have HB3 : Hid (Below w.heap.size w w3) := (HBW.out.alloc HBW.out.size _).trans (hb3.mono (by rw [World.size_alloc]; have := HBW.out.size; omega)); have HO3 : Hid (opX lo w3 v3 (turnS ps (F.take (j + 1)))) := opX_of_new ho3; clear hb3 ho3)
            | fail)
          exact ⟨⟨j + 1, by go_num, by omega, HO3.out, HB3.out⟩, by simp [intOf]; omega⟩
        · obtain rfl : j = F.length := by omega
          have hki : ¬ ((F.length : Int) < (F.length : Int)) := by omega
          have HTK : F.take F.length = F := List.take_length
          rw [HTK] at HOP hL0
          have HOQ : Hid (opX lo wr (.slice p4 L0 c4) (turnS ps F)) := by have := HOP.out; rw [hL0] at this; exact this
          clear hop hbw HOP hL0 HN HT HTK HE
          go_wp2_with (first
            | (go_at_call 42; refine (CX.out _ HBW.out).mono ?_; rintro e w5 ⟨rfl, hb5⟩; have HB5 : Hid (Below w.heap.size w w5) := HBW.out.trans (hb5.mono HBW.out.size); have HO5 : Hid (opAt w5 (.slice p4 L0 c4) (turnS ps F)) := (opX_grown HOQ.out hb5).1; clear hb5)
            | (go_at_call 31; refine (CA.out _ _ HO5.out).mono ?_; rintro e w6 ⟨rfl, hb6⟩; have HB6 : Hid (Below w.heap.size w w6) := HB5.out.trans (hb6.mono HB5.out.size); clear hb6)
            | fail)
          go_ret
          exact ⟨rfl, HB6.out⟩
  · rw [if_neg hck] at HE
    go_enter Tryz.func112, Tryz.ntmps112
    go_wp2_with (first
      | (go_at_call 83; refine Calls.mono CI.out ?_; rintro e w1 ⟨rfl, hw⟩; obtain rfl := hw.symm)
      | (go_at_call 84; refine Calls.mono CC.out ?_; rintro e w2 ⟨rfl, hb2⟩; have HB2 : Hid (Below w.heap.size w w2) := hb2; have y1 : w2.cell? ⟨b, 1, none⟩ = some (.slice p E.length c1) := (hb2.cell (p := ⟨b, 1, none⟩) HB.out).trans x1; clear hb2)
      | fail)
    all_goals
      generalize Option.map (fun x => x.add (k * 3)) p = P at *
      go_loopw [4, 50] (fun v4 i wr => ∃ j : Nat, i = .int .i64 j ∧ j ≤ F.length ∧ opX lo wr v4 (turnS ps (F.take j)) ∧ Below w.heap.size w wr) (fun _ i _ => F.length - (intOf i).toNat)
      case atStart => exact ⟨0, rfl, Nat.zero_le _, opX_grown HR.out HB2.out, HB2.out⟩
      case round =>
        obtain ⟨j, rfl, hj, hop', hbw⟩ := hrel
        obtain ⟨L0, hL0⟩ : ∃ L, (turnS ps (F.take j)).length = L := ⟨_, rfl⟩
        have hop := hop'
        obtain ⟨⟨p4, c4, rfl, _⟩, _⟩ := hop'
        have HOP : Hid (opX lo wr (.slice p4 (turnS ps (F.take j)).length c4) (turnS ps (F.take j))) := hop
        have HBW : Hid (Below w.heap.size w wr) := hbw
        rw [hL0]
        by_cases hlt : j < F.length
        · have hne : F ≠ [] := by intro e; rw [e] at hlt; exact absurd hlt (Nat.not_lt_zero _)
          have hcell0 := HE.out.2.2.2
          obtain ⟨g', o, ePP, hg, hcell⟩ := hcell0 hne
          clear hcell0
          subst ePP
          obtain ⟨ve, f0, f1, f2, f3⟩ := hcell j F[j] (List.getElem?_eq_getElem hlt)
          have g0 := (HBW.out.cell (p := ⟨g', o + j * 3, none⟩) hg).trans f0
          have g1 := (HBW.out.cell (p := ⟨g', o + j * 3 + 1, none⟩) hg).trans f1
          have g2 := (HBW.out.cell (p := ⟨g', o + j * 3 + 2, none⟩) hg).trans f2
          have HX : Hid (opAt wr ve F[j].op) := opAt_below f3.1 HBW.out (Nat.le_refl _)
          have hki : (j : Int) < (F.length : Int) := by omega
          have CT : Hid (∀ wx, Below wr.heap.size wr wx → Calls Tryz.prog 123 #[.slice p4 (turnS ps (F.take j)).length c4, ve, .bool false] wx fun e w' => ∃ v', e = .returned (.tuple #[v', .int .i64 0]) ∧ opN wx.heap.size w' v' (turnS ps (F.take (j + 1))) ∧ Below wx.heap.size wx w') := fun wx hb => HT.out j hlt _ ve wx (opAt_below HOP.out.1 hb (Nat.le_refl _)) (opAt_below HX.out hb (Nat.le_refl _))
          have hsh : ∃ p c, ve = .slice p F[j].op.length c := by obtain ⟨p, c, e, _⟩ := HX.out; exact ⟨p, c, e⟩
          obtain ⟨pe, ce, rfl⟩ := hsh
          rw [hL0] at CT HOP
          generalize F[j].op.length = L1 at *
          generalize F[j] = x at *
          obtain ⟨xc, xi, xo⟩ := x
          simp only at g0 g1
          clear hcell f0 f1 f2 f3 hne hop hbw hL0 HN HT HE
          go_wp2_with (first
            | (go_at_call 123; refine (CT.out _ ((Below.refl _ _).alloc (Nat.le_refl _) _)).mono ?_; rintro e w3 ⟨v3, rfl, ho3, hb3⟩; have HB3 : Hid (Below w.heap.size w w3) := (HBW.out.alloc HBW.out.size _).trans (hb3.mono (by rw [World.size_alloc]; have := HBW.out.size; omega)); have HO3 : Hid (opX lo w3 v3 (turnS ps (F.take (j + 1)))) := opX_of_new ho3; clear hb3 ho3)
            | fail)
          exact ⟨⟨j + 1, by go_num, by omega, HO3.out, HB3.out⟩, by simp [intOf]; omega⟩
        · obtain rfl : j = F.length := by omega
          have hki : ¬ ((F.length : Int) < (F.length : Int)) := by omega
          have HTK : F.take F.length = F := List.take_length
          rw [HTK] at HOP hL0
          have HOQ : Hid (opX lo wr (.slice p4 L0 c4) (turnS ps F)) := by have := HOP.out; rw [hL0] at this; exact this
          clear hop hbw HOP hL0 HN HT HTK HE
          go_wp2_with (first
            | (go_at_call 42; refine (CX.out _ HBW.out).mono ?_; rintro e w5 ⟨rfl, hb5⟩; have HB5 : Hid (Below w.heap.size w w5) := HBW.out.trans (hb5.mono HBW.out.size); have HO5 : Hid (opAt w5 (.slice p4 L0 c4) (turnS ps F)) := (opX_grown HOQ.out hb5).1; clear hb5)
            | (go_at_call 31; refine (CA.out _ _ HO5.out).mono ?_; rintro e w6 ⟨rfl, hb6⟩; have HB6 : Hid (Below w.heap.size w w6) := HB5.out.trans (hb6.mono HB5.out.size); clear hb6)
            | fail)
          go_ret
          exact ⟨rfl, HB6.out⟩
end Go.Proofs.YtfedgjnhanlmeabGreatDoor

namespace Go.Proofs.YtfedgjnhanlmeabGreatDoor
open Go.RowKit Go.Maps
set_option linter.unusedVariables false
attribute [local go_sem] Oper.semAt_some

set_option maxRecDepth 100000 in
set_option maxHeartbeats 4000000 in
theorem refDoes_ok {lo n : Nat} {w : World} {b bm : Nat} {t : List UInt8} {D : List (List UInt8)} {E : List SE} {M : Told} {l0 : Int} (hk : okS l0 t E) (c i : Int) (k : Nat) (v : Value) (ps : List Pt) {g c0 : Nat} {p : Option Addr} {c1 : Nat} {d : List UInt8} (hr : opX lo w v ps) (hpu : putsP ps ≤ 40000) (hkl : k ≤ E.length) (hn : E.length ≤ 100) (hc1 : E.length ≤ c1) (hc0 : E.length + 1 ≤ c0) (hcm : c1 ≤ maxLen) (hc : chkE ps (endE l0 (E.take k)) = 0) (S : RefStart lo n w b bm t D E k v ps g c0 p c1 d) (CT : ∀ wx, Below w.heap.size w wx → Calls Tryz.prog 42 #[.pointer (some ⟨b, 0, none⟩)] wx fun e w' => e = .returned (.string ⟨t.toArray⟩) ∧ Below wx.heap.size wx w') (ho : ordE (turnS ps (E.drop k)) t = 0) (hz2 : (applyP (turnS ps (E.drop k)) t).length ≤ 2000) (hs : isRef lo n w b bm D E M) (hDl : D.length = E.length + 1) (h3 : w.heap[b]? = some (.cells #[.slice (some ⟨g, 0, none⟩) (E.length + 1) c0, .slice p E.length c1, .map (some bm)] 84 (0, 0))) (h30 : w.ownsRow lo 9 1 (.slice (some ⟨g, 0, none⟩) (E.length + 1) c0) (E.length + 1) (docsC D)) (hlg : isLog 103 lo lo w (.slice p E.length c1) E) :
    Calls Tryz.prog 112 #[.pointer (some ⟨b, 0, none⟩), .int .i64 c, .int .i64 i, .int .i64 (k : Int), v] w fun e w' => e = .returned (.int .i64 0) ∧ isRef lo n w' b bm (D ++ [applyP (turnS ps (E.drop k)) t]) (E ++ [⟨c, i, turnS ps (E.drop k)⟩]) M ∧ sameBut w w' (touchR lo w bm) := by
  obtain ⟨s1, s2, x0, x1, xd, hbl, hgl, hcut⟩ := S
  have CI : Hid _ := s1
  have CC : Hid _ := s2
  have CX : Hid _ := CT
  obtain ⟨q1, q2⟩ := do_turned hk hpu hc
  have hrm := hk.room
  have hb1 : (t.length : Int) + putsP (turnS ps (E.drop k)) < 1000000 := by omega
  have hlen := (q1.fine hb1).len
  have CA : Hid (∀ wx v', opAt wx v' (turnS ps (E.drop k)) → Calls Tryz.prog 31 #[v', .string ⟨t.toArray⟩] wx fun e w' => e = .returned (.tuple #[.string ⟨(if ordE (turnS ps (E.drop k)) t = 0 then applyP (turnS ps (E.drop k)) t else []).toArray⟩, .int .i64 (ordE (turnS ps (E.drop k)) t)]) ∧ Below wx.heap.size wx w') := fun wx v' ho =>
    refApply_any v' _ t wx ho (q1.wf hb1) (fun q hq => by have := put_le_putsS q _ hq; omega) (by omega) hlen (by omega)
  have hle := end_take_le E l0 k hk.chain hk.pos hk.top
  have hch := (chain_drop E l0 k hk.chain).1
  have HT : Hid (∀ (j : Nat) (hj : j < (E.drop k).length) (v0 ve : Value) (w : World), opAt w v0 (turnS ps ((E.drop k).take j)) → opAt w ve (E.drop k)[j].op → Calls Tryz.prog 123 #[v0, ve, .bool false] w fun e w' => ∃ v', e = .returned (.tuple #[v', .int .i64 0]) ∧ opN w.heap.size w' v' (turnS ps ((E.drop k).take (j + 1))) ∧ Below w.heap.size w w') := fun j hj v0 ve w h1 h2 => turnS_ref (l0 := l0) (E := E) (okOp_of_chk hc) hpu hle.1 hle.2 hch j hj v0 ve w h1 h2
  have hz : (ByteArray.mk d.toArray).size = d.length := by simp [ByteArray.size]
  have hk1 : ¬ (300 : Int) ≤ (E.length : Int) := by omega
  have hk2 : (k : Int) < (E.length : Int) + 1 := by omega
  have hk3 : (k : Int) ≤ (E.length : Int) := by omega
  have hni : (E.length : Int) ≤ 1000 := by omega
  have HR : Hid _ := hr
  have HB : Hid (b < w.heap.size) := hbl
  rw [if_pos ho, ho] at CA
  clear ho
  obtain ⟨i0, hi, hq0, hq1, hq2⟩ := info_parts info_rentry
  obtain ⟨i1, hj, hp0, hp1, hp2⟩ := info_parts info_string
  have HI : Hid _ := hi
  have HQ0 : Hid _ := hq0
  have HQ1 : Hid _ := hq1
  have HQ2 : Hid _ := hq2
  have HJ : Hid _ := hj
  have HP0 : Hid _ := hp0
  have HP1 : Hid _ := hp1
  have HP2 : Hid _ := hp2
  clear hi hq0 hq1 hq2 hj hp0 hp1 hp2
  have HLO : Hid (lo ≤ b) := hs.1
  have PUSH : Hid (∀ (q : List Pt) (s' : List UInt8) w4 v', Below w.heap.size w w4 → opX lo w4 v' q → (w4.alloc (.cells #[.string ⟨s'.toArray⟩] 9)).ownsRow lo 9 1 (.slice (some ⟨g, 0, none⟩) (E.length + 1) c0) (E.length + 1) (docsC D) ∧ w4.cell? ⟨b, 0, none⟩ = some (.slice (some ⟨g, 0, none⟩) (E.length + 1) c0) ∧ ∀ w6 v2, w6.ownsRow lo 9 1 v2 (E.length + 1 + 1) (docsC D ++ [.string ⟨s'.toArray⟩]) → (w4.alloc (.cells #[.string ⟨s'.toArray⟩] 9)).grownBy w6 (Value.slice (some ⟨g, 0, none⟩) (E.length + 1) c0).ownBlock →
      w6.cell? ⟨b, 0, none⟩ = some (.slice (some ⟨g, 0, none⟩) (E.length + 1) c0) ∧ w6.frozen? ⟨b, 0, none⟩ = false ∧ (w6.setCell ⟨b, 0, none⟩ v2).cell? ⟨b, 1, none⟩ = some (.slice p E.length c1) ∧ ∃ vs, vs.length = E.length ∧ ((w6.setCell ⟨b, 0, none⟩ v2).alloc (.cells #[.int .i64 c, .int .i64 i, v'] 103)).ownsRow lo 103 3 (.slice p E.length c1) E.length (logC E vs) ∧ ∀ w8 v3, w8.ownsRow lo 103 3 v3 (E.length + 1) (logC E vs ++ [.int .i64 c, .int .i64 i, v']) → ((w6.setCell ⟨b, 0, none⟩ v2).alloc (.cells #[.int .i64 c, .int .i64 i, v'] 103)).grownBy w8 (Value.slice p E.length c1).ownBlock →
        w8.cell? ⟨b, 1, none⟩ = some (.slice p E.length c1) ∧ w8.frozen? ⟨b, 1, none⟩ = false ∧ isRef lo n (w8.setCell ⟨b, 1, none⟩ v3) b bm (D ++ [s']) (E ++ [⟨c, i, q⟩]) M ∧ sameBut w (w8.setCell ⟨b, 1, none⟩ v3) (touchR lo w bm)) := fun q s' w4 v' hb4 hx => by
    obtain ⟨g1, g2, _, g4⟩ := hs
    have hb4' : w4.heap[b]? = some (.cells #[.slice (some ⟨g, 0, none⟩) (E.length + 1) c0, .slice p E.length c1, .map (some bm)] 84 (0, 0)) := (hb4.block b hbl).trans h3
    have hdoc := own_below h30 hb4
    rw [← hDl] at hdoc hb4' ⊢
    obtain ⟨t1, t2⟩ := docs_push (e := 103) (d := s') (by decide) (by decide) (by decide) (by decide) (by decide) g1 hb4' hdoc (isLog_below hlg hb4)
    refine ⟨t1, Lib.cell_of_heap hb4' 0, fun w6 v2 hn6 hg6 => ?_⟩
    obtain ⟨y1, y2, y3, y4, y5, y6⟩ := t2 w6 v2 hn6 hg6
    have hst : ∀ k, (Value.slice (some ⟨g, 0, none⟩) D.length c0).ownBlock = some k → lo ≤ k ∧ ∃ cs, w.heap[k]? = some (.cells cs 9 (0, 0)) := fun k hk => by
      rcases h30.2 with ⟨e, _⟩ | ⟨g', cap, cur, e, h3', h4', _⟩
      · cases e
      · injection e with e1 _ _
        obtain rfl : g = k := Option.some.inj hk
        have : g = g' := by injection Option.some.inj e1
        subst this
        exact ⟨h3', _, h4'⟩
    have hx6 : opX lo (w6.setCell ⟨b, 0, none⟩ v2) v' q := opX_same hx y6 fun k hk hS => by
      rcases hS with rfl | hS
      · exact ⟨g1, noPart_of hb4' (by decide)⟩
      · obtain ⟨a, cs, hcs⟩ := hst k hS
        exact ⟨a, noPart_of ((hb4.block k (Array.getElem?_eq_some_iff.1 hcs).1).trans hcs) (by decide)⟩
    obtain ⟨vs, u1, u2, u3⟩ := log_push (x := ⟨c, i, q⟩) (vx := v') (by decide) (by decide) (by decide) g1 y3 y5 hx6
    refine ⟨y1, y2, Lib.cell_of_heap y3 1, vs, u1, u2, fun w8 v3 hn8 hg8 => ?_⟩
    obtain ⟨z1, z2, z3, z4, z5⟩ := u3 w8 v3 (by rw [← hDl]; exact hn8) hg8
    have hS : sameBut w (w8.setCell ⟨b, 1, none⟩ v3) (fun k => k = b ∨ (Value.slice (some ⟨g, 0, none⟩) D.length c0).ownBlock = some k ∨ (Value.slice p E.length c1).ownBlock = some k) := ((sameBut_below hb4 _).comp y6 fun k _ h => h.elim .inl fun h => .inr (.inl h)).comp z5 fun k _ h => h.elim .inl fun h => .inr (.inr h)
    have hcell : ∀ k, (k = b ∨ (Value.slice (some ⟨g, 0, none⟩) D.length c0).ownBlock = some k ∨ (Value.slice p E.length c1).ownBlock = some k) → lo ≤ k ∧ ∃ cs T, w.heap[k]? = some (.cells cs T (0, 0)) ∧ (T = 84 ∨ T = 103 ∨ T = 9) := fun k hk => by
      rcases hk with rfl | hk | hk
      · exact ⟨g1, _, _, h3, .inl rfl⟩
      · obtain ⟨a1, cs, a2⟩ := hst k hk
        exact ⟨a1, cs, _, a2, .inr (.inr rfl)⟩
      · obtain ⟨a1, _, cs, a2⟩ := log_own hlg hk
        exact ⟨a1, cs, _, a2, .inr (.inl rfl)⟩
    refine ⟨z1, z2, ⟨g1, g2, ⟨v2, v3, z3, own_same y4 z5 fun k hk hS => ?_, z4⟩, isLast_but g4 hS fun hk => ?_⟩, hS.mono fun k _ hk => ⟨(hcell k hk).1, .inr (hcell k hk).2⟩⟩
    · rcases y4.2 with ⟨rfl, _⟩ | ⟨g', cap, cur, rfl, e1, e2, _⟩
      · cases hk
      · obtain rfl : g' = k := Option.some.inj hk
        rcases hS with rfl | hS
        · exact absurd (not_type y3 e2) (by decide)
        · obtain ⟨_, _, cs, a2⟩ := log_own y5 hS
          exact absurd (not_type a2 e2) (by decide)
    · obtain ⟨_, cs, T, hc, _⟩ := hcell bm hk
      exact noCells_map g4 _ _ _ hc
  have hsh : ∃ p c, v = .slice p ps.length c := by obtain ⟨⟨p, c, e, _⟩, _⟩ := hr; exact ⟨p, c, e⟩
  obtain ⟨pv, cv, rfl⟩ := hsh
  have hdl : (E.drop k).length = E.length - k := List.length_drop
  have HOK0 : Hid (turnS ps ((E.drop k).take 0) = ps) := rfl
  generalize hF : E.drop k = F at *
  generalize applyP (turnS ps F) t = s' at *
  have hs1 : (ByteArray.mk s'.toArray).size = s'.length := by simp [ByteArray.size]
  have hs2 : ¬ (2000 : Int) < (s'.length : Int) := by omega
  clear hz2 hs h3 h30 hlg
  have HN : Hid (E.length - k = F.length) := hdl.symm
  have hnf : (F.length : Int) ≤ 1000 := by omega
  have HE : Hid _ := hcut
  rw [← hdl] at HE
  have hFL := HN.out
  clear s1 s2 hr hpu hbl hgl hcut q1 q2 hrm hb1 hlen hle hch hdl hc0 hcm hk CT hc
  by_cases hck : c1 = k
  · rw [if_pos hck, hck, Nat.sub_self] at HE
    rw [hck] at x1
    rw [hck] at PUSH
    have hck' : True := trivial
    clear hc1
    go_enter Tryz.func112, Tryz.ntmps112
    go_wp2_with (first
      | (go_at_call 83; refine Calls.mono CI.out ?_; rintro e w1 ⟨rfl, hw⟩; obtain rfl := hw.symm)
      | (go_at_call 84; refine Calls.mono CC.out ?_; rintro e w2 ⟨rfl, hb2⟩; have HB2 : Hid (Below w.heap.size w w2) := hb2; have y1 : w2.cell? ⟨b, 1, none⟩ = some (.slice p E.length k) := (hb2.cell (p := ⟨b, 1, none⟩) HB.out).trans x1; clear hb2)
      | fail)
    all_goals
      go_loopw [4, 50] (fun v4 i wr => ∃ j : Nat, i = .int .i64 j ∧ j ≤ F.length ∧ opX lo wr v4 (turnS ps (F.take j)) ∧ Below w.heap.size w wr) (fun _ i _ => F.length - (intOf i).toNat)
      case atStart => exact ⟨0, rfl, Nat.zero_le _, opX_grown HR.out HB2.out, HB2.out⟩
      case round =>
        obtain ⟨j, rfl, hj, hop', hbw⟩ := hrel
        obtain ⟨L0, hL0⟩ : ∃ L, (turnS ps (F.take j)).length = L := ⟨_, rfl⟩
        have hop := hop'
        obtain ⟨⟨p4, c4, rfl, _⟩, _⟩ := hop'
        have HOP : Hid (opX lo wr (.slice p4 (turnS ps (F.take j)).length c4) (turnS ps (F.take j))) := hop
        have HBW : Hid (Below w.heap.size w wr) := hbw
        rw [hL0]
        by_cases hlt : j < F.length
        · have hne : F ≠ [] := by intro e; rw [e] at hlt; exact absurd hlt (Nat.not_lt_zero _)
          have hcell0 := HE.out.2.2.2
          obtain ⟨g', o, ePP, hg, hcell⟩ := hcell0 hne
          clear hcell0
          subst ePP
          obtain ⟨ve, f0, f1, f2, f3⟩ := hcell j F[j] (List.getElem?_eq_getElem hlt)
          have g0 := (HBW.out.cell (p := ⟨g', o + j * 3, none⟩) hg).trans f0
          have g1 := (HBW.out.cell (p := ⟨g', o + j * 3 + 1, none⟩) hg).trans f1
          have g2 := (HBW.out.cell (p := ⟨g', o + j * 3 + 2, none⟩) hg).trans f2
          have HX : Hid (opAt wr ve F[j].op) := opAt_below f3.1 HBW.out (Nat.le_refl _)
          have hki : (j : Int) < (F.length : Int) := by omega
          have CT : Hid (∀ wx, Below wr.heap.size wr wx → Calls Tryz.prog 123 #[.slice p4 (turnS ps (F.take j)).length c4, ve, .bool false] wx fun e w' => ∃ v', e = .returned (.tuple #[v', .int .i64 0]) ∧ opN wx.heap.size w' v' (turnS ps (F.take (j + 1))) ∧ Below wx.heap.size wx w') := fun wx hb => HT.out j hlt _ ve wx (opAt_below HOP.out.1 hb (Nat.le_refl _)) (opAt_below HX.out hb (Nat.le_refl _))
          have hsh : ∃ p c, ve = .slice p F[j].op.length c := by obtain ⟨p, c, e, _⟩ := HX.out; exact ⟨p, c, e⟩
          obtain ⟨pe, ce, rfl⟩ := hsh
          rw [hL0] at CT HOP
          generalize F[j].op.length = L1 at *
          generalize F[j] = x at *
          obtain ⟨xc, xi, xo⟩ := x
          simp only at g0 g1
          clear hcell f0 f1 f2 f3 hne hop hbw hL0 HN HT HE
          go_wp2_with (first
            | (go_at_call 123; refine (CT.out _ ((Below.refl _ _).alloc (Nat.le_refl _) _)).mono ?_; rintro e w3 ⟨v3, rfl, ho3, hb3⟩; have HB3 : Hid (Below w.heap.size w w3) := (HBW.out.alloc HBW.out.size _).trans (hb3.mono (by rw [World.size_alloc]; have := HBW.out.size; omega)); have HO3 : Hid (opX lo w3 v3 (turnS ps (F.take (j + 1)))) := opX_of_new ho3; clear hb3 ho3)
            | fail)
          exact ⟨⟨j + 1, by go_num, by omega, HO3.out, HB3.out⟩, by simp [intOf]; omega⟩
        · obtain rfl : j = F.length := by omega
          have hki : ¬ ((F.length : Int) < (F.length : Int)) := by omega
          have HTK : F.take F.length = F := List.take_length
          rw [HTK] at HOP hL0
          have HOQ : Hid (opX lo wr (.slice p4 L0 c4) (turnS ps F)) := by have := HOP.out; rw [hL0] at this; exact this
          clear hop hbw HOP hL0 HN HT HTK HE
          go_wp2_with (first
            | (go_at_call 42; refine (CX.out _ HBW.out).mono ?_; rintro e w5 ⟨rfl, hb5⟩; have HB5 : Hid (Below w.heap.size w w5) := HBW.out.trans (hb5.mono HBW.out.size); have HO5 : Hid (opX lo w5 (.slice p4 L0 c4) (turnS ps F)) := opX_grown HOQ.out hb5; clear hb5)
            | (go_at_call 31; refine (CA.out _ _ HO5.out.1).mono ?_; rintro e w6 ⟨rfl, hb6⟩; have HB6 : Hid (Below w.heap.size w w6) := HB5.out.trans (hb6.mono HB5.out.size); obtain ⟨r1, r2, r3⟩ := PUSH.out (turnS ps F) s' w6 (.slice p4 L0 c4) HB6.out (opX_grown HO5.out hb6); have R1 : Hid _ := r1; have R3 : Hid _ := r3; have HLS : Hid (lo ≤ w6.heap.size) := Nat.le_of_lt (Nat.lt_of_le_of_lt HLO.out (Nat.lt_of_lt_of_le HB.out HB6.out.size)); clear hb6 r1 r3)
            | (at_builtin; refine wpList_append_own _ rfl _ _ 80 rfl lo 9 i1 (.string ⟨#[]⟩) 1 16 Tryz.underlying80 HJ.out HP0.out HP1.out HP2.out rfl (by decide) _ _ _ rfl R1.out ⟨w6.heap.size, 0, none⟩ 1 1 [.string ⟨s'.toArray⟩] rfl rfl (cells_newS _ _ (by first | rfl | simp) _ _) (string_one _) (by unfold maxLen; omega) (by omega) (by have := HLS.out; simp; omega) ?_)
            | fail)
          intro v2 w7 hown7 hg7 _
          obtain ⟨y1, y2, y3, vs, y4, y5, y6⟩ := R3.out w7 v2 hown7 hg7
          have Y5 : Hid _ := y5
          have Y6 : Hid _ := y6
          have HL7 : Hid (lo ≤ w7.heap.size) := Nat.le_trans HLS.out (Nat.le_trans (by simp) hg7.size)
          obtain ⟨p7, c7, rfl⟩ := own_slice hown7
          clear hown7 hg7 y5 y6
          go_wp2_with (first
            | (at_builtin; refine wpList_append_own _ rfl _ _ 81 rfl lo 103 i0 (.agg #[.int .i64 0, .int .i64 0, .slice none 0 0]) 3 40 Tryz.underlying81 HI.out HQ0.out HQ1.out HQ2.out rfl (by decide) _ _ _ rfl Y5.out ⟨w7.heap.size, 0, none⟩ 1 1 [.int .i64 c, .int .i64 i, .slice p4 L0 c4] rfl rfl (cells_newS _ _ (by first | rfl | simp) _ _) (entry_one _ _ _ _ _) (by unfold maxLen; omega) (by omega) (by have := HL7.out; simp; omega) ?_)
            | fail)
          intro v3 w8 hown8 hg8 _
          obtain ⟨z1, z2, z3, z4⟩ := Y6.out w8 v3 hown8 hg8
          have Z3 : Hid _ := z3
          have Z4 : Hid _ := z4
          obtain ⟨p8, c8, rfl⟩ := own_slice hown8
          clear hown8 hg8 z3 z4
          go_wp2
          go_ret
          exact ⟨rfl, Z3.out, Z4.out⟩
  · rw [if_neg hck] at HE
    go_enter Tryz.func112, Tryz.ntmps112
    go_wp2_with (first
      | (go_at_call 83; refine Calls.mono CI.out ?_; rintro e w1 ⟨rfl, hw⟩; obtain rfl := hw.symm)
      | (go_at_call 84; refine Calls.mono CC.out ?_; rintro e w2 ⟨rfl, hb2⟩; have HB2 : Hid (Below w.heap.size w w2) := hb2; have y1 : w2.cell? ⟨b, 1, none⟩ = some (.slice p E.length c1) := (hb2.cell (p := ⟨b, 1, none⟩) HB.out).trans x1; clear hb2)
      | fail)
    all_goals
      generalize Option.map (fun x => x.add (k * 3)) p = P at *
      go_loopw [4, 50] (fun v4 i wr => ∃ j : Nat, i = .int .i64 j ∧ j ≤ F.length ∧ opX lo wr v4 (turnS ps (F.take j)) ∧ Below w.heap.size w wr) (fun _ i _ => F.length - (intOf i).toNat)
      case atStart => exact ⟨0, rfl, Nat.zero_le _, opX_grown HR.out HB2.out, HB2.out⟩
      case round =>
        obtain ⟨j, rfl, hj, hop', hbw⟩ := hrel
        obtain ⟨L0, hL0⟩ : ∃ L, (turnS ps (F.take j)).length = L := ⟨_, rfl⟩
        have hop := hop'
        obtain ⟨⟨p4, c4, rfl, _⟩, _⟩ := hop'
        have HOP : Hid (opX lo wr (.slice p4 (turnS ps (F.take j)).length c4) (turnS ps (F.take j))) := hop
        have HBW : Hid (Below w.heap.size w wr) := hbw
        rw [hL0]
        by_cases hlt : j < F.length
        · have hne : F ≠ [] := by intro e; rw [e] at hlt; exact absurd hlt (Nat.not_lt_zero _)
          have hcell0 := HE.out.2.2.2
          obtain ⟨g', o, ePP, hg, hcell⟩ := hcell0 hne
          clear hcell0
          subst ePP
          obtain ⟨ve, f0, f1, f2, f3⟩ := hcell j F[j] (List.getElem?_eq_getElem hlt)
          have g0 := (HBW.out.cell (p := ⟨g', o + j * 3, none⟩) hg).trans f0
          have g1 := (HBW.out.cell (p := ⟨g', o + j * 3 + 1, none⟩) hg).trans f1
          have g2 := (HBW.out.cell (p := ⟨g', o + j * 3 + 2, none⟩) hg).trans f2
          have HX : Hid (opAt wr ve F[j].op) := opAt_below f3.1 HBW.out (Nat.le_refl _)
          have hki : (j : Int) < (F.length : Int) := by omega
          have CT : Hid (∀ wx, Below wr.heap.size wr wx → Calls Tryz.prog 123 #[.slice p4 (turnS ps (F.take j)).length c4, ve, .bool false] wx fun e w' => ∃ v', e = .returned (.tuple #[v', .int .i64 0]) ∧ opN wx.heap.size w' v' (turnS ps (F.take (j + 1))) ∧ Below wx.heap.size wx w') := fun wx hb => HT.out j hlt _ ve wx (opAt_below HOP.out.1 hb (Nat.le_refl _)) (opAt_below HX.out hb (Nat.le_refl _))
          have hsh : ∃ p c, ve = .slice p F[j].op.length c := by obtain ⟨p, c, e, _⟩ := HX.out; exact ⟨p, c, e⟩
          obtain ⟨pe, ce, rfl⟩ := hsh
          rw [hL0] at CT HOP
          generalize F[j].op.length = L1 at *
          generalize F[j] = x at *
          obtain ⟨xc, xi, xo⟩ := x
          simp only at g0 g1
          clear hcell f0 f1 f2 f3 hne hop hbw hL0 HN HT HE
          go_wp2_with (first
            | (go_at_call 123; refine (CT.out _ ((Below.refl _ _).alloc (Nat.le_refl _) _)).mono ?_; rintro e w3 ⟨v3, rfl, ho3, hb3⟩; have HB3 : Hid (Below w.heap.size w w3) := (HBW.out.alloc HBW.out.size _).trans (hb3.mono (by rw [World.size_alloc]; have := HBW.out.size; omega)); have HO3 : Hid (opX lo w3 v3 (turnS ps (F.take (j + 1)))) := opX_of_new ho3; clear hb3 ho3)
            | fail)
          exact ⟨⟨j + 1, by go_num, by omega, HO3.out, HB3.out⟩, by simp [intOf]; omega⟩
        · obtain rfl : j = F.length := by omega
          have hki : ¬ ((F.length : Int) < (F.length : Int)) := by omega
          have HTK : F.take F.length = F := List.take_length
          rw [HTK] at HOP hL0
          have HOQ : Hid (opX lo wr (.slice p4 L0 c4) (turnS ps F)) := by have := HOP.out; rw [hL0] at this; exact this
          clear hop hbw HOP hL0 HN HT HTK HE
          go_wp2_with (first
            | (go_at_call 42; refine (CX.out _ HBW.out).mono ?_; rintro e w5 ⟨rfl, hb5⟩; have HB5 : Hid (Below w.heap.size w w5) := HBW.out.trans (hb5.mono HBW.out.size); have HO5 : Hid (opX lo w5 (.slice p4 L0 c4) (turnS ps F)) := opX_grown HOQ.out hb5; clear hb5)
            | (go_at_call 31; refine (CA.out _ _ HO5.out.1).mono ?_; rintro e w6 ⟨rfl, hb6⟩; have HB6 : Hid (Below w.heap.size w w6) := HB5.out.trans (hb6.mono HB5.out.size); obtain ⟨r1, r2, r3⟩ := PUSH.out (turnS ps F) s' w6 (.slice p4 L0 c4) HB6.out (opX_grown HO5.out hb6); have R1 : Hid _ := r1; have R3 : Hid _ := r3; have HLS : Hid (lo ≤ w6.heap.size) := Nat.le_of_lt (Nat.lt_of_le_of_lt HLO.out (Nat.lt_of_lt_of_le HB.out HB6.out.size)); clear hb6 r1 r3)
            | (at_builtin; refine wpList_append_own _ rfl _ _ 80 rfl lo 9 i1 (.string ⟨#[]⟩) 1 16 Tryz.underlying80 HJ.out HP0.out HP1.out HP2.out rfl (by decide) _ _ _ rfl R1.out ⟨w6.heap.size, 0, none⟩ 1 1 [.string ⟨s'.toArray⟩] rfl rfl (cells_newS _ _ (by first | rfl | simp) _ _) (string_one _) (by unfold maxLen; omega) (by omega) (by have := HLS.out; simp; omega) ?_)
            | fail)
          intro v2 w7 hown7 hg7 _
          obtain ⟨y1, y2, y3, vs, y4, y5, y6⟩ := R3.out w7 v2 hown7 hg7
          have Y5 : Hid _ := y5
          have Y6 : Hid _ := y6
          have HL7 : Hid (lo ≤ w7.heap.size) := Nat.le_trans HLS.out (Nat.le_trans (by simp) hg7.size)
          obtain ⟨p7, c7, rfl⟩ := own_slice hown7
          clear hown7 hg7 y5 y6
          go_wp2_with (first
            | (at_builtin; refine wpList_append_own _ rfl _ _ 81 rfl lo 103 i0 (.agg #[.int .i64 0, .int .i64 0, .slice none 0 0]) 3 40 Tryz.underlying81 HI.out HQ0.out HQ1.out HQ2.out rfl (by decide) _ _ _ rfl Y5.out ⟨w7.heap.size, 0, none⟩ 1 1 [.int .i64 c, .int .i64 i, .slice p4 L0 c4] rfl rfl (cells_newS _ _ (by first | rfl | simp) _ _) (entry_one _ _ _ _ _) (by unfold maxLen; omega) (by omega) (by have := HL7.out; simp; omega) ?_)
            | fail)
          intro v3 w8 hown8 hg8 _
          obtain ⟨z1, z2, z3, z4⟩ := Y6.out w8 v3 hown8 hg8
          have Z3 : Hid _ := z3
          have Z4 : Hid _ := z4
          obtain ⟨p8, c8, rfl⟩ := own_slice hown8
          clear hown8 hg8 z3 z4
          go_wp2
          go_ret
          exact ⟨rfl, Z3.out, Z4.out⟩
end Go.Proofs.YtfedgjnhanlmeabGreatDoor

namespace Go.Proofs.YtfedgjnhanlmeabGreatDoor
open Go.RowKit Go.Maps
set_option linter.unusedVariables false
attribute [local go_sem] Oper.semAt_some

def doD (l0 : Int) (t : List UInt8) (E : List SE) (D : List (List UInt8)) (rev : Int) (ps : List Pt) : List (List UInt8) := if doE l0 t E rev ps = 0 then D ++ [applyP (turnS ps (E.drop rev.toNat)) t] else D
theorem ref_none {lo n : Nat} {w w' : World} {b bm : Nat} {t : List UInt8} {D : List (List UInt8)} {E : List SE} {M : Told} {l0 : Int} {c i rev : Int} {ps : List Pt} (h : isRef lo n w b bm D E M) (hb : Below w.heap.size w w') (hd : doE l0 t E rev ps ≠ 0) :
    isRef lo n w' b bm (doD l0 t E D rev ps) (doL l0 t E c i rev ps) M ∧ sameBut w w' (touchR lo w bm) := by
  unfold doD doL
  rw [if_neg hd, if_neg hd]
  exact ⟨isRef_below h hb, sameBut_below hb _⟩
/-- The documents that there were, and the one that comes. -/
theorem okD_next {l0 : Int} {t : List UInt8} {E : List SE} {D : List (List UInt8)} (h : okS l0 t E) (hD : okD l0 t E D) {ps : List Pt} {c i rev : Int} (hp : putsP ps ≤ 40000) : okS l0 (doT l0 t E rev ps) (doL l0 t E c i rev ps) ∧ okD l0 (doT l0 t E rev ps) (doL l0 t E c i rev ps) (doD l0 t E D rev ps) := by
  unfold doT doL doD
  by_cases hd : doE l0 t E rev ps = 0
  · rw [if_pos hd, if_pos hd, if_pos hd]
    have hn := do_next (c := c) (i := i) h hp hd
    refine ⟨hn, ⟨by simp [hD.len], fun k hk => ?_, ?_⟩⟩
    · rw [List.length_append, List.length_singleton] at hk
      rcases Nat.lt_or_ge k (E.length + 1) with hlt | hge
      · obtain ⟨d, h1, h2⟩ := hD.at_ k (by omega)
        refine ⟨d, by rw [List.getElem?_append_left (by rw [hD.len]; exact hlt)]; exact h1, ?_⟩
        rw [List.take_append_of_le_length (by omega)]
        exact h2
      · obtain rfl : k = E.length + 1 := by omega
        refine ⟨_, by rw [List.getElem?_append_right (by rw [hD.len]; exact Nat.le_refl _), hD.len, Nat.sub_self]; rfl, ?_⟩
        have e : (E ++ [(⟨c, i, turnS ps (E.drop rev.toNat)⟩ : SE)]).take (E.length + 1) = E ++ [⟨c, i, turnS ps (E.drop rev.toNat)⟩] := List.take_of_length_le (by simp)
        rw [e]
        exact hn.last.symm
    · rw [List.length_append, List.length_singleton, List.getElem?_append_right (by rw [hD.len]; exact Nat.le_refl _), hD.len, Nat.sub_self]
      rfl
  · rw [if_neg hd, if_neg hd, if_neg hd]
    exact ⟨h, hD⟩
theorem refDoes_any {lo n : Nat} {w : World} {b bm : Nat} {t : List UInt8} {D : List (List UInt8)} {E : List SE} {M : Told} (h : isRef lo n w b bm D E M) {l0 : Int} (hk : okS l0 t E) (hD : okD l0 t E D) (c i rev : Int) (v : Value) (ps : List Pt) (hr : opX lo w v ps) (hwf : ∀ p ∈ ps, wfP p) (hsm : ∀ p ∈ ps, p.put.length ≤ 300) (hl : ps.length ≤ 100) (hpu : putsP ps ≤ 40000) (hn : E.length ≤ 100) :
    Calls Tryz.prog 112 #[.pointer (some ⟨b, 0, none⟩), .int .i64 c, .int .i64 i, .int .i64 rev, v] w fun e w' => e = .returned (.int .i64 (doE l0 t E rev ps)) ∧ isRef lo n w' b bm (doD l0 t E D rev ps) (doL l0 t E c i rev ps) M ∧ sameBut w w' (touchR lo w bm) := by
  by_cases h1 : rev < 0 ∨ (E.length : Int) < rev
  · have hd : doE l0 t E rev ps = 2 := if_pos h1
    refine (refDoes_range h c i rev v h1).mono ?_
    rintro e w' ⟨rfl, hb⟩
    exact ⟨by rw [hd], ref_none h hb (by rw [hd]; decide)⟩
  · obtain ⟨k, rfl⟩ : ∃ k : Nat, rev = (k : Int) := ⟨rev.toNat, by omega⟩
    have hkl : k ≤ E.length := by omega
    have ek : ((k : Int)).toNat = k := rfl
    have e2 : ¬ (300 ≤ E.length) := by omega
    by_cases hc : chkE ps (endE l0 (E.take k)) = 0
    · have CT : ∀ wx, Below w.heap.size w wx → Calls Tryz.prog 42 #[.pointer (some ⟨b, 0, none⟩)] wx fun e w' => e = .returned (.string ⟨t.toArray⟩) ∧ Below wx.heap.size wx w' := fun wx hb => refText_srv (isRef_below h hb) hD (by omega)
      obtain ⟨g1, g2, ⟨v0, v1, h3, h30, h4⟩, h5⟩ := id h
      obtain ⟨p, c1, rfl⟩ := isLog_shape h4
      obtain ⟨p0, c0, rfl⟩ := own_slice h30
      obtain ⟨d, hd, hdl⟩ := hD.at_ k hkl
      obtain ⟨g, rfl, _, hc0, hcm0, hgl, hcell⟩ := docs_at h30 hd
      obtain ⟨_, hc1, hcm, _⟩ := logAt_of h4
      have hle := end_take_le E l0 k hk.chain hk.pos hk.top
      have hin : inB (k : Int) 0 E.length = true := by unfold inB; simp; omega
      rw [hD.len] at h3 h30 hc0
      have S : RefStart lo n w b bm t D E k v ps g c0 p c1 d := by
        refine ⟨?_, ?_, Lib.cell_of_heap h3 0, Lib.cell_of_heap h3 1, hcell, (Array.getElem?_eq_some_iff.1 h3).1, hgl, logAt_cut (logAt_of h4) hkl⟩
        · have := in_any (k : Int) 0 E.length w; rw [hin] at this; exact this
        · have := refCheck_any v ps (d.length : Int) w hr.1 hwf (fun q hq => by have := hsm q hq; omega) (by omega) (by omega)
          rw [hdl, hc] at this
          rw [hdl]
          exact this
      by_cases ho : ordE (turnS ps (E.drop k)) t = 0
      · by_cases hz : 2000 < (applyP (turnS ps (E.drop k)) t).length
        · have hd : doE l0 t E k ps = 12 := by
            unfold doE
            rw [if_neg h1, if_neg e2, ek, if_neg (by rw [hc]; decide), if_neg (by rw [ho]; decide), if_pos hz]
          refine (refDoes_full (M := M) hk c i k v ps hr hpu hkl hn hc1 hc0 hcm hc S CT ho hz).mono ?_
          rintro e w' ⟨rfl, hb⟩
          exact ⟨by rw [hd], ref_none h hb (by rw [hd]; decide)⟩
        · have hd : doE l0 t E k ps = 0 := by
            unfold doE
            rw [if_neg h1, if_neg e2, ek, if_neg (by rw [hc]; decide), if_neg (by rw [ho]; decide), if_neg hz]
          refine (refDoes_ok hk c i k v ps hr hpu hkl hn hc1 hc0 hcm hc S CT ho (by omega) h hD.len h3 h30 h4).mono ?_
          rintro e w' ⟨rfl, ha, hb⟩
          refine ⟨by rw [hd], ?_, hb⟩
          unfold doD doL
          rw [if_pos hd, if_pos hd]
          exact ha
      · have hd : doE l0 t E k ps = ordE (turnS ps (E.drop k)) t := by
          unfold doE
          rw [if_neg h1, if_neg e2, ek, if_neg (by rw [hc]; decide), if_pos ho]
        refine (refDoes_apply (M := M) hk c i k v ps hr hpu hkl hn hc1 hc0 hcm hc S CT ho).mono ?_
        rintro e w' ⟨rfl, hb⟩
        exact ⟨by rw [hd], ref_none h hb (by rw [hd]; exact ho)⟩
    · have hd : doE l0 t E k ps = chkE ps (endE l0 (E.take k)) := by
        unfold doE
        rw [if_neg h1, if_neg e2, ek, if_pos hc]
      refine (refDoes_check h hk hD c i k v ps hr.1 hwf hsm hl hkl hn hc).mono ?_
      rintro e w' ⟨rfl, hb⟩
      exact ⟨by rw [hd], ref_none h hb (by rw [hd]; exact hc)⟩

theorem info_two : (Tryz.prog.info? 85).map (·.zero) = some (some (.agg #[.int .i64 0, .int .i64 0])) := by kernel_rfl
theorem got_some {M : Told} {c : Int} (h : 1 ≤ (got M c).1) : (M c).isSome = true := by
  unfold got at h
  cases e : M c with
  | none => rw [e] at h; exact absurd h (by decide)
  | some x => rfl
set_option maxRecDepth 100000 in
set_option maxHeartbeats 1000000 in
theorem refTake_old {lo n : Nat} {w : World} {b bm : Nat} {D : List (List UInt8)} {E : List SE} {M : Told} (h : isRef lo n w b bm D E M) (c i rev : Int) (hc : rng c) (v : Value) (h1 : 1 ≤ i) (hi : i ≤ (got M c).1) :
    Calls Tryz.prog 38 #[.pointer (some ⟨b, 0, none⟩), .int .i64 c, .int .i64 i, .int .i64 rev, v] w fun e w' => e = .returned (.int .i64 (if i < (got M c).1 then 8 else (got M c).2)) ∧ Below w.heap.size w w' := by
  obtain ⟨_, _, ⟨v0, v1, h3, _, _⟩, h5⟩ := h
  have x2 : w.cell? ⟨b, 2, none⟩ = some (.map (some bm)) := Lib.cell_of_heap h3 2
  have l := isLast_lookOk h5 (t := 82) Tryz.underlying82 (zero_of info_two w) hc
  rw [got_some (by omega)] at l
  have L : Hid _ := l
  obtain ⟨gp, hgp⟩ : ∃ x, got M c = x := ⟨_, rfl⟩
  rw [hgp] at hi L ⊢
  obtain ⟨g1, g2⟩ := gp
  simp only at hi L ⊢
  clear h3 h5 l hgp
  by_cases h2 : i < g1
  · rw [if_pos h2]
    go_enter Tryz.func38, Tryz.ntmps38
    go_wp2_with (first | (rw [L.out]) | fail)
    go_ret
    exact ⟨rfl, (Below.refl _ _).alloc (Nat.le_refl _) _⟩
  · rw [if_neg h2]
    go_enter Tryz.func38, Tryz.ntmps38
    go_wp2_with (first | (rw [L.out]) | fail)
    go_ret
    exact ⟨rfl, (Below.refl _ _).alloc (Nat.le_refl _) _⟩
end Go.Proofs.YtfedgjnhanlmeabGreatDoor
