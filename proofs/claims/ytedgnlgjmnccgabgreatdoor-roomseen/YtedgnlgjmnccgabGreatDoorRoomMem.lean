/-
  The program's room in memory: its struct, its clients' row, the clients, the server, the row of what is under way.
-/
import Derived.Test.YtedgnlgjmnccgabGreatDoorPkMem
import Derived.Test.YtedgnlgjmnccgabGreatDoorSrvTake
namespace Go.Proofs.YtedgnlgjmnccgabGreatDoor
open Go.RowKit Go.Maps
set_option linter.unusedVariables false

def ptrs (bs : List Nat) : List Value := bs.map fun b => .pointer (some ⟨b, 0, none⟩)
/-- Clients, each with blocks of its own. -/
structure isCls (lo : Nat) (w : World) (bs : List Nat) (cl : List (Int × Cl)) : Prop where
  len : bs.length = cl.length
  each : ∀ (k b : Nat) (q : Int × Cl), bs[k]? = some b → cl[k]? = some q → isCl lo w b (k : Int) q.1 q.2
  apart : ∀ (j k b b' : Nat), bs[j]? = some b → bs[k]? = some b' → j ≠ k → ∀ x, ownC w b x → ¬ ownC w b' x
structure isRoom (lo : Nat) (w : World) (r bx bmx : Nat) (bs : List Nat) (R : Rm) : Prop where
  low : lo ≤ r
  blk : ∃ vc vf, w.heap[r]? = some (.cells #[.pointer (some ⟨bx, 0, none⟩), vc, vf, .int .i64 (R.lost : Int)] 215 (0, 0)) ∧ w.ownsRow lo 93 1 vc bs.length (ptrs bs) ∧ isPks 219 lo w vf R.fl
  cls : isCls lo w bs R.cl
  srv : isSrv lo R.n w bx bmx R.t R.E R.M
/-- The blocks that are a room's alone. -/
def roomT (T : TypeId) : Prop := T = 215 ∨ T = 219 ∨ T = 93 ∨ T = 196 ∨ T = 105 ∨ T = 203 ∨ T = 23
def touchM (lo : Nat) (w : World) (bmx k : Nat) : Prop := lo ≤ k ∧ (k = bmx ∨ ∃ cs T, w.heap[k]? = some (.cells cs T (0, 0)) ∧ roomT T)
/-- The struct and the row of packets: blocks, and their types. -/
def touchF (lo : Nat) (w : World) (k : Nat) : Prop := lo ≤ k ∧ ∃ cs T, w.heap[k]? = some (.cells cs T (0, 0)) ∧ (T = 215 ∨ T = 219)
def ownF (w : World) (r k : Nat) : Prop := k = r ∨ ∃ v, w.cell? ⟨r, 2, none⟩ = some v ∧ v.ownBlock = some k
/-- What is sent, or taken out, changes: these; the row then is that, or new. -/
def keptF (w w' : World) (r : Nat) : Prop := sameBut w w' (ownF w r) ∧ ∀ k, ownF w' r k → ownF w r k ∨ w.heap.size ≤ k
theorem touchF_M {lo : Nat} {w w' : World} {bmx : Nat} (h : sameBut w w' (touchF lo w)) : sameBut w w' (touchM lo w bmx) := h.mono fun k _ ⟨a, cs, T, hc, hT⟩ => ⟨a, .inr ⟨cs, T, hc, by rcases hT with rfl | rfl <;> simp [roomT]⟩⟩
theorem ownF_below {w w' : World} {r k : Nat} (hr : r < w.heap.size) (hb : Below w.heap.size w w') (h : ownF w' r k) : ownF w r k := by
  rcases h with rfl | ⟨v, e, hk⟩
  · exact .inl rfl
  · exact .inr ⟨v, (hb.cell (p := ⟨r, 2, none⟩) hr).symm.trans e, hk⟩
theorem keptF_below {w w' : World} {r : Nat} (hr : r < w.heap.size) (hb : Below w.heap.size w w') : keptF w w' r := ⟨sameBut_below hb _, fun k hk => .inl (ownF_below hr hb hk)⟩
theorem keptF.trans {w w' w'' : World} {r : Nat} (h : keptF w w' r) (h' : keptF w' w'' r) : keptF w w'' r :=
  ⟨h.1.comp h'.1 fun k hk e => (h.2 k e).elim id fun hk' => absurd hk (by omega), fun k hk => (h'.2 k hk).elim (h.2 k) fun hk' => .inr (Nat.le_trans h.1.1 hk')⟩
theorem own_cells {lo e size n : Nat} {w : World} {v : Value} {xs : List Value} (h : w.ownsRow lo e size v n xs) {k : Nat} (hk : v.ownBlock = some k) : lo ≤ k ∧ k < w.heap.size ∧ ∃ cs, w.heap[k]? = some (.cells cs e (0, 0)) := by
  rcases h.2 with ⟨rfl, _⟩ | ⟨g, cap, cur, rfl, h3, h4, _⟩
  · cases hk
  · obtain rfl : g = k := Option.some.inj hk
    exact ⟨h3, (Array.getElem?_eq_some_iff.1 h4).1, _, h4⟩
/-- Clients are kept where what changes is none of theirs. -/
theorem isCls_but {lo : Nat} {w w' : World} {bs : List Nat} {cl : List (Int × Cl)} {X : Nat → Prop} (h : isCls lo w bs cl) (hs : sameBut w w' X) (hX : ∀ k, k < w.heap.size → X k → lo ≤ k ∧ noPart w k) (hn : ∀ b ∈ bs, ∀ k, X k → ¬ ownC w b k) : isCls lo w' bs cl := by
  have lt : ∀ (k b : Nat), bs[k]? = some b → b < w.heap.size := fun k b hb => by
    have hk : k < cl.length := by rw [← h.len]; exact (List.getElem?_eq_some_iff.1 hb).1
    exact isCl_lt (h.each k b cl[k] hb (List.getElem?_eq_getElem hk))
  refine ⟨h.len, fun k b q hb hq => isCl_but (h.each k b q hb hq) hs hX (hn b (List.mem_of_getElem? hb)), fun j k b b' hb hb' hjk x hx hx' => ?_⟩
  have hx := ownC_same hs (lt j b hb) (fun e => hn b (List.mem_of_getElem? hb) b e (.inl rfl)) hx
  have hx' := ownC_same hs (lt k b' hb') (fun e => hn b' (List.mem_of_getElem? hb') b' e (.inl rfl)) hx'
  exact h.apart j k b b' hb hb' hjk x hx hx'
theorem isCls_below {lo : Nat} {w w' : World} {bs : List Nat} {cl : List (Int × Cl)} (h : isCls lo w bs cl) (hb : Below w.heap.size w w') : isCls lo w' bs cl :=
  isCls_but (X := fun _ => False) h (sameBut_below hb _) (fun _ _ h => h.elim) fun _ _ _ h => h.elim
/-- One of them is turned. -/
theorem isCls_one {lo : Nat} {w w' : World} {bs : List Nat} {cl : List (Int × Cl)} {k b : Nat} {u : Int} {S : Cl} (h : isCls lo w bs cl) (hb : bs[k]? = some b) (hc : isCl lo w' b (k : Int) u S) (hk : keptC w w' b) : isCls lo w' bs (cl.set k (u, S)) := by
  obtain ⟨hs, hnew⟩ := hk
  have hq : ∀ (j b' : Nat), bs[j]? = some b' → ∃ q, cl[j]? = some q ∧ isCl lo w b' (j : Int) q.1 q.2 := fun j b' hb' => by
    have hj : j < cl.length := by rw [← h.len]; exact (List.getElem?_eq_some_iff.1 hb').1
    exact ⟨cl[j], List.getElem?_eq_getElem hj, h.each j b' cl[j] hb' (List.getElem?_eq_getElem hj)⟩
  obtain ⟨q, hqk, hcl⟩ := hq k b hb
  have hX : ∀ x, x < w.heap.size → ownC w b x → lo ≤ x ∧ noPart w x := fun x _ hx => ⟨(ownC_of hcl hx).1, ownC_noPart hcl hx⟩
  have old : ∀ (j b' : Nat), bs[j]? = some b' → j ≠ k → ∀ x, ownC w' b' x → ownC w b' x := fun j b' hb' hjk x hx => by
    obtain ⟨q', _, hc'⟩ := hq j b' hb'
    exact ownC_same hs (isCl_lt hc') (fun e => h.apart k j b b' hb hb' (Ne.symm hjk) b' e (.inl rfl)) hx
  refine ⟨by rw [h.len, List.length_set], fun j b' q' hb' hq' => ?_, fun i j c c' hc1 hc2 hij x hx hx' => ?_⟩
  · rw [List.getElem?_set] at hq'
    by_cases hjk : k = j
    · subst hjk
      rw [if_pos rfl] at hq'
      split at hq'
      · obtain rfl := Option.some.inj hq'
        rw [hb] at hb'
        obtain rfl := Option.some.inj hb'
        exact hc
      · cases hq'
    · rw [if_neg hjk] at hq'
      exact isCl_but (h.each j b' q' hb' hq') hs hX fun x hx hx' => h.apart k j b b' hb hb' hjk x hx hx'
  · by_cases hik : i = k
    · subst hik
      rw [hb] at hc1
      obtain rfl := Option.some.inj hc1
      have hx' := old j c' hc2 (Ne.symm hij) x hx'
      rcases hnew x hx with hx | hx
      · exact h.apart i j b c' hb hc2 hij x hx hx'
      · obtain ⟨q', _, hc'⟩ := hq j c' hc2
        exact absurd (ownC_of hc' hx').2.1 (by omega)
    · have hx := old i c hc1 hik x hx
      by_cases hjk : j = k
      · subst hjk
        rw [hb] at hc2
        obtain rfl := Option.some.inj hc2
        rcases hnew x hx' with hx' | hx'
        · exact h.apart i j c b hc1 hb hij x hx hx'
        · obtain ⟨q', _, hc'⟩ := hq i c hc1
          exact absurd (ownC_of hc' hx).2.1 (by omega)
      · exact h.apart i j c c' hc1 hc2 hij x hx (old j c' hc2 hjk x hx')
theorem cls_own {lo : Nat} {w : World} {bs : List Nat} {cl : List (Int × Cl)} (h : isCls lo w bs cl) {b : Nat} (hb : b ∈ bs) {k : Nat} (hk : ownC w b k) : lo ≤ k ∧ k < w.heap.size ∧ ∃ cs T, w.heap[k]? = some (.cells cs T (0, 0)) ∧ (T = 203 ∨ T = 23) := by
  obtain ⟨j, hj⟩ := List.mem_iff_getElem?.1 hb
  have hjl : j < cl.length := by rw [← h.len]; exact (List.getElem?_eq_some_iff.1 hj).1
  exact ownC_of (h.each j b cl[j] hj (List.getElem?_eq_getElem hjl)) hk
/-- A room is kept where what changes is none of its blocks. -/
theorem isRoom_but {lo : Nat} {w w' : World} {r bx bmx : Nat} {bs : List Nat} {R : Rm} {X : Nat → Prop} (h : isRoom lo w r bx bmx bs R) (hs : sameBut w w' X) (hX : ∀ k, k < w.heap.size → X k → lo ≤ k ∧ noPart w k ∧ k ≠ bmx ∧ ∀ cs T fz, w.heap[k]? = some (.cells cs T fz) → ¬ roomT T) : isRoom lo w' r bx bmx bs R := by
  obtain ⟨h1, ⟨vc, vf, h2, h3, h4⟩, h5, h6⟩ := h
  have hr : ∀ k cs T, w.heap[k]? = some (.cells cs T (0, 0)) → roomT T → ¬ X k := fun k cs T hk hT hXk => (hX k (Array.getElem?_eq_some_iff.1 hk).1 hXk).2.2.2 cs T _ hk hT
  refine ⟨h1, ⟨vc, vf, (hs.2 r (Array.getElem?_eq_some_iff.1 h2).1 (hr r _ _ h2 (.inl rfl))).trans h2, own_same h3 hs fun k hk => ?_, isPks_but h4 hs fun k hk hXk => ?_⟩, isCls_but h5 hs (fun k hk hXk => ⟨(hX k hk hXk).1, (hX k hk hXk).2.1⟩) fun b hb k hXk hk => ?_, ?_⟩
  · obtain ⟨_, _, cs, hc⟩ := own_cells h3 hk
    exact hr k cs _ hc (.inr (.inr (.inl rfl)))
  · exact ⟨(hX k hk hXk).1, (hX k hk hXk).2.1, fun cs fz hc => (hX k hk hXk).2.2.2 cs _ fz hc (.inr (.inl rfl))⟩
  · obtain ⟨_, _, cs, T, hc, hT⟩ := cls_own h5 hb hk
    exact hr k cs T hc (by rcases hT with rfl | rfl <;> simp [roomT]) hXk
  · obtain ⟨g1, g2, ⟨v1, g3, g4⟩, g5⟩ := h6
    refine ⟨g1, g2, ⟨v1, (hs.2 bx (Array.getElem?_eq_some_iff.1 g3).1 (hr bx _ _ g3 (.inr (.inr (.inr (.inl rfl)))))).trans g3, ?_⟩, isLast_but g5 hs fun hk => (hX bmx (isLast_lt g5) hk).2.2.1 rfl⟩
    refine isLog_but (S := fun k => k < w.heap.size ∧ X k) g4 ⟨hs.1, fun k hk hn => hs.2 k hk fun e => hn ⟨hk, e⟩, hs.os, hs.tape, hs.output⟩ fun k hk => ?_
    exact ⟨(hX k hk.1 hk.2).1, (hX k hk.1 hk.2).2.1, fun cs fz hc => (hX k hk.1 hk.2).2.2.2 cs _ fz hc (.inr (.inr (.inr (.inr (.inl rfl)))))⟩
theorem isRoom_below {lo : Nat} {w w' : World} {r bx bmx : Nat} {bs : List Nat} {R : Rm} (h : isRoom lo w r bx bmx bs R) (hb : Below w.heap.size w w') : isRoom lo w' r bx bmx bs R :=
  isRoom_but (X := fun _ => False) h (sameBut_below hb _) fun _ _ h => h.elim
theorem isRoom_lt {lo : Nat} {w : World} {r bx bmx : Nat} {bs : List Nat} {R : Rm} (h : isRoom lo w r bx bmx bs R) : r < w.heap.size := by
  obtain ⟨_, ⟨vc, vf, h2, _⟩, _⟩ := h
  exact (Array.getElem?_eq_some_iff.1 h2).1
theorem isRoom_cells {lo : Nat} {w : World} {r bx bmx : Nat} {bs : List Nat} {R : Rm} (h : isRoom lo w r bx bmx bs R) : ∃ pc cc pf cf, w.heap[r]? = some (.cells #[.pointer (some ⟨bx, 0, none⟩), .slice pc bs.length cc, .slice pf R.fl.length cf, .int .i64 (R.lost : Int)] 215 (0, 0)) ∧ w.ownsRow lo 93 1 (.slice pc bs.length cc) bs.length (ptrs bs) ∧ isPks 219 lo w (.slice pf R.fl.length cf) R.fl := by
  obtain ⟨_, ⟨vc, vf, h2, h3, h4⟩, _⟩ := h
  obtain ⟨pc, cc, rfl⟩ := own_slice h3
  obtain ⟨pf, cf, rfl⟩ := isPks_shape h4
  exact ⟨pc, cc, pf, cf, h2, h3, h4⟩
/-- One client's call. -/
theorem isRoom_client {lo : Nat} {w w' : World} {r bx bmx : Nat} {bs : List Nat} {R : Rm} {k b : Nat} {S : Cl} (h : isRoom lo w r bx bmx bs R) (hb : bs[k]? = some b) (hc : isCl lo w' b (k : Int) (clK R k).1 S) (hk : keptC w w' b) : isRoom lo w' r bx bmx bs (setC R k S) ∧ sameBut w w' (touchM lo w bmx) := by
  obtain ⟨h1, ⟨vc, vf, h2, h3, h4⟩, h5, h6⟩ := h
  have hown := fun x (hx : ownC w b x) => cls_own h5 (List.mem_of_getElem? hb) hx
  have hty : ∀ x cs T fz, w.heap[x]? = some (.cells cs T fz) → ownC w b x → T = 203 ∨ T = 23 := fun x cs T fz hx ho => by
    obtain ⟨_, _, cs', T', hc', hT⟩ := hown x ho
    rw [not_type hx hc']; exact hT
  refine ⟨⟨h1, ⟨vc, vf, (hk.1.2 r (Array.getElem?_eq_some_iff.1 h2).1 fun e => ?_).trans h2, own_same h3 hk.1 fun x hx e => ?_, isPks_but h4 hk.1 fun x hx e => ?_⟩, isCls_one h5 hb hc hk, isSrv_other h6 hk.1 fun x hx e => ?_⟩, hk.1.mono fun x hx e => ?_⟩
  · rcases hty r _ _ _ h2 e with e | e <;> revert e <;> decide
  · obtain ⟨_, _, cs, hcs⟩ := own_cells h3 hx
    rcases hty x _ _ _ hcs e with e | e <;> revert e <;> decide
  · obtain ⟨a, _, cs, T, hc', hT⟩ := hown x e
    refine ⟨a, noPart_of hc' (by rcases hT with rfl | rfl <;> decide), fun cs' fz hcs => ?_⟩
    rcases hty x _ _ _ hcs e with e | e <;> revert e <;> decide
  · obtain ⟨a, _, cs, T, hc', hT⟩ := hown x e
    exact ⟨a, cs, T, _, hc', by rcases hT with rfl | rfl <;> decide, by rcases hT with rfl | rfl <;> decide, by rcases hT with rfl | rfl <;> decide⟩
  · obtain ⟨a, _, cs, T, hc', hT⟩ := hown x e
    exact ⟨a, .inr ⟨cs, T, hc', by rcases hT with rfl | rfl <;> simp [roomT]⟩⟩
/-- The server's call. -/
theorem isRoom_srv {lo : Nat} {w w' : World} {r bx bmx : Nat} {bs : List Nat} {R R' : Rm} (h : isRoom lo w r bx bmx bs R) (hs : isSrv lo R'.n w' bx bmx R'.t R'.E R'.M) (hk : sameBut w w' (touchS lo w bmx)) (ec : R'.cl = R.cl) (ef : R'.fl = R.fl) (el : R'.lost = R.lost) : isRoom lo w' r bx bmx bs R' ∧ sameBut w w' (touchM lo w bmx) := by
  obtain ⟨h1, ⟨vc, vf, h2, h3, h4⟩, h5, h6⟩ := h
  have hno : ∀ x cs T fz, w.heap[x]? = some (.cells cs T fz) → T ≠ 196 → T ≠ 105 → ¬ touchS lo w bmx x := fun x cs T fz hx t1 t2 e => by
    rcases e.2 with rfl | ⟨cs', T', hc', hT⟩
    · exact noCells_map h6.2.2.2 _ _ _ hx
    · have := not_type hx hc'
      subst this
      rcases hT with e | e
      · exact t1 e
      · exact t2 e
  have hnp : ∀ x, touchS lo w bmx x → lo ≤ x ∧ noPart w x := fun x e => by
    refine ⟨e.1, ?_⟩
    rcases e.2 with rfl | ⟨cs', T', hc', hT⟩
    · exact fun cs fz => noCells_map h6.2.2.2 cs _ fz
    · exact noPart_of hc' (by rcases hT with rfl | rfl <;> decide)
  rw [← el] at h2
  rw [← ef] at h4
  rw [← ec] at h5
  refine ⟨⟨h1, ⟨vc, vf, (hk.2 r (Array.getElem?_eq_some_iff.1 h2).1 (hno r _ _ _ h2 (by decide) (by decide))).trans h2, own_same h3 hk fun x hx => ?_, isPks_but h4 hk fun x hx e => ⟨(hnp x e).1, (hnp x e).2, fun cs fz hc => hno x _ _ _ hc (by decide) (by decide) e⟩⟩, isCls_but h5 hk (fun x _ e => hnp x e) fun b hb x e hx => ?_, hs⟩, hk.mono fun x hx e => ?_⟩
  · obtain ⟨_, _, cs, hcs⟩ := own_cells h3 hx
    exact hno x _ _ _ hcs (by decide) (by decide)
  · obtain ⟨_, _, cs, T, hc, hT⟩ := cls_own h5 hb hx
    exact hno x _ _ _ hc (by rcases hT with rfl | rfl <;> decide) (by rcases hT with rfl | rfl <;> decide) e
  · exact ⟨e.1, e.2.imp id fun ⟨cs, T, hc, hT⟩ => ⟨cs, T, hc, by rcases hT with rfl | rfl <;> simp [roomT]⟩⟩
/-- The struct's row of packets, and what was lost, are others. -/
theorem isRoom_flight {lo : Nat} {w w' : World} {r bx bmx : Nat} {bs : List Nat} {R R' : Rm} {X : Nat → Prop} {vc vf : Value} (h : isRoom lo w r bx bmx bs R) (h2 : w'.heap[r]? = some (.cells #[.pointer (some ⟨bx, 0, none⟩), vc, vf, .int .i64 (R'.lost : Int)] 215 (0, 0))) (hc : ∃ a b c, w.heap[r]? = some (.cells #[a, vc, b, c] 215 (0, 0)))
    (h4 : isPks 219 lo w' vf R'.fl) (hs : sameBut w w' X) (hX : ∀ k, k < w.heap.size → X k → lo ≤ k ∧ ∃ cs T, w.heap[k]? = some (.cells cs T (0, 0)) ∧ (T = 215 ∨ T = 219)) (e1 : R'.n = R.n) (e2 : R'.t = R.t) (e3 : R'.E = R.E) (e4 : R'.M = R.M) (e5 : R'.cl = R.cl) : isRoom lo w' r bx bmx bs R' := by
  obtain ⟨h1, ⟨vc0, vf0, g2, g3, g4⟩, h5, h6⟩ := h
  have evc : vc0 = vc := by
    obtain ⟨a, b, c, hc⟩ := hc
    rw [g2] at hc
    injection hc with hc
    injection hc with hc
    have := congrArg (fun x : Array Value => x[1]?) hc
    simpa using this
  subst evc
  have hno : ∀ x cs T fz, x < w.heap.size → w.heap[x]? = some (.cells cs T fz) → T ≠ 215 → T ≠ 219 → ¬ X x := fun x cs T fz hlt hx t1 t2 e => by
    obtain ⟨_, cs', T', hc', hT⟩ := hX x hlt e
    have := not_type hx hc'
    subst this
    rcases hT with e | e
    · exact t1 e
    · exact t2 e
  refine ⟨h1, ⟨vc0, vf, h2, own_same g3 hs fun x hx => ?_, h4⟩, ?_, ?_⟩
  · obtain ⟨_, hlt, cs, hcs⟩ := own_cells g3 hx
    exact hno x _ _ _ hlt hcs (by decide) (by decide)
  · rw [e5]
    refine isCls_but h5 hs (fun x hx e => ?_) fun b hb x e hx => ?_
    · obtain ⟨a, cs, T, hc, hT⟩ := hX x hx e
      exact ⟨a, noPart_of hc (by rcases hT with rfl | rfl <;> decide)⟩
    · obtain ⟨_, hlt, cs, T, hc, hT⟩ := cls_own h5 hb hx
      exact hno x _ _ _ hlt hc (by rcases hT with rfl | rfl <;> decide) (by rcases hT with rfl | rfl <;> decide) e
  · rw [e1, e2, e3, e4]
    refine isSrv_other h6 hs fun x hx e => ?_
    obtain ⟨a, cs, T, hc, hT⟩ := hX x hx e
    exact ⟨a, cs, T, _, hc, by rcases hT with rfl | rfl <;> decide, by rcases hT with rfl | rfl <;> decide, by rcases hT with rfl | rfl <;> decide⟩
theorem ownF_of {lo : Nat} {w : World} {r bx bmx : Nat} {bs : List Nat} {R : Rm} (h : isRoom lo w r bx bmx bs R) {k : Nat} (hk : ownF w r k) : lo ≤ k ∧ k < w.heap.size ∧ ∃ cs T, w.heap[k]? = some (.cells cs T (0, 0)) ∧ (T = 215 ∨ T = 219) := by
  obtain ⟨h1, ⟨vc, vf, h2, h3, h4⟩, _, _⟩ := h
  rcases hk with rfl | ⟨v, e, hk⟩
  · exact ⟨h1, (Array.getElem?_eq_some_iff.1 h2).1, _, _, h2, .inl rfl⟩
  · have x2 : w.cell? ⟨r, 2, none⟩ = some vf := Lib.cell_of_heap h2 2
    rw [x2] at e
    obtain rfl := Option.some.inj e
    obtain ⟨a, b, cs, hc⟩ := isPks_own h4 hk
    exact ⟨a, b, cs, _, hc, .inr rfl⟩
theorem keptF.touch {lo : Nat} {w w' : World} {r bx bmx : Nat} {bs : List Nat} {R : Rm} (hf : keptF w w' r) (h : isRoom lo w r bx bmx bs R) : sameBut w w' (touchF lo w) := hf.1.mono fun k _ hk => by
  obtain ⟨a, _, cs, T, hc, hT⟩ := ownF_of h hk
  exact ⟨a, cs, T, hc, hT⟩
end Go.Proofs.YtedgnlgjmnccgabGreatDoor
