/-
  What RoomSeen uses: the texts that were, in a row.
-/
import Derived.Test.YtedgnlgjmnccgabGreatDoorKeepMeetsAny
namespace Go.Proofs.YtedgnlgjmnccgabGreatDoor
open Go.RowKit Go.Maps
set_option linter.unusedVariables false

def strRow (D : List (List UInt8)) : List Value := D.map fun d => .string ⟨d.toArray⟩
theorem strRow_snoc (D : List (List UInt8)) (d : List UInt8) : strRow D ++ [.string ⟨d.toArray⟩] = strRow (D ++ [d]) := by unfold strRow; simp
theorem strRow_get {D : List (List UInt8)} {i : Nat} {d : List UInt8} (h : D[i]? = some d) : (strRow D)[i]? = some (.string ⟨d.toArray⟩) := by unfold strRow; rw [List.getElem?_map, h]; rfl
theorem no_roomT : ¬ roomT 9 := by unfold roomT; decide
theorem row_touch {lo bmx n r bx : Nat} {bs : List Nat} {R : Rm} {w w' : World} {v : Value} {xs : List Value} (hr : isRoom lo w r bx bmx bs R) (h : w.ownsRow lo 9 1 v n xs) (hs : sameBut w w' (touchM lo w bmx)) : w'.ownsRow lo 9 1 v n xs :=
  own_same h hs fun k hk e => by
    obtain ⟨_, _, cs, hc⟩ := own_cells h hk
    rcases e.2 with rfl | ⟨cs', T', hc', hT⟩
    · exact noCells_map hr.srv.2.2.2 _ _ _ hc
    · have := not_type hc hc'
      subst this
      exact no_roomT hT
theorem Rl.row {lo : Nat} {w0 : World} {r bx bmx : Nat} {bs : List Nat} {l0 : Int} {k : Nat} {D : List (List UInt8)} {R : Rm} {w w' : World} (h : Rl lo w0 r bx bmx bs l0 k D R w) {v : Value} {n : Nat} {xs : List Value} (ho : w.ownsRow lo 9 1 v n xs) (hg : w.grownBy w' v.ownBlock) : Rl lo w0 r bx bmx bs l0 k D R w' := by
  have hs : sameBut w w' fun k => v.ownBlock = some k := sameBut_grown hg fun k e => e
  have hX : ∀ k, v.ownBlock = some k → lo ≤ k ∧ ∃ cs, w.heap[k]? = some (.cells cs 9 (0, 0)) := fun k hk => ⟨(own_cells ho hk).1, (own_cells ho hk).2.2⟩
  refine ⟨isRoom_but h.room hs fun k hlt hk => ?_, h.low.trans ⟨hs.os, hs.tape, hs.output, hs.size, fun k hlt => hs.block k (Nat.lt_of_lt_of_le hlt h.le) fun e => absurd (hX k e).1 (Nat.not_le.2 hlt)⟩, h.env.same hs fun k hk => (hX k hk).1, Nat.le_trans h.le hs.size, h.inv, h.inv2, h.pot⟩
  obtain ⟨a, cs, hc⟩ := hX k hk
  refine ⟨a, noPart_of hc (by decide), fun e => ?_, fun cs' T fz hc' hT => ?_⟩
  · subst e; exact noCells_map h.room.srv.2.2.2 _ _ _ hc
  · have := not_type hc hc'
    subst this
    exact no_roomT hT
/-- The room, and the row of what was. -/
structure Sn (lo : Nat) (w0 : World) (r bx bmx : Nat) (bs : List Nat) (l0 : Int) (k : Nat) (D : List (List UInt8)) (R : Rm) (v : Value) (w : World) : Prop where
  rl : Rl lo w0 r bx bmx bs l0 k D R w
  was : w.ownsRow lo 9 1 v D.length (strRow D)
theorem Sn.grow {lo : Nat} {w0 : World} {r bx bmx : Nat} {bs : List Nat} {l0 : Int} {k : Nat} {D : List (List UInt8)} {R : Rm} {v : Value} {w w' : World} (h : Sn lo w0 r bx bmx bs l0 k D R v w) (hb : Below w.heap.size w w') : Sn lo w0 r bx bmx bs l0 k D R v w' := ⟨h.rl.grow hb, own_below h.was hb⟩
theorem Rl.later {lo : Nat} {w0 : World} {r bx bmx : Nat} {bs : List Nat} {l0 : Int} {k k' : Nat} {D : List (List UInt8)} {R : Rm} {w : World} (h : Rl lo w0 r bx bmx bs l0 k D R w) (hk : k ≤ k') : Rl lo w0 r bx bmx bs l0 k' D R w :=
  ⟨h.room, h.low, h.env, h.le, by obtain ⟨n, a, b⟩ := h.inv; exact ⟨n, by omega, b⟩, h.inv2, by have := h.pot; omega⟩
theorem Sn.plays {lo : Nat} {w0 : World} {r bx bmx : Nat} {bs : List Nat} {l0 : Int} {k : Nat} {D : List (List UInt8)} {R : Rm} {u : Value} {w : World} (H : Sn lo w0 r bx bmx bs l0 k D R u w) (hk : k ≤ 1000) (h1 : 1 ≤ bs.length) (h6 : bs.length ≤ 6) (q : Sa) (hq : sayWf q) (h5 : q.a ≠ 5) (v : Value) (hv : opAt w v q.op) :
    Calls Tryz.prog 79 #[.pointer (some ⟨r, 0, none⟩), .int .i64 (bs.length : Int), .agg #[.int .i64 q.a, .int .i64 q.b, .int .i64 q.c, v]] w fun e w' => e = .returned (.bool true) ∧ ∃ R' D', Rl lo w0 r bx bmx bs l0 (k + 1) D' R' w' ∧ R'.cl.length = R.cl.length ∧ (D' = D ∨ D' = D ++ [R'.t]) ∧ w'.ownsRow lo 9 1 u D.length (strRow D) := by
  have h := H.rl
  obtain ⟨n, hn, hi⟩ := h.inv
  have hp := h.pot
  refine (plays_any (⟨h.env, h.room, hi, h.inv2, by omega, by omega, h1, h6⟩ : Rok lo w r bx bmx bs l0 n D R) q.a q.b q.c hq.1.2.1 hq.1.2.2 v q.op hv (fun p hp hs => hq.2 p hp (by omega))).mono ?_
  rintro e w' ⟨rfl, hs, R', hr, n', D', c1, c2, c3, c4, c5, c6, c7⟩
  exact ⟨rfl, R', D', ⟨hr, low_touch h.low h.le hs, h.env.room hs, Nat.le_trans h.le hs.size, ⟨n', by omega, c1⟩, c2, by omega⟩, c5, c7 h5, row_touch h.room H.was hs⟩
/-- What the laws ask of a room: its texts. -/
theorem Rl.docs {lo : Nat} {w0 : World} {r bx bmx : Nat} {bs : List Nat} {l0 : Int} {k : Nat} {D : List (List UInt8)} {R : Rm} {w : World} (h : Rl lo w0 r bx bmx bs l0 k D R w) : D.length = R.E.length + 1 ∧ D[R.E.length]? = some R.t ∧ V R.t ∧ R.t.length ≤ 2000 ∧ R.E.length ≤ 300 := by
  obtain ⟨n, _, i⟩ := h.inv
  exact ⟨i.docs.len, i.docs.last, i.srv.text, i.srv.room, i.few⟩
/-- And of a client. -/
theorem Rl.client {lo : Nat} {w0 : World} {r bx bmx : Nat} {bs : List Nat} {l0 : Int} {k : Nat} {D : List (List UInt8)} {R : Rm} {w : World} (h : Rl lo w0 r bx bmx bs l0 k D R w) {c : Nat} (hc : c < R.cl.length) : 0 ≤ (clK R c).2.rev ∧ (clK R c).2.rev < (D.length : Int) ∧ D[(clK R c).2.rev.toNat]? = some (clK R c).2.seen ∧ ((clK R c).2.mine = [] → (clK R c).2.doc = (clK R c).2.seen) := by
  obtain ⟨n, _, i⟩ := h.inv
  obtain ⟨_, q⟩ := i.clk hc
  refine ⟨q.rev, ?_, q.seen, fun e => ?_⟩
  · have := (List.getElem?_eq_some_iff.1 q.seen).1
    have := q.rev
    omega
  · rw [q.ok.doc, e]; rfl
end Go.Proofs.YtedgnlgjmnccgabGreatDoor
