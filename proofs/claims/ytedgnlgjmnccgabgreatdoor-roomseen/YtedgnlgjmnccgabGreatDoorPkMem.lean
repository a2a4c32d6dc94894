/-
  Packets in memory: a row of them (the program's, the document's).
-/
import Derived.Test.YtedgnlgjmnccgabGreatDoorRoomP
import Derived.Test.YtedgnlgjmnccgabGreatDoorClMem
namespace Go.Proofs.YtedgnlgjmnccgabGreatDoor
open Go.RowKit Go.Maps
set_option linter.unusedVariables false

def pkCells (p : Pk) (v : Value) : List Value := [.int .i64 p.kind, .int .i64 (p.c : Int), .int .i64 p.rev, .int .i64 p.id, .int .i64 p.x.c, .int .i64 p.x.i, v]
def pkC (ps : List Pk) (vs : List Value) : List Value := (ps.zip vs).flatMap fun x => pkCells x.1 x.2
theorem pkC_len : ∀ (ps : List Pk) (vs : List Value), vs.length = ps.length → (pkC ps vs).length = ps.length * 7
  | [], [], _ => rfl
  | x :: E, v :: vs, h => by
    have ih := pkC_len E vs (by simpa using h)
    have e : pkC (x :: E) (v :: vs) = pkCells x v ++ pkC E vs := rfl
    rw [e, List.length_append, ih]; simp [pkCells]; omega
theorem pkC_get : ∀ (ps : List Pk) (vs : List Value) (i : Nat) (x : Pk) (v : Value), ps[i]? = some x → vs[i]? = some v → ∀ j, j < 7 → (pkC ps vs)[i * 7 + j]? = (pkCells x v)[j]?
  | [], _, _, _, _, h, _, _, _ => by simp at h
  | _ :: _, [], _, _, _, _, h, _, _ => by simp at h
  | y :: E, u :: vs, 0, x, v, h, h2, j, hj => by
    obtain rfl : y = x := by simpa using h
    obtain rfl : u = v := by simpa using h2
    have e : pkC (y :: E) (u :: vs) = pkCells y u ++ pkC E vs := rfl
    rw [e, Nat.zero_mul, Nat.zero_add, List.getElem?_append_left (by simp [pkCells]; omega)]
  | y :: E, u :: vs, i + 1, x, v, h, h2, j, hj => by
    have ih := pkC_get E vs i x v (by simpa using h) (by simpa using h2) j hj
    have e : pkC (y :: E) (u :: vs) = pkCells y u ++ pkC E vs := rfl
    have hl : (pkCells y u).length = 7 := rfl
    rw [e, show (i + 1) * 7 + j = (pkCells y u).length + (i * 7 + j) by rw [hl]; omega, List.getElem?_append_right (Nat.le_add_right _ _), Nat.add_sub_cancel_left]
    exact ih
theorem pkC_app (a b : List Pk) (vs us : List Value) (h : vs.length = a.length) : pkC (a ++ b) (vs ++ us) = pkC a vs ++ pkC b us := by
  unfold pkC
  rw [List.zip_append h.symm, List.flatMap_append]
theorem pkC_take : ∀ (ps : List Pk) (vs : List Value) (i : Nat), vs.length = ps.length → (pkC ps vs).take (i * 7) = pkC (ps.take i) (vs.take i)
  | _, _, 0, _ => by simp [pkC]
  | [], [], i + 1, _ => by simp [pkC]
  | x :: ps, v :: vs, i + 1, h => by
    have ih := pkC_take ps vs i (by simpa using h)
    have e : pkC (x :: ps) (v :: vs) = pkCells x v ++ pkC ps vs := rfl
    have e2 : pkC ((x :: ps).take (i + 1)) ((v :: vs).take (i + 1)) = pkCells x v ++ pkC (ps.take i) (vs.take i) := rfl
    have hl : (pkCells x v).length = 7 := rfl
    rw [e, e2, List.take_append, hl, List.take_of_length_le (by rw [hl]; omega), show (i + 1) * 7 - 7 = i * 7 by omega, ih]
theorem pkC_drop : ∀ (ps : List Pk) (vs : List Value) (i : Nat), vs.length = ps.length → (pkC ps vs).drop (i * 7) = pkC (ps.drop i) (vs.drop i)
  | _, _, 0, _ => by simp
  | [], [], i + 1, _ => by simp [pkC]
  | x :: ps, v :: vs, i + 1, h => by
    have ih := pkC_drop ps vs i (by simpa using h)
    have e : pkC (x :: ps) (v :: vs) = pkCells x v ++ pkC ps vs := rfl
    have hl : (pkCells x v).length = 7 := rfl
    rw [e, List.drop_append, hl, List.drop_eq_nil_of_le (by rw [hl]; omega), show (i + 1) * 7 - 7 = i * 7 by omega, List.nil_append]
    exact ih
/-- A row of packets. -/
def isPks (e : TypeId) (lo : Nat) (w : World) (v1 : Value) (ps : List Pk) : Prop :=
  ∃ vs, vs.length = ps.length ∧ w.ownsRow lo e 7 v1 ps.length (pkC ps vs) ∧ ∀ (i : Nat) (x : Pk) (v : Value), ps[i]? = some x → vs[i]? = some v → opX lo w v x.x.op
theorem isPks_but {e lo : Nat} {w w' : World} {v1 : Value} {ps : List Pk} {S : Nat → Prop} (h : isPks e lo w v1 ps) (hs : sameBut w w' S) (hS : ∀ k, k < w.heap.size → S k → lo ≤ k ∧ noPart w k ∧ ∀ cs fz, w.heap[k]? ≠ some (.cells cs e fz)) : isPks e lo w' v1 ps := by
  obtain ⟨vs, h1, h2, h3⟩ := h
  refine ⟨vs, h1, own_same h2 hs fun k hk hSk => ?_, fun i x v hx hv => opX_same (h3 i x v hx hv) hs fun k hk hSk => ⟨(hS k hk hSk).1, (hS k hk hSk).2.1⟩⟩
  rcases h2.2 with ⟨rfl, _⟩ | ⟨g, cap, cur, rfl, _, hg, _⟩
  · cases hk
  · obtain rfl : g = k := Option.some.inj hk
    exact (hS g (Array.getElem?_eq_some_iff.1 hg).1 hSk).2.2 _ _ hg
theorem isPks_below {e lo : Nat} {w w' : World} {v1 : Value} {ps : List Pk} (h : isPks e lo w v1 ps) (hb : Below w.heap.size w w') : isPks e lo w' v1 ps :=
  isPks_but (S := fun _ => False) h (sameBut_below hb _) fun _ _ h => h.elim
theorem isPks_shape {e lo : Nat} {w : World} {v1 : Value} {ps : List Pk} (h : isPks e lo w v1 ps) : ∃ p c, v1 = .slice p ps.length c := by
  obtain ⟨vs, _, h2, _⟩ := h
  exact own_slice h2
theorem isPks_own {e lo : Nat} {w : World} {v1 : Value} {ps : List Pk} (h : isPks e lo w v1 ps) {k : Nat} (hk : v1.ownBlock = some k) : lo ≤ k ∧ k < w.heap.size ∧ ∃ cs, w.heap[k]? = some (.cells cs e (0, 0)) := by
  obtain ⟨vs, _, h2, _⟩ := h
  rcases h2.2 with ⟨rfl, _⟩ | ⟨g, cap, cur, rfl, h3, h4, _⟩
  · cases hk
  · obtain rfl : g = k := Option.some.inj hk
    exact ⟨h3, (Array.getElem?_eq_some_iff.1 h4).1, _, h4⟩
theorem isPks_nil (e lo : Nat) (w : World) : isPks e lo w (.slice none 0 0) [] := ⟨[], rfl, World.ownsRow_nil _ _ _ _, fun i x v hx => by simp at hx⟩
/-- A packet's cells. -/
theorem isPks_at {e lo : Nat} {w : World} {p : Option Addr} {n c : Nat} {ps : List Pk} (h : isPks e lo w (.slice p n c) ps) (hne : ps ≠ []) : ∃ g, p = some ⟨g, 0, none⟩ ∧ g < w.heap.size ∧ n = ps.length ∧ n ≤ c ∧ c ≤ maxLen ∧ ∀ i x, ps[i]? = some x → ∃ v, w.cell? ⟨g, i * 7, none⟩ = some (.int .i64 x.kind) ∧ w.cell? ⟨g, i * 7 + 1, none⟩ = some (.int .i64 (x.c : Int)) ∧ w.cell? ⟨g, i * 7 + 2, none⟩ = some (.int .i64 x.rev) ∧ w.cell? ⟨g, i * 7 + 3, none⟩ = some (.int .i64 x.id) ∧ w.cell? ⟨g, i * 7 + 4, none⟩ = some (.int .i64 x.x.c) ∧ w.cell? ⟨g, i * 7 + 5, none⟩ = some (.int .i64 x.x.i) ∧ w.cell? ⟨g, i * 7 + 6, none⟩ = some v ∧ opX lo w v x.x.op := by
  obtain ⟨vs, h1, ⟨h0, hrow⟩, h3⟩ := h
  rcases hrow with ⟨_, hz⟩ | ⟨g, cap, cur, hv, h4, h5, h6, h7, h8, h9⟩
  · exact absurd (List.eq_nil_of_length_eq_zero hz) hne
  · injection hv with hp hn hc
    subst hp hn hc
    refine ⟨g, rfl, (Array.getElem?_eq_some_iff.1 h5).1, rfl, h6, h7, fun i x hx => ?_⟩
    have hi : i < ps.length := (List.getElem?_eq_some_iff.1 hx).1
    have hiv : i < vs.length := by omega
    have hv : vs[i]? = some vs[i] := List.getElem?_eq_getElem hiv
    have hk := pkC_get ps vs i x vs[i] hx hv
    have hc : ∀ j u, j < 7 → (pkCells x vs[i])[j]? = some u → w.cell? ⟨g, i * 7 + j, none⟩ = some u := fun j u hj hu => by
      have hcur : cur[i * 7 + j]? = some u := by
        rw [← Array.getElem?_toList]
        have := congrArg (·[i * 7 + j]?) h9
        simp only [List.getElem?_take, show i * 7 + j < ps.length * 7 by omega, if_true] at this
        rw [this, hk j hj, hu]
      unfold World.cell?
      simp [h5, hcur]
    exact ⟨vs[i], hc 0 _ (by omega) rfl, hc 1 _ (by omega) rfl, hc 2 _ (by omega) rfl, hc 3 _ (by omega) rfl, hc 4 _ (by omega) rfl, hc 5 _ (by omega) rfl, hc 6 _ (by omega) rfl, h3 i x vs[i] hx hv⟩
/-- A packet more. -/
theorem isPks_snoc {e lo : Nat} {w w' : World} {v1 v2 vx : Value} {ps : List Pk} {x : Pk} (he : e ≠ 50) {vs : List Value} (h1 : vs.length = ps.length) (h2 : w.ownsRow lo e 7 v1 ps.length (pkC ps vs))
    (h3 : ∀ (i : Nat) (y : Pk) (v : Value), ps[i]? = some y → vs[i]? = some v → opX lo w v y.x.op) (hx : opX lo w vx x.x.op) (hg : w.grownBy w' v1.ownBlock) (hnew : w'.ownsRow lo e 7 v2 (ps.length + 1) (pkC ps vs ++ pkCells x vx)) : isPks e lo w' v2 (ps ++ [x]) := by
  have hk := fun k => isPks_own (k := k) ⟨vs, h1, h2, h3⟩
  have hs : sameBut w w' fun k => v1.ownBlock = some k := sameBut_grown hg fun k e => e
  have hS : ∀ k, k < w.heap.size → v1.ownBlock = some k → lo ≤ k ∧ noPart w k := fun k _ hkk => by
    obtain ⟨a, b, cs, c⟩ := hk k hkk
    exact ⟨a, noPart_of c he⟩
  refine ⟨vs ++ [vx], by simp [h1], ?_, fun i y v hy hv => ?_⟩
  · rw [pkC_app ps [x] vs [vx] h1, List.length_append]
    have e : pkC [x] [vx] = pkCells x vx := by unfold pkC; simp
    rw [e]
    exact hnew
  · rcases Nat.lt_or_ge i ps.length with hi | hi
    · rw [List.getElem?_append_left hi] at hy
      rw [List.getElem?_append_left (by omega)] at hv
      exact opX_same (h3 i y v hy hv) hs hS
    · have : i < (ps ++ [x]).length := (List.getElem?_eq_some_iff.1 hy).1
      have hie : i = ps.length := by simp at this; omega
      subst hie
      rw [List.getElem?_append_right (Nat.le_refl _), Nat.sub_self] at hy
      rw [List.getElem?_append_right (by omega), h1, Nat.sub_self] at hv
      obtain rfl : x = y := by simpa using hy
      obtain rfl : vx = v := by simpa using hv
      exact opX_same hx hs hS
end Go.Proofs.YtedgnlgjmnccgabGreatDoor
