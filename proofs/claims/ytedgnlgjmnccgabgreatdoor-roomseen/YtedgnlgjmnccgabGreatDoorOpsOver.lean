/-
  ops.over: what its iterator does with the rounds of a loop.
-/
import Derived.Test.YtedgnlgjmnccgabGreatDoorOpsNorm
import Derived.Test.YtedgnlgjmnccgabGreatDoorLoopOwn
import Derived.OwnWalkIn
import Derived.TacticsInMore
import Derived.LoopNIn
import Derived.LoopIn
import Derived.Stop.RegionWithIn
namespace Go.Proofs.YtedgnlgjmnccgabGreatDoor
open Go.RowKit
set_option linter.unusedVariables false
attribute [local go_sem] Oper.semAt_some

theorem over_any (p : Option Addr) (n c : Nat) (s : ByteArray) (w : World) : Calls Tryz.prog 106 #[.slice p n c, .string s] w fun e w' => e = .returned (.func (.func 174) #[] #[.pointer (some ⟨w.heap.size + 1, 0, none⟩), .pointer (some ⟨w.heap.size, 0, none⟩)]) ∧ w' = (w.alloc (.cells #[.slice p n c] 23)).alloc (.cells #[.string s] 9) := by
  go_enter Tryz.func106, Tryz.ntmps106
  go_wp2
  go_ret
  exact ⟨rfl, rfl⟩

/-- The parts of an operation, each with its piece of the text. -/
def pcs : List Pt → List UInt8 → List (Pt × List UInt8)
  | [], _ => []
  | p :: ps, s => (p, s.take (lenP p).toNat) :: pcs ps (s.drop (lenP p).toNat)
/-- What is left of the text behind so many parts. -/
def leftP : List Pt → List UInt8 → List UInt8
  | [], s => s
  | p :: ps, s => leftP ps (s.drop (lenP p).toNat)

theorem leftP_snoc (ps : List Pt) (p : Pt) (s : List UInt8) : leftP (ps ++ [p]) s = (leftP ps s).drop (lenP p).toNat := by
  induction ps generalizing s with
  | nil => rfl
  | cons q ps ih => exact ih _
theorem pcs_append (a b : List Pt) (s : List UInt8) : pcs (a ++ b) s = pcs a s ++ pcs b (leftP a s) := by
  induction a generalizing s with
  | nil => rfl
  | cons q a ih => simp [pcs, leftP, ih]
/-- Each part keeps, or drops, no more than is left. -/
def fitsP : List Pt → List UInt8 → Prop
  | [], _ => True
  | p :: ps, s => 0 ≤ p.keep ∧ 0 ≤ p.drop ∧ lenP p ≤ s.length ∧ fitsP ps (s.drop (lenP p).toNat)
theorem fitsP_at (ps : List Pt) (s : List UInt8) (h : fitsP ps s) (k : Nat) (hk : k < ps.length) : 0 ≤ ps[k].keep ∧ 0 ≤ ps[k].drop ∧ lenP ps[k] ≤ (leftP (ps.take k) s).length := by
  induction ps generalizing s k with
  | nil => simp at hk
  | cons p ps ih =>
    obtain ⟨h1, h2, h3, h4⟩ := h
    cases k with
    | zero => exact ⟨h1, h2, h3⟩
    | succ k => exact ih _ h4 k (by simpa using hk)
theorem leftP_le (ps : List Pt) (s : List UInt8) : (leftP ps s).length ≤ s.length := by
  induction ps generalizing s with
  | nil => exact Nat.le_refl _
  | cons p ps ih =>
    have := ih (s.drop (lenP p).toNat)
    rw [List.length_drop] at this
    show (leftP ps _).length ≤ _
    omega

theorem cut_head (l : List UInt8) (n : Nat) : (ByteArray.mk l.toArray).extract 0 n = ⟨(l.take n).toArray⟩ := by
  apply ByteArray.ext
  simp
theorem cut_tail (l : List UInt8) (n : Nat) : (ByteArray.mk l.toArray).extract n l.length = ⟨(l.drop n).toArray⟩ := by
  apply ByteArray.ext
  have : List.take (l.length - n) (l.drop n) = l.drop n := List.take_of_length_le (by rw [List.length_drop]; exact Nat.le_refl _)
  simp [this]

set_option maxRecDepth 100000 in
set_option maxHeartbeats 2000000 in
theorem over_seq (v : Value) (ps : List Pt) (s : List UInt8) (hs : s.length < 1000000000) (hl : ps.length < 10000000) (hf : fitsP ps s) (R : Nat → Prop) (sb : Nat) (W : World)
    (h0 : W.cell? ⟨sb, 0, none⟩ = some v) (h1 : W.cell? ⟨sb + 1, 0, none⟩ = some (.string ⟨s.toArray⟩)) (hop : opAt W v ps) (hR0 : R sb) (hR1 : R (sb + 1)) (hRv : ∀ b o n c, v = .slice (some ⟨b, o, none⟩) n c → ps ≠ [] → R b) (hRl : ∀ x, R x → x < W.heap.size) (Z : World → Prop) :
    SeqOwn Tryz.prog 174 #[.pointer (some ⟨sb + 1, 0, none⟩), .pointer (some ⟨sb, 0, none⟩)] (fun _ (x : Pt × List UInt8) => #[partV x.1, .string ⟨x.2.toArray⟩]) (fun A B => Below A.heap.size A B ∧ W.heap.size ≤ A.heap.size) (fun A B => A.heap.size ≤ B.heap.size ∧ ∀ x, R x → B.heap[x]? = A.heap[x]?) Z
      (fun xs => xs = pcs ps s) (fun pre => ∃ rest, pcs ps s = pre ++ rest) W := by
  intro l J Jx hZ hZx hJ hJx hR hj0
  have hlt0 := World.block_lt_of_cell? W _ h0
  have hlt1 := World.block_lt_of_cell? W _ h1
  obtain ⟨p, c, rfl, r1, r2, r3⟩ := hop
  obtain ⟨n, hn⟩ : ∃ n, n = ps.length := ⟨_, rfl⟩
  rw [← hn] at r1 hl h0 hRv
  have HN : Hid (n = ps.length) := hn
  have R3 : Hid (ps ≠ [] → ∃ b o, p = some ⟨b, o, none⟩ ∧ b < W.heap.size ∧ ∀ i q, ps[i]? = some q →
    W.cell? ⟨b, o + i * 3, none⟩ = some (.int .i64 q.keep) ∧ W.cell? ⟨b, o + i * 3 + 1, none⟩ = some (.int .i64 q.drop) ∧ W.cell? ⟨b, o + i * 3 + 2, none⟩ = some (.string ⟨q.put.toArray⟩)) := r3
  have HF : Hid (fitsP ps s) := hf
  have HSL : Hid (s.length < 1000000000) := hs
  have HRV : Hid (∀ b o, p = some ⟨b, o, none⟩ → ps ≠ [] → R b) := fun b o e => hRv b o n c (by rw [e])
  have HRL : Hid (∀ x, R x → x < W.heap.size) := hRl
  clear r3 hf hn hs hRv hRl
  refine callsIn_of_wp Tryz.func174 rfl trivial ?_ rfl
  simp only [Tryz.ntmps174, List.size_toArray, List.length_cons, List.length_nil, Nat.reduceAdd, Nat.reduceSub, Array.replicate_succ, Array.replicate_zero, List.push_toArray, List.append_toArray, List.nil_append, List.cons_append]
  gi_wp2
  gi_loopw [4, 11] (fun rest i wr => ∃ (k : Nat), k ≤ n ∧ i = .int .i64 k ∧ rest = .string ⟨(leftP (ps.take k) s).toArray⟩ ∧ W.heap.size ≤ wr.heap.size ∧ (∀ x, R x → wr.heap[x]? = W.heap[x]?) ∧ J (pcs (ps.take k) s) wr) (fun _ i _ => n - (intOf i).toNat)
  case atStart => exact ⟨0, Nat.zero_le _, rfl, rfl, Nat.le_refl _, fun _ _ => rfl, hj0⟩
  case round =>
    obtain ⟨k, hk, rfl, rfl, hsz, hkeep, hjp⟩ := hrel
    by_cases hlt : k < n
    · have hkr : k < ps.length := by rw [← HN.out]; exact hlt
      have hne : ps ≠ [] := by intro e; rw [e] at hkr; exact absurd hkr (Nat.not_lt_zero _)
      obtain ⟨b, o, rfl, hbw, hcell⟩ := R3.out hne
      obtain ⟨c0, c1, c2⟩ := hcell k ps[k] (List.getElem?_eq_getElem hkr)
      have hkb := hkeep b (HRV.out b o rfl hne)
      have g0 := (World.cell?_of_block (w := W) (w' := wr) (a := ⟨b, o + k * 3, none⟩) hkb).trans c0
      have g1 := (World.cell?_of_block (w := W) (w' := wr) (a := ⟨b, o + k * 3 + 1, none⟩) hkb).trans c1
      have g2 := (World.cell?_of_block (w := W) (w' := wr) (a := ⟨b, o + k * 3 + 2, none⟩) hkb).trans c2
      obtain ⟨f1, f2, f3⟩ := fitsP_at ps s HF.out k hkr
      have hll := leftP_le (ps.take k) s
      have hs9 := HSL.out
      have hts : ps.take (k + 1) = ps.take k ++ [ps[k]] := List.take_succ_eq_append_getElem hkr
      have hpn : pcs (ps.take (k + 1)) s = pcs (ps.take k) s ++ [(ps[k], (leftP (ps.take k) s).take (lenP ps[k]).toNat)] := by rw [hts, pcs_append]; rfl
      have hln : leftP (ps.take (k + 1)) s = (leftP (ps.take k) s).drop (lenP ps[k]).toNat := by rw [hts, leftP_snoc]
      have hSp : ∃ rest, pcs ps s = (pcs (ps.take k) s ++ [(ps[k], (leftP (ps.take k) s).take (lenP ps[k]).toNat)]) ++ rest := by
        rw [← hpn]
        refine ⟨pcs (ps.drop (k + 1)) (leftP (ps.take (k + 1)) s), ?_⟩
        rw [← pcs_append, List.take_append_drop]
      generalize ps[k] = q at *
      generalize leftP (ps.take k) s = T at *
      obtain ⟨K, D, U⟩ := q
      have hlen : lenP ⟨K, D, U⟩ = K + D := rfl
      rw [hlen] at f3 hpn hln hSp
      simp only at f1 f2 g0 g1 g2
      obtain ⟨m, hm⟩ : ∃ m : Nat, K + D = m := ⟨(K + D).toNat, by omega⟩
      have hm' : (K + D).toNat = m := by omega
      rw [hm'] at hpn hln hSp
      rw [hm] at f3
      have hwm : IntKind.i64.wrap (K + D) = (m : Int) := by rw [IntKind.wrap_i64]; omega
      have hmT : m ≤ T.length := by omega
      have hmi : (m : Int) ≤ (T.length : Int) := by omega
      have hm0 : (0 : Int) ≤ (m : Int) := by omega
      have e1 := cut_head T m
      have e2 := cut_tail T m
      have HJP : Hid (J (pcs (ps.take k) s) wr) := hjp
      have HSP : Hid (∃ rest, pcs ps s = (pcs (ps.take k) s ++ [(⟨K, D, U⟩, T.take m)]) ++ rest) := hSp
      have HPN : Hid (pcs (ps.take (k + 1)) s = pcs (ps.take k) s ++ [(⟨K, D, U⟩, T.take m)]) := hpn
      have HLN : Hid (leftP (ps.take (k + 1)) s = T.drop m) := hln
      have HKEEP : Hid (∀ x, R x → wr.heap[x]? = W.heap[x]?) := hkeep
      clear hcell c0 c1 c2 hts hpn hln hSp hjp hlen hkb hkeep hm' f3 hll hs9 hm
      have hbA : Below wr.heap.size wr (wr.alloc (.cells #[.int .i64 K, .int .i64 D, .string ⟨U.toArray⟩] 50)).drew := ((Below.refl _ _).alloc (Nat.le_refl _) _).drew
      obtain ⟨fn, tmps, assign, body, hyy, hRd⟩ := hR (pcs (ps.take k) s) (⟨K, D, U⟩, T.take m) _ (hJ _ _ _ HJP.out ⟨hbA, hsz⟩) HSP.out
      unfold partV at hyy
      gi_wp2
      have hRd2 := hRd.mono (fun e A' HH => (⟨HH, by rcases HH with ⟨rfl, _⟩ | ⟨rfl, _⟩; exact ⟨true, rfl⟩; exact ⟨false, rfl⟩⟩ : _ ∧ ∃ bb : Bool, e = .returned (.bool bb)))
      gi_region_with (first | (refine ⟨rfl, hRd2.mono ?_⟩; rintro e A' ⟨HH, bb, rfl⟩))
      all_goals
        have hcase : (bb = true ∧ J (pcs (ps.take k) s ++ [(⟨K, D, U⟩, T.take m)]) A' ∧ wr.heap.size ≤ A'.heap.size ∧ ∀ x, R x → A'.heap[x]? = wr.heap[x]?) ∨ (bb = false ∧ Jx (pcs (ps.take k) s ++ [(⟨K, D, U⟩, T.take m)]) A') := by
          rcases HH with ⟨e1, e2, e3, e4⟩ | ⟨e1, e2, _⟩
          · simp only [Ending.returned.injEq, Value.bool.injEq] at e1
            refine .inl ⟨e1, e2, Nat.le_trans hbA.size e3, fun x hx => (e4 x hx).trans ?_⟩
            have hxl : x < wr.heap.size := by
              rcases Nat.lt_or_ge x wr.heap.size with h | h
              · exact h
              · exact absurd (HRL.out x hx) (by have := hsz; omega)
            exact hbA.block x hxl
          · simp only [Ending.returned.injEq, Value.bool.injEq] at e1
            exact .inr ⟨e1, e2⟩
        clear HH hRd hRd2 hyy
        rcases hcase with ⟨rfl, hj2, hs2, hk2⟩ | ⟨rfl, hjx⟩
        · have HJ2 : Hid (J (pcs (ps.take (k + 1)) s) A') := by show J _ _; rw [HPN.out]; exact hj2
          have HK2 : Hid (∀ x, R x → A'.heap[x]? = W.heap[x]?) := fun x hx => (hk2 x hx).trans (HKEEP.out x hx)
          have hs3 : W.heap.size ≤ A'.heap.size := Nat.le_trans hsz hs2
          clear hj2 hk2 g0 g1 g2 hbA
          gi_wp2
          go_roundw
          case rel => exact ⟨k + 1, by omega, by go_num, by rw [HLN.out], hs3, HK2.out, HJ2.out⟩
          case measure => simp [intOf]; omega
        · have HJX : Hid (Jx (pcs (ps.take k) s ++ [(⟨K, D, U⟩, T.take m)]) A') := hjx
          clear hjx g0 g1 g2 hbA
          gi_wp2
          refine bodyPost_ret (results_none rfl _ _ _) rfl ?_
          exact ⟨⟨_, rfl⟩, .inr ⟨_, HSP.out, HJX.out⟩⟩
    · have e : ps.take k = ps := List.take_of_length_le (by rw [← HN.out]; omega)
      rw [e] at hjp
      have HJ : Hid (J (pcs ps s) wr) := hjp
      clear e hjp R3 HF
      gi_wp2
      go_end0
      exact ⟨⟨_, rfl⟩, .inl ⟨_, rfl, HJ.out⟩⟩
end Go.Proofs.YtedgnlgjmnccgabGreatDoor
