/-
  utf.Walk: what its iterator does with the rounds of a loop.
-/
import Derived.Test.YtedgnlgjmnccgabGreatDoorLoopOwn
import Derived.Test.YtedgnlgjmnccgabGreatDoorEachStops
import Derived.Test.YtedgnlgjmnccgabGreatDoorUtf
import Derived.OwnWalkIn
import Derived.TacticsInMore
import Derived.LoopNIn
import Derived.LoopIn
namespace Go.Proofs.YtedgnlgjmnccgabGreatDoor
open Go.RowKit

/-- A round keeps all blocks from lo on that there were. -/
structure KeepUp (lo : Nat) (A B : World) : Prop where
  size : A.heap.size ≤ B.heap.size
  same : ∀ k, lo ≤ k → k < A.heap.size → B.heap[k]? = A.heap[k]?
theorem KeepUp.refl (lo : Nat) (A : World) : KeepUp lo A A := ⟨Nat.le_refl _, fun _ _ _ => rfl⟩
theorem KeepUp.trans {lo : Nat} {A B C : World} (h : KeepUp lo A B) (k : KeepUp lo B C) : KeepUp lo A C :=
  ⟨Nat.le_trans h.size k.size, fun i h1 h2 => (k.same i h1 (Nat.lt_of_lt_of_le h2 h.size)).trans (h.same i h1 h2)⟩
theorem KeepUp.of_below {lo : Nat} {A B : World} (h : Below A.heap.size A B) : KeepUp lo A B := ⟨h.size, fun k _ h2 => h.block k h2⟩
theorem KeepUp.setCell {lo : Nat} {A W : World} (h : KeepUp lo A W) {p : Addr} (hp : p.block < lo) (v : Value) : KeepUp lo A (W.setCell p v) :=
  h.trans ⟨by simp [World.setCell], fun k h1 _ => Below.heap_setCell W p v k (by omega)⟩
theorem KeepUp.alloc {lo : Nat} {A W : World} (h : KeepUp lo A W) (o : Obj) : KeepUp lo A (W.alloc o) :=
  h.trans ⟨by simp, fun k _ h2 => Below.heap_alloc W o k h2⟩
theorem KeepUp.drew {lo : Nat} {A W : World} (h : KeepUp lo A W) : KeepUp lo A W.drew := h.trans ⟨Nat.le_refl _, fun _ _ _ => rfl⟩
theorem KeepUp.putObj {lo r : Nat} (A : World) (o : Obj) (h : r < lo) : KeepUp lo A (A.putObj r o) :=
  ⟨by simp, fun k h1 _ => World.putObj_heap_other (by omega)⟩
theorem KeepUp.counted {lo : Nat} {A B : World} (h : KeepUp lo A B) {a : Nat} {n1 n2 n3 n4 : Int} (ha : lo ≤ a) (hc : counted A a n1 n2 n3 n4) : counted B a n1 n2 n3 n4 := by
  have hb := h.same a ha (counted_lt hc)
  have e1 : ∀ i, B.cell? ⟨a, i, none⟩ = A.cell? ⟨a, i, none⟩ := fun i => World.cell?_of_block (w := A) (a := ⟨a, i, none⟩) hb
  have e2 : ∀ i, B.frozen? ⟨a, i, none⟩ = A.frozen? ⟨a, i, none⟩ := fun i => World.frozen?_of_block (w := A) (a := ⟨a, i, none⟩) hb
  unfold Go.Proofs.YtedgnlgjmnccgabGreatDoor.counted
  rw [e1, e1, e1, e1, e2, e2, e2, e2]
  exact hc
theorem KeepUp.cell {lo : Nat} {A B : World} (h : KeepUp lo A B) {a i : Nat} {v : Value} (ha : lo ≤ a) (hc : A.cell? ⟨a, i, none⟩ = some v) : B.cell? ⟨a, i, none⟩ = some v := by
  have hb := h.same a ha (World.block_lt_of_cell? A _ hc)
  exact (World.cell?_of_block (w := A) (a := ⟨a, i, none⟩) hb).trans hc

/-- What a round is handed: what is counted ahead of its rune, and of it. -/
def walkArgs (pre : List (Nat × Nat)) (p : Nat × Nat) : Array Value :=
  #[cnt (sum1 pre) (sum2 pre) pre.length (sum4 pre), cnt p.2 (cH p.1) 1 (cL p.1)]

attribute [local go_sem] Oper.semAt_some

set_option maxRecDepth 100000 in
set_option maxHeartbeats 2000000 in
/-- The walk's own closure, at one rune. -/
theorem walk11_any (l : Nat) (b0 b1 lo : Nat) (h0 : lo ≤ b0) (h1 : lo ≤ b1) (hne : b0 ≠ b1) (r : Nat) (n n1 n2 n3 n4 : Int) (w : World) (hlw : lo ≤ w.heap.size) (hc : counted w b1 n1 n2 n3 n4) (hy : w.cell? ⟨b0, 0, none⟩ = some (.func (.yield l) #[] #[]))
    (R1 R0 : World → Prop)
    (hR : ∀ A, Below w.heap.size w A → YieldAt Fence.wide 0 Tryz.prog l #[cnt n1 n2 n3 n4, cnt n (cH r) 1 (cL r)] A fun e A' =>
      (e = .returned (.bool true) ∧ R1 A' ∧ KeepUp lo A A') ∨ (e = .returned (.bool false) ∧ R0 A' ∧ KeepUp lo A A')) :
    Calls Tryz.prog 263 #[.int .i32 r, .int .i64 n, .pointer (some ⟨b0, 0, none⟩), .pointer (some ⟨b1, 0, none⟩)] w fun e w' =>
      (e = .returned (.bool true) ∧ counted w' b1 (wrap64 (n1 + n)) (wrap64 (n2 + cH r)) (wrap64 (n3 + 1)) (wrap64 (n4 + cL r)) ∧ w'.cell? ⟨b0, 0, none⟩ = some (.func (.yield l) #[] #[]) ∧
        ∃ A', R1 A' ∧ Below lo A' w') ∨ (e = .returned (.bool false) ∧ R0 w') := by
  have hlt := counted_lt hc
  have hlt0 : b0 < w.heap.size := World.block_lt_of_cell? w _ hy
  have HC : Hid (counted w b1 n1 n2 n3 n4) := hc
  have cO := fun (w : World) => countsOf_any r n w
  generalize cH r = x2 at *
  generalize cL r = x4 at *
  generalize (r : Int) = R at cO ⊢
  unfold cnt at hR
  refine (callsIn_wide (n := 1)).1 ?_
  refine callsIn_of_wp Tryz.func263 rfl trivial ?_ rfl
  simp only [Tryz.ntmps263, List.size_toArray, List.length_cons, List.length_nil, Nat.reduceAdd, Nat.reduceSub, Array.replicate_succ, Array.replicate_zero, List.push_toArray, List.append_toArray, List.nil_append, List.cons_append]
  gi_wp2_with (first | (refine ⟨trivial, ?_⟩; gi_at_call 138; refine (callsIn_wide.2 (cO _)).mono ?_; rintro e w1 ⟨rfl, hb1⟩; have hb2 : Below w.heap.size w (w1.alloc (.cells #[.int .i64 n, .int .i64 x2, .int .i64 1, .int .i64 x4] 25)) := hb1.alloc hb1.size _; have HC2 := counted_old HC.out hb2 hlt; have HB : Hid (Below w.heap.size w (w1.alloc (.cells #[.int .i64 n, .int .i64 x2, .int .i64 1, .int .i64 x4] 25))) := hb2; obtain ⟨⟨a0, a1, a2, a3⟩, b0', b1', b2', b3'⟩ := HC2; have hy2 := (hb2.cell (p := ⟨b0, 0, none⟩) hlt0).trans hy; obtain ⟨fn, tmps, assign, body, hyy, hRd⟩ := hR _ hb2; clear hb2) | fail)
  refine hRd.mono ?_
  rintro e A' (⟨rfl, hR1, hk⟩ | ⟨rfl, hR0, hk⟩)
  · have HCA := hk.counted h1 (counted_old HC.out HB.out hlt)
    have HCN : counted (w1.alloc (.cells #[.int .i64 n, .int .i64 x2, .int .i64 1, .int .i64 x4] 25)) w1.heap.size n x2 1 x4 := by
      refine ⟨⟨?_, ?_, ?_, ?_⟩, ?_, ?_, ?_, ?_⟩ <;> simp [go_sem]
    have HCO := hk.counted (Nat.le_trans hlw hb1.size) HCN
    have hyA := hk.cell h0 hy2
    have HCA' : Hid (counted A' b1 n1 n2 n3 n4) := HCA
    have hyA' : Hid (A'.cell? ⟨b0, 0, none⟩ = some (.func (.yield l) #[] #[])) := hyA
    obtain ⟨⟨c0, c1, c2, c3⟩, d0, d1, d2, d3⟩ := HCA
    obtain ⟨⟨e0, e1, e2, e3⟩, f0, f1, f2, f3⟩ := HCO
    have hlA : b1 < A'.heap.size := counted_lt HCA'.out
    have hlA0 : b0 < A'.heap.size := World.block_lt_of_cell? A' _ hyA
    clear a0 a1 a2 a3 b0' b1' b2' b3' hy2 hyy hRd hy HC hc cO hR HCN hyA
    gi_wp2_with (first | (refine ⟨trivial, ?_⟩; gi_at_call 137; refine (callsIn_wide.2 (plus_any _ _ _ _ _ _ _ _ _)).mono ?_; rintro e w2 ⟨rfl, hb2⟩; have HC3 := counted_below HCA'.out hb2; have HC4 : Hid (counted w2 b1 n1 n2 n3 n4) := HC3; obtain ⟨⟨g0, g1, g2, g3⟩, k0, k1, k2, k3⟩ := HC3; have hB3 : Hid (Below A'.heap.size A' w2) := hb2; clear hb2) | fail)
    have hy3 : w2.cell? ⟨b0, 0, none⟩ = some (.func (.yield l) #[] #[]) := (hB3.out.cell (p := ⟨b0, 0, none⟩) hlA0).trans hyA'.out
    go_ret
    exact .inl ⟨rfl, counted_set HC4.out, by simp [go_sem, hy3], A', hR1, below_set (hB3.out.mono (Nat.le_of_lt (Nat.lt_of_le_of_lt h1 hlA))) h1 _ _ _ _⟩
  · gi_wp2
    go_ret
    exact .inr ⟨rfl, hR0⟩

theorem takes_walk (l : Nat) (b0 b1 lo : Nat) (h0 : lo ≤ b0) (h1 : lo ≤ b1) (hne : b0 ≠ b1) (W0 : World) (xs : List (Nat × Nat)) (hx : xs.length < 1000000000) (hx4 : ∀ p ∈ xs, p.2 ≤ 4) (J Jx : List (Nat × Nat) → World → Prop)
    (hz : ∀ pre A, J pre A → Below W0.heap.size W0 A) (hzx : ∀ pre A, Jx pre A → Below W0.heap.size W0 A) (hJ : ∀ pre A B, J pre A → Below lo A B → J pre B)
    (hR : ∀ pre x A, J pre A → (∃ rest, xs = pre ++ [x] ++ rest) → YieldAt Fence.wide 0 Tryz.prog l (walkArgs pre x) A fun e A' =>
      (e = .returned (.bool true) ∧ J (pre ++ [x]) A' ∧ KeepUp lo A A') ∨ (e = .returned (.bool false) ∧ Jx (pre ++ [x]) A' ∧ KeepUp lo A A')) :
    TakesS W0 263 #[.pointer (some ⟨b0, 0, none⟩), .pointer (some ⟨b1, 0, none⟩)] xs
      (fun done w => J done w ∧ lo ≤ w.heap.size ∧ counted w b1 (sum1 done) (sum2 done) (done.length : Int) (sum4 done) ∧ w.cell? ⟨b0, 0, none⟩ = some (.func (.yield l) #[] #[]))
      (fun done w => Jx done w) where
  enters := enters_of Tryz.func263 (by kernel_rfl) rfl
  stays := fun done w w' hI hb => ⟨hJ _ _ _ hI.1 (hb.mono hI.2.1), Nat.le_trans hI.2.1 hb.size, counted_below hI.2.2.1 hb, (hb.cell (p := ⟨b0, 0, none⟩) (World.block_lt_of_cell? w _ hI.2.2.2)).trans hI.2.2.2⟩
  step := fun done p rest e w hI hw => by
    obtain ⟨hj, hlw, hc, hy⟩ := hI
    have hlen := congrArg List.length e
    rw [List.length_append] at hlen
    have k1 := sum1_le done fun q hq => hx4 q (by rw [e]; simp [hq])
    have k2 := sum2_le done
    have k4 := sum4_le done
    have hp := hx4 p (by rw [e]; simp)
    have hp2 := cH_le p.1
    have hp4 := cL_le p.1
    refine (walk11_any l b0 b1 lo h0 h1 hne p.1 p.2 _ _ _ _ w hlw hc hy (J (done ++ [p])) (Jx (done ++ [p])) fun A hb => hR done p A (hJ _ _ _ hj (hb.mono hlw)) ⟨rest, by rw [e]; simp⟩).mono ?_
    rintro e' w' (⟨rfl, c, hy', A', hj', hb'⟩ | ⟨rfl, hj'⟩)
    · rw [wrap64_small (by omega) (by omega), wrap64_small (by omega) (by omega), wrap64_small (by omega) (by omega), wrap64_small (by omega) (by omega)] at c
      have e1 : sum1 (done ++ [p]) = sum1 done + p.2 := by simp [sum1]
      have e2 : sum2 (done ++ [p]) = sum2 done + cH p.1 := by simp [sum2]
      have e3 : (((done ++ [p]).length : Nat) : Int) = done.length + 1 := by simp
      have e4 : sum4 (done ++ [p]) = sum4 done + cL p.1 := by simp [sum4]
      have hJw := hJ _ _ _ hj' hb'
      refine ⟨hz _ _ hJw, .inl ⟨rfl, hJw, Nat.le_trans h1 (Nat.le_of_lt (counted_lt c)), ?_, hy'⟩⟩
      rw [e1, e2, e3, e4]
      exact c
    · exact ⟨hzx _ _ hj', .inr ⟨rfl, hj'⟩⟩

theorem yield_not_nil (l : Nat) (w : World) : (binOp .eql 352 (.func (.yield l) #[] #[]) .nilFunc).run Tryz.prog w = .ok (.bool false) w := by kernel_rfl

set_option maxRecDepth 100000 in
set_option maxHeartbeats 2000000 in
/-- The iterator of Walk, called with a loop's yield. -/
theorem walk_seq (s : ByteArray) (hs : s.size < 400000000) (W0 : World) (hT : Lib.Utf8Tabs 2 3 W0) (sb : Nat) (W : World) (hsb : W.cell? ⟨sb, 0, none⟩ = some (.string s)) :
    SeqOwn Tryz.prog 262 #[.pointer (some ⟨sb, 0, none⟩)] walkArgs (Below W.heap.size) (KeepUp W.heap.size) (Below W0.heap.size W0)
      (fun xs => xs = (scan s.data.toList).1) (fun pre => ∃ rest, (scan s.data.toList).1 = pre ++ rest) W := by
  intro l J Jx hz hzx hJ hJx hR hj0
  have hlen := scan_len s.data.toList
  rw [← Lib.size_eq] at hlen
  have hW := hz _ _ hj0
  have hlt := World.block_lt_of_cell? W _ hsb
  have hb2 : Below W.heap.size W ((W.alloc (.cells #[.func (.yield l) #[] #[]] 352)).alloc (.cells #[.int .i64 0, .int .i64 0, .int .i64 0, .int .i64 0] 25)) :=
    ((Below.refl _ W).alloc (Nat.le_refl _) _).alloc (by rw [World.size_alloc]; exact Nat.le_succ _) _
  have cE := each_stops s (by unfold maxLen; omega) 263 #[.pointer (some ⟨W.heap.size, 0, none⟩), .pointer (some ⟨W.heap.size + 1, 0, none⟩)] W0 hT _ _
    (takes_walk l W.heap.size (W.heap.size + 1) W.heap.size (Nat.le_refl _) (Nat.le_succ _) (by omega) W0 (scan s.data.toList).1 (by omega) (scan_w4 _) J Jx hz hzx hJ hR) _ (hz _ _ (hJ _ _ _ hj0 hb2))
    ⟨hJ _ _ _ hj0 hb2, hb2.size, (by refine ⟨⟨?_, ?_, ?_, ?_⟩, ?_, ?_, ?_, ?_⟩ <;> simp [go_sem, sum1, sum2, sum4]), (by simp [go_sem])⟩
  have hs2 := (((Below.refl _ W).alloc (Nat.le_refl _) (.cells #[.func (.yield l) #[] #[]] 352)).cell (p := ⟨sb, 0, none⟩) hlt).trans hsb
  have hs3 := (hb2.cell (p := ⟨sb, 0, none⟩) hlt).trans hsb
  clear hb2 hR hj0 hW hlen hs
  have hnil : ∀ w, (binOp .eql 352 (.func (.yield l) #[] #[]) .nilFunc).run Tryz.prog w = .ok (.bool false) w := fun w => yield_not_nil l w
  refine callsIn_wide.2 ?_
  simp only [List.append_toArray, List.cons_append, List.nil_append]
  go_enter Tryz.func262, Tryz.ntmps262
  go_wp2_with (first | (go_at_call 135; refine cE.mono ?_; rintro e w1 ⟨⟨v, rfl⟩, hb1, ⟨hj1, _⟩ | ⟨pre, rest, e1, hj1⟩⟩) | fail)
  · go_end0
    exact ⟨⟨_, rfl⟩, .inl ⟨_, rfl, hj1⟩⟩
  · go_end0
    exact ⟨⟨_, rfl⟩, .inr ⟨pre, ⟨rest, e1⟩, hj1⟩⟩
end Go.Proofs.YtedgnlgjmnccgabGreatDoor
