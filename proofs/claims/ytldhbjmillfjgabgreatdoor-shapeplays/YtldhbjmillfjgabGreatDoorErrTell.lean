/-
  errors.As, api.Tell, plain.Place and the law's 'is': at no error, and at an error at a place.
-/
import Derived.Test.YtldhbjmillfjgabGreatDoorErrAs
import Derived.Test.YtldhbjmillfjgabGreatDoorEach
namespace Go.Proofs.YtldhbjmillfjgabGreatDoor
open Go.RowKit Go.Extern.Stop Go.Stop Go.Extern

set_option maxRecDepth 100000 in
set_option maxHeartbeats 4000000 in
theorem As_place (a : Nat) (n : Int) (t : Nat) (old : Value) (w : World) (hg : asLaid w) (ha : w.cell? ⟨a, 0, none⟩ = some (.int .i64 n)) (ht : w.cell? ⟨t, 0, none⟩ = some old) (hf : w.frozen? ⟨t, 0, none⟩ = false) :
    Calls Tryz.prog 80 #[.iface 233 (.pointer (some ⟨a, 0, none⟩)), .iface 152 (.pointer (some ⟨t, 0, none⟩))] w
      fun e w' => e = .returned (.bool true) ∧ w'.cell? ⟨t, 0, none⟩ = some (.int .i64 n) ∧ Below t w w' := by
  have hVO := @run_callFunc_extern Tryz.prog 133 _ (fun args => ReflectliteValue.unpack (args.getD 0 (.tuple #[]))) Tryz.func133 (by kernel_rfl) (by kernel_rfl) (by kernel_rfl) (by kernel_rfl)
  have hTy := @run_callFunc_extern Tryz.prog 134 _ (ReflectliteValue.methodAny (ReflectliteValue.valueError "reflectlite.Value.Type" 0) (fun t _ _ _ => ReflectliteType.toType t)) Tryz.func134 (by kernel_rfl) (by kernel_rfl) (by kernel_rfl) (by kernel_rfl)
  have hIN := @run_callFunc_extern Tryz.prog 135 _ (ReflectliteValue.method (ReflectliteValue.valueError "reflectlite.Value.IsNil" 0) ReflectliteValue.isNil) Tryz.func135 (by kernel_rfl) (by kernel_rfl) (by kernel_rfl) (by kernel_rfl)
  have hKd := @run_callFunc_extern Tryz.prog 219 _ (ReflectliteType.abiMethod fun t => do pure (.int .u8 (← Rtype.kind t))) Tryz.func219 (by kernel_rfl) (by kernel_rfl) (by kernel_rfl) (by kernel_rfl)
  have hEl := @run_callFunc_extern Tryz.prog 233 _ (ReflectliteType.method ReflectliteType.elem) Tryz.func233 (by kernel_rfl) (by kernel_rfl) (by kernel_rfl) (by kernel_rfl)
  have hIm := @run_callFunc_extern Tryz.prog 234 _ (ReflectliteType.relation "Implements" ReflectliteType.implements_) Tryz.func234 (by kernel_rfl) (by kernel_rfl) (by kernel_rfl) (by kernel_rfl)
  have f6 := as_valueOf
  have f7 := as_type
  have mK := as_methodKind
  have mE := as_methodElem
  have mI := as_methodImplements
  have k92 := as_kindP
  have k23 := as_kindE
  have e92 := as_elem
  have i23 := as_implements
  have htl := World.block_lt_of_cell? w _ ht
  have hal := World.block_lt_of_cell? w _ ha
  have hgl := World.block_lt_of_cell? w _ hg
  obtain ⟨o1, ho1⟩ : ∃ o, o = Obj.cells #[.pointer (some ⟨t, 0, none⟩)] 152 := ⟨_, rfl⟩
  obtain ⟨o2, ho2⟩ : ∃ o, o = Obj.cells #[.pointer (some ⟨4, 152, none⟩), .pointer (some ⟨w.heap.size, 0, none⟩), .int .u64 150] 221 := ⟨_, rfl⟩
  have hn8 := as_isNil ⟨w.heap.size, 0, none⟩ ⟨t, 0, none⟩ ((w.alloc o1).alloc o2) (by rw [World.cell?_alloc_lt _ _ ⟨w.heap.size, 0, none⟩ (by rw [World.size_alloc]; exact Nat.lt_succ_self _), ho1]; simp [go_sem])
  have hg2 : ((w.alloc o1).alloc o2).cell? ⟨0, 0, none⟩ = some (.iface 270 (.agg #[.pointer (some ⟨4, 33, none⟩)])) := by
    rw [World.cell?_alloc_lt _ _ ⟨0, 0, none⟩ (by rw [World.size_alloc]; exact Nat.lt_succ_of_lt hgl), World.cell?_alloc_lt _ _ ⟨0, 0, none⟩ hgl]; exact hg
  have hb2 : Below w.heap.size w ((w.alloc o1).alloc o2) := ((Below.refl _ _).alloc (Nat.le_refl _) _).alloc (by rw [World.size_alloc]; exact Nat.le_succ _) _
  have cA := as_place a n t w.heap.size old ((w.alloc o1).alloc o2)
    (by rw [hb2.cell (p := ⟨a, 0, none⟩) hal]; exact ha)
    (by rw [World.cell?_alloc_lt _ _ ⟨w.heap.size, 0, none⟩ (by rw [World.size_alloc]; exact Nat.lt_succ_self _), ho1]; simp [go_sem])
    (by rw [hb2.cell (p := ⟨t, 0, none⟩) htl]; exact ht)
    (by rw [hb2.frozen (p := ⟨t, 0, none⟩) htl]; exact hf)
  unfold target at cA
  subst ho1 ho2
  have HB : Hid (Below t w _) := hb2.mono (Nat.le_of_lt htl)
  clear ha ht hf hg hb2
  go_enter Tryz.func80, Tryz.ntmps80
  go_wp2_with (first | (go_at_call 136; refine cA.mono ?_; rintro e wx ⟨rfl, hc, hbx⟩) | fail)
  go_ret
  exact ⟨rfl, hc, HB.out.trans hbx⟩

set_option maxHeartbeats 400000 in
theorem Tell_nil (w : World) : Calls Tryz.prog 23 #[.nilIface] w fun e w' => e = .returned (.int .i64 0) ∧ w' = w := by
  go_enter Tryz.func23, Tryz.ntmps23
  go_wp2
  go_ret
  exact ⟨rfl, rfl⟩

set_option maxRecDepth 100000 in
set_option maxHeartbeats 1000000 in
theorem Tell_place (a : Nat) (n : Int) (w : World) (hg : asLaid w) (ha : w.cell? ⟨a, 0, none⟩ = some (.int .i64 n)) :
    Calls Tryz.prog 23 #[.iface 233 (.pointer (some ⟨a, 0, none⟩))] w fun e w' => e = .returned (.int .i64 n) ∧ Below w.heap.size w w' := by
  have hal := World.block_lt_of_cell? w _ ha
  have hgl := World.block_lt_of_cell? w _ hg
  have hb1 : Below w.heap.size w (w.alloc (.cells #[.int .i64 0] 26)) := (Below.refl _ _).alloc (Nat.le_refl _) _
  have cA := As_place a n w.heap.size (.int .i64 0) (w.alloc (.cells #[.int .i64 0] 26)) (by unfold asLaid; rw [hb1.cell (p := ⟨0, 0, none⟩) hgl]; exact hg)
    (by rw [hb1.cell (p := ⟨a, 0, none⟩) hal]; exact ha) (by simp [go_sem]) (by simp [go_sem])
  clear hg ha
  go_enter Tryz.func23, Tryz.ntmps23
  go_wp2_with (first | (go_at_call 80; refine cA.mono ?_; rintro e wx ⟨rfl, hc, hbx⟩) | fail)
  go_ret
  exact ⟨rfl, hb1.trans hbx⟩

set_option maxRecDepth 100000 in
set_option maxHeartbeats 1000000 in
theorem Place_nil (w : World) : Calls Tryz.prog 86 #[.nilIface] w fun e w' => e = .returned (.tuple #[.int .i64 0, .int .i64 (-1)]) ∧ w' = w := by
  go_enter Tryz.func86, Tryz.ntmps86
  go_wp2_with (first | (go_at_call 23; refine (Tell_nil _).mono ?_; rintro e wx ⟨rfl, rfl⟩) | fail)
  refine wp_loop_rounds 1 ?_
  rw [rounds_succ]
  go_wp2
  go_ret2
  exact ⟨rfl, rfl⟩

theorem as_isPlace (a : Addr) (w : World) : (Instr.typeAssert (.iface 233 (.pointer (some a))) 33 233 true).run Tryz.prog w = .ok (.tuple #[.pointer (some a), .bool true]) w := by kernel_rfl

set_option maxRecDepth 100000 in
set_option maxHeartbeats 1000000 in
theorem Place_place (a : Nat) (n p : Int) (w : World) (hg : asLaid w) (ha : w.cell? ⟨a, 0, none⟩ = some (.int .i64 n)) (hp : w.cell? ⟨a, 1, none⟩ = some (.int .i64 p)) :
    Calls Tryz.prog 86 #[.iface 233 (.pointer (some ⟨a, 0, none⟩))] w fun e w' => e = .returned (.tuple #[.int .i64 n, .int .i64 p]) ∧ Below w.heap.size w w' := by
  have hal := World.block_lt_of_cell? w _ ha
  have cT := Tell_place a n w hg ha
  have iP := as_isPlace
  clear hg
  go_enter Tryz.func86, Tryz.ntmps86
  go_wp2_with (first | (go_at_call 23; refine cT.mono ?_; rintro e w1 ⟨rfl, hb1⟩; have hp1 := (hb1.cell (p := ⟨a, 1, none⟩) hal).trans hp) | fail)
  refine wp_loop_rounds 1 ?_
  rw [rounds_succ]
  go_wp2
  go_quiet (fail)
  go_wp2
  go_ret2
  exact ⟨rfl, below_drewN hb1 nq⟩

/-- What the law's 'is' is asked where it says yes. -/
theorem is_any_nil (w : World) : Calls Tryz.prog 26 #[.nilIface, .agg #[.int .i64 0, .int .i64 (-1)]] w fun e w' => e = .returned (.bool true) ∧ Below w.heap.size w w' := by
  go_enter Tryz.func26, Tryz.ntmps26
  go_wp2_with (first | (go_at_call 86; refine (Place_nil _).mono ?_; rintro e wx ⟨rfl, rfl⟩) | fail)
  go_ret
  exact ⟨rfl, (Below.refl _ _).alloc (Nat.le_refl _) _⟩

theorem is_any_place (a : Nat) (n p : Int) (w : World) (hg : asLaid w) (ha : w.cell? ⟨a, 0, none⟩ = some (.int .i64 n)) (hp : w.cell? ⟨a, 1, none⟩ = some (.int .i64 p)) :
    Calls Tryz.prog 26 #[.iface 233 (.pointer (some ⟨a, 0, none⟩)), .agg #[.int .i64 n, .int .i64 p]] w fun e w' => e = .returned (.bool true) ∧ Below w.heap.size w w' := by
  have hal := World.block_lt_of_cell? w _ ha
  have hgl := World.block_lt_of_cell? w _ hg
  have hb1 : Below w.heap.size w (w.alloc (.cells #[.int .i64 n, .int .i64 p] 28)) := (Below.refl _ _).alloc (Nat.le_refl _) _
  have cP := Place_place a n p (w.alloc (.cells #[.int .i64 n, .int .i64 p] 28)) (by unfold asLaid; rw [hb1.cell (p := ⟨0, 0, none⟩) hgl]; exact hg)
    (by rw [hb1.cell (p := ⟨a, 0, none⟩) hal]; exact ha) (by rw [hb1.cell (p := ⟨a, 1, none⟩) hal]; exact hp)
  clear hg ha hp
  go_enter Tryz.func26, Tryz.ntmps26
  go_wp2_with (first | (go_at_call 86; refine cP.mono ?_; rintro e w1 ⟨rfl, hb2⟩; have c0 : w1.cell? ⟨w.heap.size, 0, none⟩ = some (.int .i64 n) := (hb2.cell (p := ⟨w.heap.size, 0, none⟩) (by simp)).trans (by simp [go_sem]); have c1 : w1.cell? ⟨w.heap.size, 1, none⟩ = some (.int .i64 p) := (hb2.cell (p := ⟨w.heap.size, 1, none⟩) (by simp)).trans (by simp [go_sem])) | fail)
  go_ret
  exact ⟨rfl, hb1.trans (hb2.mono (by simp))⟩

/-- .. at the errors that utf returns. -/
theorem is_at {w0 w w2 : World} {v : Value} {p : Int} (hg : asLaid w) (h : isAt w0 w2 v p) (hb : Below w2.heap.size w2 w) :
    Calls Tryz.prog 26 #[v, .agg #[.int .i64 3, .int .i64 p]] w fun e w' => e = .returned (.bool true) ∧ Below w.heap.size w w' := by
  obtain ⟨b, rfl, _, h2, h3, h4⟩ := isAt_below h hb
  exact is_any_place b 3 p w hg h3 h4
theorem asLaid_below {w w' : World} (h : asLaid w) (hb : Below w.heap.size w w') : asLaid w' := by
  unfold asLaid
  rw [hb.cell (p := ⟨0, 0, none⟩) (World.block_lt_of_cell? w _ h)]
  exact h
end Go.Proofs.YtldhbjmillfjgabGreatDoor
