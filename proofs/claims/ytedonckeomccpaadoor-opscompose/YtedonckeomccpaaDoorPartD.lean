/-
  errors.As at a target of the project's own number type: an error number; an error at a place, which unwraps to its number; no error. Then api.Tell, plain.Place and the law's own 'is'.
  errors.As at the project's number type, walked.
  errors.As, api.Tell, plain.Place and the law's 'is': at no error, and at an error at a place.
-/
import Derived.Test.YtedonckeomccpaaDoorProg
import Derived.WalkKit
import Derived.WalkSpells
import Derived.WalkLawsBesides
import Derived.LaidEql
import Derived.Stop.Asserts
import Derived.RowKitTokens
import Derived.Deep.QuietTactic
import Derived.BigQuiet
import Derived.Test.YtedonckeomccpaaDoorPartA
namespace Go.Proofs.YtedonckeomccpaaDoor
open Go.RowKit Go.Extern.Stop Go.Stop Go.Extern

theorem as_nil (t : Value) (w : World) :
    Calls Tryd.prog 143 #[.nilIface, t] w fun e w' => e = .returned (.bool false) ∧ w' = w := by
  go_enter Tryd.func143, Tryd.ntmps143
  go_wp2
  go_ret
  exact ⟨rfl, rfl⟩

theorem as_valueOf (t : Addr) (w : World) : (ReflectliteValue.unpack (.iface 206 (.pointer (some t)))).run Tryd.prog w
    = .ok (.agg #[.pointer (some ⟨4, 206, none⟩), .pointer (some ⟨w.heap.size, 0, none⟩), .int .u64 150]) (w.alloc (.cells #[.pointer (some t)] 206)) := by kernel_rfl
theorem as_type (a : Addr) (w : World) : (ReflectliteValue.methodAny (ReflectliteValue.valueError "reflectlite.Value.Type" 0) (fun t _ _ _ => ReflectliteType.toType t) #[.agg #[.pointer (some ⟨4, 206, none⟩), .pointer (some a), .int .u64 150]]).run Tryd.prog w
    = .ok (.iface 227 (.agg #[.pointer (some ⟨4, 206, none⟩)])) w := by kernel_rfl
theorem as_methodKind (h : Value) (w : World) : (Go.method 363 227 (.agg #[h]) "Kind").run Tryd.prog w = .ok (179, h) w := by kernel_rfl
theorem as_kindP (w : World) : ((ReflectliteType.abiMethod fun t => (fun a : Nat => Value.int IntKind.u8 (a : Int)) <$> Rtype.kind t) #[.pointer (some ⟨4, 206, none⟩)]).run Tryd.prog w = .ok (.int .u8 22) w := by kernel_rfl
theorem as_kindE (w : World) : ((ReflectliteType.abiMethod fun t => (fun a : Nat => Value.int IntKind.u8 (a : Int)) <$> Rtype.kind t) #[.pointer (some ⟨4, 23, none⟩)]).run Tryd.prog w = .ok (.int .u8 2) w := by kernel_rfl

theorem as_rlm (z : Sem Value) (f : TypeId → Addr → Nat → Nat → Sem Value) (v : Value) :
    ReflectliteValue.method z f #[v] = (do match ← ReflectliteValue.parts v with | none => z | some (t, a, fl) => f t a fl (fl % 32)) := rfl
theorem as_partsP (a : Addr) (w : World) : (ReflectliteValue.parts (.agg #[.pointer (some ⟨4, 206, none⟩), .pointer (some a), .int .u64 150])).run Tryd.prog w = .ok (some (206, a, 150)) w := by kernel_rfl
theorem as_isNil (a p : Addr) (W : World) (ha : W.cell? a = some (.pointer (some p))) :
    (ReflectliteValue.method (ReflectliteValue.valueError "reflectlite.Value.IsNil" 0) ReflectliteValue.isNil #[.agg #[.pointer (some ⟨4, 206, none⟩), .pointer (some a), .int .u64 150]]).run Tryd.prog W = .ok (.bool false) W := by
  rw [as_rlm]
  simp only [Sem.run_bind, as_partsP, Result.andThen]
  simp [ReflectliteValue.isNil, loadVar, isAgg, underlying, Tryd.underlying206, ha, Result.andThen]
theorem as_methodElem (h : Value) (w : World) : (Go.method 363 227 (.agg #[h]) "Elem").run Tryd.prog w = .ok (193, .agg #[h]) w := by kernel_rfl
theorem as_methodImplements (h : Value) (w : World) : (Go.method 363 227 (.agg #[h]) "Implements").run Tryd.prog w = .ok (194, .agg #[h]) w := by kernel_rfl
theorem as_methodAssignableTo (h : Value) (w : World) : (Go.method 363 227 (.agg #[h]) "AssignableTo").run Tryd.prog w = .ok (191, .agg #[h]) w := by kernel_rfl
theorem as_elem (w : World) : (ReflectliteType.method ReflectliteType.elem #[.agg #[.pointer (some ⟨4, 206, none⟩)]]).run Tryd.prog w = .ok (.iface 227 (.agg #[.pointer (some ⟨4, 23, none⟩)])) w := by kernel_rfl
theorem as_implements (w : World) : (ReflectliteType.relation "Implements" ReflectliteType.implements_ #[.agg #[.pointer (some ⟨4, 23, none⟩)], .iface 227 (.agg #[.pointer (some ⟨4, 29, none⟩)])]).run Tryd.prog w = .ok (.bool true) w := by kernel_rfl
theorem as_typeOfE (v : Value) (w : World) : (ReflectliteType.typeOf #[.iface 23 v]).run Tryd.prog w = .ok (.iface 227 (.agg #[.pointer (some ⟨4, 23, none⟩)])) w := by kernel_rfl
theorem as_typeOfA (v : Value) (w : World) : (ReflectliteType.typeOf #[.iface 172 v]).run Tryd.prog w = .ok (.iface 227 (.agg #[.pointer (some ⟨4, 172, none⟩)])) w := by kernel_rfl
theorem as_assignE (w : World) : (ReflectliteType.relation "AssignableTo" ReflectliteType.assignableTo #[.agg #[.pointer (some ⟨4, 23, none⟩)], .iface 227 (.agg #[.pointer (some ⟨4, 23, none⟩)])]).run Tryd.prog w = .ok (.bool true) w := by kernel_rfl
theorem as_assignA (w : World) : (ReflectliteType.relation "AssignableTo" ReflectliteType.assignableTo #[.agg #[.pointer (some ⟨4, 172, none⟩)], .iface 227 (.agg #[.pointer (some ⟨4, 23, none⟩)])]).run Tryd.prog w = .ok (.bool false) w := by kernel_rfl
theorem as_valueOfE (n : Int) (w : World) : (ReflectliteValue.unpack (.iface 23 (.int .i64 n))).run Tryd.prog w
    = .ok (.agg #[.pointer (some ⟨4, 23, none⟩), .pointer (some ⟨w.heap.size, 0, none⟩), .int .u64 130]) (w.alloc (.cells #[.int .i64 n] 23)) := by kernel_rfl
theorem as_elemOf (w : World) : (Rtype.elem? 206).run Tryd.prog w = .ok (some 23) w := by kernel_rfl
theorem as_mk (p : Addr) (w : World) : (ReflectliteValue.mk 23 p ReflectliteValue.flagAddr).run Tryd.prog w = .ok (.agg #[.pointer (some ⟨4, 23, none⟩), .pointer (some p), .int .u64 386]) w := by kernel_rfl
theorem as_elemV (a p : Addr) (W : World) (ha : W.cell? a = some (.pointer (some p))) :
    (ReflectliteValue.method (ReflectliteValue.valueError "reflectlite.Value.Elem" 0) ReflectliteValue.elem #[.agg #[.pointer (some ⟨4, 206, none⟩), .pointer (some a), .int .u64 150]]).run Tryd.prog W
      = .ok (.agg #[.pointer (some ⟨4, 23, none⟩), .pointer (some p), .int .u64 386]) W := by
  rw [as_rlm]
  simp only [Sem.run_bind, as_partsP, Result.andThen]
  simp [ReflectliteValue.elem, loadVar, isAgg, underlying, Tryd.underlying206, ha, Result.andThen, as_elemOf, as_mk]
theorem as_rls (v x : Value) : ReflectliteValue.set #[v, x] = (do
    let (some (dst, a, fl), some (src, b, _)) := (← ReflectliteValue.parts v, ← ReflectliteValue.parts x)
      | unsupported (.noEntry "extern/(internal/reflectlite.Value).Set.zeroValue")
    if fl / ReflectliteValue.flagAddr % 2 == 0 then unsupported (.noEntry "extern/(internal/reflectlite.Value).Set.unaddressable")
    let val ← loadVar src b
    if ← Rtype.directlyAssignable dst src then storeVar dst a val
    else if ← Rtype.implements dst src then
      if (← Rtype.kind src) == 20 then
        match val with
        | .nilIface => unsupported (.noEntry "extern/reflectlite: a nil value of one interface type handed on as a value of another")
        | _ => storeVar dst a val
      else storeVar dst a (.iface src val)
    else panicString ("reflectlite.Set: value of type " ++ (← Rtype.spelt src) ++ " is not assignable to type " ++ (← Rtype.spelt dst))
    pure (.tuple #[])) := rfl
theorem as_partsD (a : Addr) (w : World) : (ReflectliteValue.parts (.agg #[.pointer (some ⟨4, 23, none⟩), .pointer (some a), .int .u64 386])).run Tryd.prog w = .ok (some (23, a, 386)) w := by kernel_rfl
theorem as_partsE (a : Addr) (w : World) : (ReflectliteValue.parts (.agg #[.pointer (some ⟨4, 23, none⟩), .pointer (some a), .int .u64 130])).run Tryd.prog w = .ok (some (23, a, 130)) w := by kernel_rfl
theorem as_direct (w : World) : (Rtype.directlyAssignable 23 23).run Tryd.prog w = .ok true w := by kernel_rfl
theorem as_set (ta b : Addr) (n : Int) (old : Value) (W : World) (hb : W.cell? b = some (.int .i64 n)) (ht : W.cell? ta = some old) (hf : W.frozen? ta = false) :
    (ReflectliteValue.set #[.agg #[.pointer (some ⟨4, 23, none⟩), .pointer (some ta), .int .u64 386], .agg #[.pointer (some ⟨4, 23, none⟩), .pointer (some b), .int .u64 130]]).run Tryd.prog W
      = .ok (.tuple #[]) (W.setCell ta (.int .i64 n)) := by
  rw [as_rls]
  simp only [Sem.run_bind, as_partsD, as_partsE, Result.andThen]
  simp [ReflectliteValue.flagAddr, loadVar, isAgg, underlying, Tryd.underlying23, hb, Result.andThen, as_direct, storeVar, Value.cells, storeCells, Addr.add]
  rw [run_store Tryd.prog W ta _ _ (by rfl)]
  simp [ht, hf]
theorem as_noAs (v : Value) (xT : TypeId) (w : World) : (Instr.typeAssert (.iface 172 v) xT 232 true).run Tryd.prog w = .ok (.tuple #[.nilIface, .bool false]) w := run_typeAssert_lacksB Tryd.underlying232 (by kernel_rfl) (by kernel_rfl) v xT w
theorem as_hasUnwrap (v : Value) (xT : TypeId) (w : World) : (Instr.typeAssert (.iface 172 v) xT 175 true).run Tryd.prog w = .ok (.tuple #[.iface 172 v, .bool true]) w := run_typeAssert_hasB Tryd.underlying175 (by kernel_rfl) v xT w
theorem as_unwrapAhead (a : Addr) (w : World) : (nilAhead 363 172 (.pointer (some a)) "Unwrap").run Tryd.prog w = .ok (some false) w := by kernel_rfl
theorem as_methodUnwrap (a : Addr) (w : World) : (Go.method 363 172 (.pointer (some a)) "Unwrap").run Tryd.prog w = .ok (186, .pointer (some a)) w := by kernel_rfl

set_option maxHeartbeats 400000 in
theorem unwrap_any (a : Nat) (n : Int) (w : World) (h : w.cell? ⟨a, 0, none⟩ = some (.int .i64 n)) :
    Calls Tryd.prog 186 #[.pointer (some ⟨a, 0, none⟩)] w fun e w' => e = .returned (.iface 23 (.int .i64 n)) ∧ w' = w := by
  go_enter Tryd.func186, Tryd.ntmps186
  go_wp2
  go_ret
  exact ⟨rfl, rfl⟩

/-- What the walks of errors.As want of the library's variable. -/
def asLaid (w : World) : Prop := w.cell? ⟨3, 0, none⟩ = some (.iface 227 (.agg #[.pointer (some ⟨4, 29, none⟩)]))

/-- errors.as at the number itself: the target's variable is set. -/
def target (q : Nat) : Value := .agg #[.pointer (some ⟨4, 206, none⟩), .pointer (some ⟨q, 0, none⟩), .int .u64 150]

end Go.Proofs.YtedonckeomccpaaDoor

namespace Go.Proofs.YtedonckeomccpaaDoor
open Go.RowKit Go.Extern.Stop Go.Stop Go.Extern

theorem set_below {w : World} {t : Nat} {n : Int} {old : Value} (ht : w.cell? ⟨t, 0, none⟩ = some old) (o1 o2 : Obj) :
    (((w.setCell ⟨t, 0, none⟩ (.int .i64 n)).alloc o1).alloc o2).cell? ⟨t, 0, none⟩ = some (.int .i64 n) ∧ Below t w (((w.setCell ⟨t, 0, none⟩ (.int .i64 n)).alloc o1).alloc o2) := by
  have htl := World.block_lt_of_cell? w _ ht
  have hz : (w.setCell ⟨t, 0, none⟩ (.int .i64 n)).heap.size = w.heap.size := by simp
  have h1 : t < (w.setCell ⟨t, 0, none⟩ (.int .i64 n)).heap.size := by rw [hz]; exact htl
  refine ⟨?_, ?_⟩
  · rw [World.cell?_alloc_lt _ _ ⟨t, 0, none⟩ (by rw [World.size_alloc]; exact Nat.lt_succ_of_lt h1), World.cell?_alloc_lt _ _ ⟨t, 0, none⟩ h1]
    exact World.cell?_setCell_same _ _ _ ht
  · exact ((((Below.refl t w).setCell (p := ⟨t, 0, none⟩) (Nat.le_refl _) _)).alloc (Nat.le_of_lt h1) _).alloc (by rw [World.size_alloc]; exact Nat.le_succ_of_le (Nat.le_of_lt h1)) _

set_option maxRecDepth 100000 in
set_option maxHeartbeats 4000000 in
theorem as_number (n : Int) (t q : Nat) (old : Value) (w : World) (hq : w.cell? ⟨q, 0, none⟩ = some (.pointer (some ⟨t, 0, none⟩))) (ht : w.cell? ⟨t, 0, none⟩ = some old) (hf : w.frozen? ⟨t, 0, none⟩ = false) :
    Calls Tryd.prog 157 #[.iface 23 (.int .i64 n), .iface 206 (.pointer (some ⟨t, 0, none⟩)), target q, .iface 227 (.agg #[.pointer (some ⟨4, 23, none⟩)])] w
      fun e w' => e = .returned (.bool true) ∧ w'.cell? ⟨t, 0, none⟩ = some (.int .i64 n) ∧ Below t w w' := by
  have hTO := @run_callFunc_extern Tryd.prog 162 _ ReflectliteType.typeOf Tryd.func162 (by kernel_rfl) (by kernel_rfl) (by kernel_rfl) (by kernel_rfl)
  have hAT := @run_callFunc_extern Tryd.prog 191 _ (ReflectliteType.relation "AssignableTo" ReflectliteType.assignableTo) Tryd.func191 (by kernel_rfl) (by kernel_rfl) (by kernel_rfl) (by kernel_rfl)
  have hVE := @run_callFunc_extern Tryd.prog 163 _ (ReflectliteValue.method (ReflectliteValue.valueError "reflectlite.Value.Elem" 0) ReflectliteValue.elem) Tryd.func163 (by kernel_rfl) (by kernel_rfl) (by kernel_rfl) (by kernel_rfl)
  have hVS := @run_callFunc_extern Tryd.prog 164 _ ReflectliteValue.set Tryd.func164 (by kernel_rfl) (by kernel_rfl) (by kernel_rfl) (by kernel_rfl)
  have hVO := @run_callFunc_extern Tryd.prog 154 _ (fun args => ReflectliteValue.unpack (args.getD 0 (.tuple #[]))) Tryd.func154 (by kernel_rfl) (by kernel_rfl) (by kernel_rfl) (by kernel_rfl)
  have tE := as_typeOfE
  have tA := as_typeOfA
  have mA := as_methodAssignableTo
  have aE := as_assignE
  have aA := as_assignA
  have vE := as_valueOfE
  have nA := as_noAs
  have hU := as_hasUnwrap
  have uA := as_unwrapAhead
  have mU := as_methodUnwrap
  have htl := World.block_lt_of_cell? w _ ht
  have hql := World.block_lt_of_cell? w _ hq
  have hq2 : (w.alloc (.cells #[.pointer (some ⟨4, 206, none⟩), .pointer (some ⟨q, 0, none⟩), .int .u64 150] 215)).cell? ⟨q, 0, none⟩ = some (.pointer (some ⟨t, 0, none⟩)) := by
    rw [World.cell?_alloc_lt _ _ ⟨q, 0, none⟩ hql]; exact hq
  have el := as_elemV ⟨q, 0, none⟩ ⟨t, 0, none⟩ (w.alloc (.cells #[.pointer (some ⟨4, 206, none⟩), .pointer (some ⟨q, 0, none⟩), .int .u64 150] 215)) hq2
  have st := as_set ⟨t, 0, none⟩ ⟨w.heap.size + 1, 0, none⟩ n old ((w.alloc (.cells #[.pointer (some ⟨4, 206, none⟩), .pointer (some ⟨q, 0, none⟩), .int .u64 150] 215)).alloc (.cells #[.int .i64 n] 23))
    (by rw [World.cell?_alloc_at _ _ _ _ (by simp)]; rfl)
    (by rw [World.cell?_alloc_lt _ _ ⟨t, 0, none⟩ (by rw [World.size_alloc]; exact Nat.lt_succ_of_lt htl), World.cell?_alloc_lt _ _ ⟨t, 0, none⟩ htl]; exact ht)
    (by rw [World.frozen?_alloc_old _ _ ⟨t, 0, none⟩ (by rw [World.size_alloc]; exact Nat.ne_of_lt (Nat.lt_succ_of_lt htl)), World.frozen?_alloc_old _ _ ⟨t, 0, none⟩ (Nat.ne_of_lt htl)]; exact hf)
  have fin := fun o1 o2 => @set_below w t n old ht o1 o2
  have HF : Hid (∀ o1 o2, _ ∧ _) := fin
  clear fin
  clear hq ht hf hq2
  unfold target
  go_enter Tryd.func157, Tryd.ntmps157
  go_wp2
  refine wp_loop_rounds 1 ?_
  rw [rounds_succ]
  go_wp2
  go_ret
  exact ⟨rfl, HF.out _ _⟩

set_option maxRecDepth 100000 in
set_option maxHeartbeats 4000000 in
theorem as_place (a : Nat) (n : Int) (t q : Nat) (old : Value) (w : World) (ha : w.cell? ⟨a, 0, none⟩ = some (.int .i64 n)) (hq : w.cell? ⟨q, 0, none⟩ = some (.pointer (some ⟨t, 0, none⟩))) (ht : w.cell? ⟨t, 0, none⟩ = some old) (hf : w.frozen? ⟨t, 0, none⟩ = false) :
    Calls Tryd.prog 157 #[.iface 172 (.pointer (some ⟨a, 0, none⟩)), .iface 206 (.pointer (some ⟨t, 0, none⟩)), target q, .iface 227 (.agg #[.pointer (some ⟨4, 23, none⟩)])] w
      fun e w' => e = .returned (.bool true) ∧ w'.cell? ⟨t, 0, none⟩ = some (.int .i64 n) ∧ Below t w w' := by
  have hTO := @run_callFunc_extern Tryd.prog 162 _ ReflectliteType.typeOf Tryd.func162 (by kernel_rfl) (by kernel_rfl) (by kernel_rfl) (by kernel_rfl)
  have hAT := @run_callFunc_extern Tryd.prog 191 _ (ReflectliteType.relation "AssignableTo" ReflectliteType.assignableTo) Tryd.func191 (by kernel_rfl) (by kernel_rfl) (by kernel_rfl) (by kernel_rfl)
  have hVE := @run_callFunc_extern Tryd.prog 163 _ (ReflectliteValue.method (ReflectliteValue.valueError "reflectlite.Value.Elem" 0) ReflectliteValue.elem) Tryd.func163 (by kernel_rfl) (by kernel_rfl) (by kernel_rfl) (by kernel_rfl)
  have hVS := @run_callFunc_extern Tryd.prog 164 _ ReflectliteValue.set Tryd.func164 (by kernel_rfl) (by kernel_rfl) (by kernel_rfl) (by kernel_rfl)
  have hVO := @run_callFunc_extern Tryd.prog 154 _ (fun args => ReflectliteValue.unpack (args.getD 0 (.tuple #[]))) Tryd.func154 (by kernel_rfl) (by kernel_rfl) (by kernel_rfl) (by kernel_rfl)
  have tE := as_typeOfE
  have tA := as_typeOfA
  have mA := as_methodAssignableTo
  have aE := as_assignE
  have aA := as_assignA
  have vE := as_valueOfE
  have nA := as_noAs
  have hU := as_hasUnwrap
  have uA := as_unwrapAhead
  have mU := as_methodUnwrap
  have htl := World.block_lt_of_cell? w _ ht
  have hql := World.block_lt_of_cell? w _ hq
  have hq2 : (w.alloc (.cells #[.pointer (some ⟨4, 206, none⟩), .pointer (some ⟨q, 0, none⟩), .int .u64 150] 215)).cell? ⟨q, 0, none⟩ = some (.pointer (some ⟨t, 0, none⟩)) := by
    rw [World.cell?_alloc_lt _ _ ⟨q, 0, none⟩ hql]; exact hq
  have el := as_elemV ⟨q, 0, none⟩ ⟨t, 0, none⟩ (w.alloc (.cells #[.pointer (some ⟨4, 206, none⟩), .pointer (some ⟨q, 0, none⟩), .int .u64 150] 215)) hq2
  have st := as_set ⟨t, 0, none⟩ ⟨w.heap.size + 1, 0, none⟩ n old ((w.alloc (.cells #[.pointer (some ⟨4, 206, none⟩), .pointer (some ⟨q, 0, none⟩), .int .u64 150] 215)).alloc (.cells #[.int .i64 n] 23))
    (by rw [World.cell?_alloc_at _ _ _ _ (by simp)]; rfl)
    (by rw [World.cell?_alloc_lt _ _ ⟨t, 0, none⟩ (by rw [World.size_alloc]; exact Nat.lt_succ_of_lt htl), World.cell?_alloc_lt _ _ ⟨t, 0, none⟩ htl]; exact ht)
    (by rw [World.frozen?_alloc_old _ _ ⟨t, 0, none⟩ (by rw [World.size_alloc]; exact Nat.ne_of_lt (Nat.lt_succ_of_lt htl)), World.frozen?_alloc_old _ _ ⟨t, 0, none⟩ (Nat.ne_of_lt htl)]; exact hf)
  have fin := fun o1 o2 => @set_below w t n old ht o1 o2
  have HF : Hid (∀ o1 o2, _ ∧ _) := fin
  clear fin
  have hal := World.block_lt_of_cell? w _ ha
  have ha2 : (w.alloc (.cells #[.pointer (some ⟨4, 206, none⟩), .pointer (some ⟨q, 0, none⟩), .int .u64 150] 215)).cell? ⟨a, 0, none⟩ = some (.int .i64 n) := by
    rw [World.cell?_alloc_lt _ _ ⟨a, 0, none⟩ hal]; exact ha
  have cU := unwrap_any a n _ ha2
  clear hq ht hf hq2 ha ha2
  unfold target
  go_enter Tryd.func157, Tryd.ntmps157
  go_wp2
  refine wp_loop_rounds 2 ?_
  rw [rounds_succ]
  go_wp2_with (first | (go_at_call 186; refine cU.mono ?_; rintro e wx ⟨rfl, rfl⟩) | fail)
  rw [rounds_succ]
  go_wp2
  go_ret
  exact ⟨rfl, HF.out _ _⟩
end Go.Proofs.YtedonckeomccpaaDoor

namespace Go.Proofs.YtedonckeomccpaaDoor
open Go.RowKit Go.Extern.Stop Go.Stop Go.Extern

set_option maxRecDepth 100000 in
set_option maxHeartbeats 4000000 in
theorem As_place (a : Nat) (n : Int) (t : Nat) (old : Value) (w : World) (hg : asLaid w) (ha : w.cell? ⟨a, 0, none⟩ = some (.int .i64 n)) (ht : w.cell? ⟨t, 0, none⟩ = some old) (hf : w.frozen? ⟨t, 0, none⟩ = false) :
    Calls Tryd.prog 143 #[.iface 172 (.pointer (some ⟨a, 0, none⟩)), .iface 206 (.pointer (some ⟨t, 0, none⟩))] w
      fun e w' => e = .returned (.bool true) ∧ w'.cell? ⟨t, 0, none⟩ = some (.int .i64 n) ∧ Below t w w' := by
  have hVO := @run_callFunc_extern Tryd.prog 154 _ (fun args => ReflectliteValue.unpack (args.getD 0 (.tuple #[]))) Tryd.func154 (by kernel_rfl) (by kernel_rfl) (by kernel_rfl) (by kernel_rfl)
  have hTy := @run_callFunc_extern Tryd.prog 155 _ (ReflectliteValue.methodAny (ReflectliteValue.valueError "reflectlite.Value.Type" 0) (fun t _ _ _ => ReflectliteType.toType t)) Tryd.func155 (by kernel_rfl) (by kernel_rfl) (by kernel_rfl) (by kernel_rfl)
  have hIN := @run_callFunc_extern Tryd.prog 156 _ (ReflectliteValue.method (ReflectliteValue.valueError "reflectlite.Value.IsNil" 0) ReflectliteValue.isNil) Tryd.func156 (by kernel_rfl) (by kernel_rfl) (by kernel_rfl) (by kernel_rfl)
  have hKd := @run_callFunc_extern Tryd.prog 179 _ (ReflectliteType.abiMethod fun t => do pure (.int .u8 (← Rtype.kind t))) Tryd.func179 (by kernel_rfl) (by kernel_rfl) (by kernel_rfl) (by kernel_rfl)
  have hEl := @run_callFunc_extern Tryd.prog 193 _ (ReflectliteType.method ReflectliteType.elem) Tryd.func193 (by kernel_rfl) (by kernel_rfl) (by kernel_rfl) (by kernel_rfl)
  have hIm := @run_callFunc_extern Tryd.prog 194 _ (ReflectliteType.relation "Implements" ReflectliteType.implements_) Tryd.func194 (by kernel_rfl) (by kernel_rfl) (by kernel_rfl) (by kernel_rfl)
  have f6 := as_valueOf
  have f7 := as_type
  have mK := as_methodKind
  have mE := as_methodElem
  have mI := as_methodImplements
  have k92 := as_kindP
  have k23 := as_kindE
  have e92 := as_elem
  have i23 := as_implements
  have htl := World.block_lt_of_cell? w _ ht
  have hal := World.block_lt_of_cell? w _ ha
  have hgl := World.block_lt_of_cell? w _ hg
  obtain ⟨o1, ho1⟩ : ∃ o, o = Obj.cells #[.pointer (some ⟨t, 0, none⟩)] 206 := ⟨_, rfl⟩
  obtain ⟨o2, ho2⟩ : ∃ o, o = Obj.cells #[.pointer (some ⟨4, 206, none⟩), .pointer (some ⟨w.heap.size, 0, none⟩), .int .u64 150] 215 := ⟨_, rfl⟩
  have hn8 := as_isNil ⟨w.heap.size, 0, none⟩ ⟨t, 0, none⟩ ((w.alloc o1).alloc o2) (by rw [World.cell?_alloc_lt _ _ ⟨w.heap.size, 0, none⟩ (by rw [World.size_alloc]; exact Nat.lt_succ_self _), ho1]; simp [go_sem])
  have hg2 : ((w.alloc o1).alloc o2).cell? ⟨3, 0, none⟩ = some (.iface 227 (.agg #[.pointer (some ⟨4, 29, none⟩)])) := by
    rw [World.cell?_alloc_lt _ _ ⟨3, 0, none⟩ (by rw [World.size_alloc]; exact Nat.lt_succ_of_lt hgl), World.cell?_alloc_lt _ _ ⟨3, 0, none⟩ hgl]; exact hg
  have hb2 : Below w.heap.size w ((w.alloc o1).alloc o2) := ((Below.refl _ _).alloc (Nat.le_refl _) _).alloc (by rw [World.size_alloc]; exact Nat.le_succ _) _
  have cA := as_place a n t w.heap.size old ((w.alloc o1).alloc o2)
    (by rw [hb2.cell (p := ⟨a, 0, none⟩) hal]; exact ha)
    (by rw [World.cell?_alloc_lt _ _ ⟨w.heap.size, 0, none⟩ (by rw [World.size_alloc]; exact Nat.lt_succ_self _), ho1]; simp [go_sem])
    (by rw [hb2.cell (p := ⟨t, 0, none⟩) htl]; exact ht)
    (by rw [hb2.frozen (p := ⟨t, 0, none⟩) htl]; exact hf)
  unfold target at cA
  subst ho1 ho2
  have HB : Hid (Below t w _) := hb2.mono (Nat.le_of_lt htl)
  clear ha ht hf hg hb2
  go_enter Tryd.func143, Tryd.ntmps143
  go_wp2_with (first | (go_at_call 157; refine cA.mono ?_; rintro e wx ⟨rfl, hc, hbx⟩) | fail)
  go_ret
  exact ⟨rfl, hc, HB.out.trans hbx⟩

set_option maxHeartbeats 400000 in
theorem Tell_nil (w : World) : Calls Tryd.prog 116 #[.nilIface] w fun e w' => e = .returned (.int .i64 0) ∧ w' = w := by
  go_enter Tryd.func116, Tryd.ntmps116
  go_wp2
  go_ret
  exact ⟨rfl, rfl⟩

set_option maxRecDepth 100000 in
set_option maxHeartbeats 1000000 in
theorem Tell_place (a : Nat) (n : Int) (w : World) (hg : asLaid w) (ha : w.cell? ⟨a, 0, none⟩ = some (.int .i64 n)) :
    Calls Tryd.prog 116 #[.iface 172 (.pointer (some ⟨a, 0, none⟩))] w fun e w' => e = .returned (.int .i64 n) ∧ Below w.heap.size w w' := by
  have hal := World.block_lt_of_cell? w _ ha
  have hgl := World.block_lt_of_cell? w _ hg
  have hb1 : Below w.heap.size w (w.alloc (.cells #[.int .i64 0] 23)) := (Below.refl _ _).alloc (Nat.le_refl _) _
  have cA := As_place a n w.heap.size (.int .i64 0) (w.alloc (.cells #[.int .i64 0] 23)) (by unfold asLaid; rw [hb1.cell (p := ⟨3, 0, none⟩) hgl]; exact hg)
    (by rw [hb1.cell (p := ⟨a, 0, none⟩) hal]; exact ha) (by simp [go_sem]) (by simp [go_sem])
  clear hg ha
  go_enter Tryd.func116, Tryd.ntmps116
  go_wp2_with (first | (go_at_call 143; refine cA.mono ?_; rintro e wx ⟨rfl, hc, hbx⟩) | fail)
  go_ret
  exact ⟨rfl, hb1.trans hbx⟩

set_option maxRecDepth 100000 in
set_option maxHeartbeats 1000000 in
theorem Place_nil (w : World) : Calls Tryd.prog 70 #[.nilIface] w fun e w' => e = .returned (.tuple #[.int .i64 0, .int .i64 (-1)]) ∧ w' = w := by
  go_enter Tryd.func70, Tryd.ntmps70
  go_wp2_with (first | (go_at_call 116; refine (Tell_nil _).mono ?_; rintro e wx ⟨rfl, rfl⟩) | fail)
  refine wp_loop_rounds 1 ?_
  rw [rounds_succ]
  go_wp2
  go_ret2
  exact ⟨rfl, rfl⟩

theorem as_isPlace (a : Addr) (w : World) : (Instr.typeAssert (.iface 172 (.pointer (some a))) 29 172 true).run Tryd.prog w = .ok (.tuple #[.pointer (some a), .bool true]) w := by kernel_rfl

set_option maxRecDepth 100000 in
set_option maxHeartbeats 1000000 in
theorem Place_place (a : Nat) (n p : Int) (w : World) (hg : asLaid w) (ha : w.cell? ⟨a, 0, none⟩ = some (.int .i64 n)) (hp : w.cell? ⟨a, 1, none⟩ = some (.int .i64 p)) :
    Calls Tryd.prog 70 #[.iface 172 (.pointer (some ⟨a, 0, none⟩))] w fun e w' => e = .returned (.tuple #[.int .i64 n, .int .i64 p]) ∧ Below w.heap.size w w' := by
  have hal := World.block_lt_of_cell? w _ ha
  have cT := Tell_place a n w hg ha
  have iP := as_isPlace
  clear hg
  go_enter Tryd.func70, Tryd.ntmps70
  go_wp2_with (first | (go_at_call 116; refine cT.mono ?_; rintro e w1 ⟨rfl, hb1⟩; have hp1 := (hb1.cell (p := ⟨a, 1, none⟩) hal).trans hp) | fail)
  refine wp_loop_rounds 1 ?_
  rw [rounds_succ]
  go_wp2
  go_quiet (fail)
  go_wp2
  go_ret2
  exact ⟨rfl, below_drewN hb1 nq⟩

/-- What the law's 'is' is asked where it says yes. -/
theorem is_any_nil (w : World) : Calls Tryd.prog 17 #[.nilIface, .agg #[.int .i64 0, .int .i64 (-1)]] w fun e w' => e = .returned (.bool true) ∧ Below w.heap.size w w' := by
  go_enter Tryd.func17, Tryd.ntmps17
  go_wp2_with (first | (go_at_call 70; refine (Place_nil _).mono ?_; rintro e wx ⟨rfl, rfl⟩) | fail)
  go_ret
  exact ⟨rfl, (Below.refl _ _).alloc (Nat.le_refl _) _⟩

theorem is_any_place (a : Nat) (n p : Int) (w : World) (hg : asLaid w) (ha : w.cell? ⟨a, 0, none⟩ = some (.int .i64 n)) (hp : w.cell? ⟨a, 1, none⟩ = some (.int .i64 p)) :
    Calls Tryd.prog 17 #[.iface 172 (.pointer (some ⟨a, 0, none⟩)), .agg #[.int .i64 n, .int .i64 p]] w fun e w' => e = .returned (.bool true) ∧ Below w.heap.size w w' := by
  have hal := World.block_lt_of_cell? w _ ha
  have hgl := World.block_lt_of_cell? w _ hg
  have hb1 : Below w.heap.size w (w.alloc (.cells #[.int .i64 n, .int .i64 p] 25)) := (Below.refl _ _).alloc (Nat.le_refl _) _
  have cP := Place_place a n p (w.alloc (.cells #[.int .i64 n, .int .i64 p] 25)) (by unfold asLaid; rw [hb1.cell (p := ⟨3, 0, none⟩) hgl]; exact hg)
    (by rw [hb1.cell (p := ⟨a, 0, none⟩) hal]; exact ha) (by rw [hb1.cell (p := ⟨a, 1, none⟩) hal]; exact hp)
  clear hg ha hp
  go_enter Tryd.func17, Tryd.ntmps17
  go_wp2_with (first | (go_at_call 70; refine cP.mono ?_; rintro e w1 ⟨rfl, hb2⟩; have c0 : w1.cell? ⟨w.heap.size, 0, none⟩ = some (.int .i64 n) := (hb2.cell (p := ⟨w.heap.size, 0, none⟩) (by simp)).trans (by simp [go_sem]); have c1 : w1.cell? ⟨w.heap.size, 1, none⟩ = some (.int .i64 p) := (hb2.cell (p := ⟨w.heap.size, 1, none⟩) (by simp)).trans (by simp [go_sem])) | fail)
  go_ret
  exact ⟨rfl, hb1.trans (hb2.mono (by simp))⟩

/-- .. at the errors that utf returns. -/
theorem is_at {w0 w w2 : World} {v : Value} {p : Int} (hg : asLaid w) (h : isAt w0 w2 v p) (hb : Below w2.heap.size w2 w) :
    Calls Tryd.prog 17 #[v, .agg #[.int .i64 3, .int .i64 p]] w fun e w' => e = .returned (.bool true) ∧ Below w.heap.size w w' := by
  obtain ⟨b, rfl, _, h2, h3, h4⟩ := isAt_below h hb
  exact is_any_place b 3 p w hg h3 h4
theorem asLaid_below {w w' : World} (h : asLaid w) (hb : Below w.heap.size w w') : asLaid w' := by
  unfold asLaid
  rw [hb.cell (p := ⟨3, 0, none⟩) (World.block_lt_of_cell? w _ h)]
  exact h
end Go.Proofs.YtedonckeomccpaaDoor
