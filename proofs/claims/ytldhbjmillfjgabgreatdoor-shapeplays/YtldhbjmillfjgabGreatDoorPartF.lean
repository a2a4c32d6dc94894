/-
  errors.As at a target of the project's own number type: an error number; an error at a place, which unwraps to its number; no error. Then api.Tell, plain.Place and the law's own 'is'.
  errors.As at the project's number type, walked.
  errors.As, api.Tell, plain.Place and the law's 'is': at no error, and at an error at a place.
  errors.As, api.Tell, plain.Place and the law's 'is' and 'bare' at an error that is a number.
  ops.isOne, and what ops.Check says of any operation.
  Two operations side by side: the model of what Compose and Transform go through (pure).
  Gaps, from the left on (pure); the document's Transform over them.
  Side by side is gap by gap (pure), where puts stand alone in both.
  Transform: the program's pairs add up to the document's parts (pure).
  What a least form is made of (pure).
  rosettakeep's pick and fit: what comes is few parts that are not great.
  The library's contracts that these texts use, laid at this program by the shelf's own command, its plain mode.
-/
import Derived.Test.YtldhbjmillfjgabGreatDoorProg
import Derived.WalkKit
import Derived.WalkSpells
import Derived.WalkLawsBesides
import Derived.LaidEql
import Derived.Stop.Asserts
import Derived.RowKitTokens
import Derived.Deep.QuietTactic
import Derived.BigQuiet
import Derived.Test.YtldhbjmillfjgabGreatDoorPartA
import Derived.Test.YtldhbjmillfjgabGreatDoorPartE
import Derived.Test.YtldhbjmillfjgabGreatDoorPartD
import Derived.Test.YtldhbjmillfjgabGreatDoorPartB
import Derived.Shelf.Strings.Builder1
import Derived.Shelf.Small.Utf8
import Derived.Shelf.Strings.BuilderF
import Derived.Shelf.Strings.BuilderK
import Derived.Shelf.Utf8.AppendRune
import Derived.Shelf.Utf8.AppendRunePlain
import Derived.Shelf.Utf8.RuneCount
import Derived.Shelf.LaysM
import Derived.Shelf.Strconv.Clone
import Derived.Shelf.Strings.Search1
import Derived.Shelf.Strings.Search2
import Derived.Shelf.Strings.Search3
import Derived.Shelf.Strings.Count
import Derived.Shelf.Strings.Shaped
import Derived.Shelf.Strings.Split
import Derived.Shelf.Unicode.Decode
import Derived.Shelf.Strings.RuneCount
import Derived.Shelf.Unicode.DecodeSlow
import Derived.Shelf.Unicode.DecodeAny
import Derived.Shelf.Strings.BuilderCap
namespace Go.Proofs.YtldhbjmillfjgabGreatDoor
open Go.RowKit Go.Extern.Stop Go.Stop Go.Extern

theorem as_nil (t : Value) (w : World) :
    Calls Tryz.prog 80 #[.nilIface, t] w fun e w' => e = .returned (.bool false) ∧ w' = w := by
  go_enter Tryz.func80, Tryz.ntmps80
  go_wp2
  go_ret
  exact ⟨rfl, rfl⟩

theorem as_valueOf (t : Addr) (w : World) : (ReflectliteValue.unpack (.iface 152 (.pointer (some t)))).run Tryz.prog w
    = .ok (.agg #[.pointer (some ⟨4, 152, none⟩), .pointer (some ⟨w.heap.size, 0, none⟩), .int .u64 150]) (w.alloc (.cells #[.pointer (some t)] 152)) := by kernel_rfl
theorem as_type (a : Addr) (w : World) : (ReflectliteValue.methodAny (ReflectliteValue.valueError "reflectlite.Value.Type" 0) (fun t _ _ _ => ReflectliteType.toType t) #[.agg #[.pointer (some ⟨4, 152, none⟩), .pointer (some a), .int .u64 150]]).run Tryz.prog w
    = .ok (.iface 270 (.agg #[.pointer (some ⟨4, 152, none⟩)])) w := by kernel_rfl
theorem as_methodKind (h : Value) (w : World) : (Go.method 427 270 (.agg #[h]) "Kind").run Tryz.prog w = .ok (219, h) w := by kernel_rfl
theorem as_kindP (w : World) : ((ReflectliteType.abiMethod fun t => (fun a : Nat => Value.int IntKind.u8 (a : Int)) <$> Rtype.kind t) #[.pointer (some ⟨4, 152, none⟩)]).run Tryz.prog w = .ok (.int .u8 22) w := by kernel_rfl
theorem as_kindE (w : World) : ((ReflectliteType.abiMethod fun t => (fun a : Nat => Value.int IntKind.u8 (a : Int)) <$> Rtype.kind t) #[.pointer (some ⟨4, 26, none⟩)]).run Tryz.prog w = .ok (.int .u8 2) w := by kernel_rfl

theorem as_rlm (z : Sem Value) (f : TypeId → Addr → Nat → Nat → Sem Value) (v : Value) :
    ReflectliteValue.method z f #[v] = (do match ← ReflectliteValue.parts v with | none => z | some (t, a, fl) => f t a fl (fl % 32)) := rfl
theorem as_partsP (a : Addr) (w : World) : (ReflectliteValue.parts (.agg #[.pointer (some ⟨4, 152, none⟩), .pointer (some a), .int .u64 150])).run Tryz.prog w = .ok (some (152, a, 150)) w := by kernel_rfl
theorem as_isNil (a p : Addr) (W : World) (ha : W.cell? a = some (.pointer (some p))) :
    (ReflectliteValue.method (ReflectliteValue.valueError "reflectlite.Value.IsNil" 0) ReflectliteValue.isNil #[.agg #[.pointer (some ⟨4, 152, none⟩), .pointer (some a), .int .u64 150]]).run Tryz.prog W = .ok (.bool false) W := by
  rw [as_rlm]
  simp only [Sem.run_bind, as_partsP, Result.andThen]
  simp [ReflectliteValue.isNil, loadVar, isAgg, underlying, Tryz.underlying152, ha, Result.andThen]
theorem as_methodElem (h : Value) (w : World) : (Go.method 427 270 (.agg #[h]) "Elem").run Tryz.prog w = .ok (233, .agg #[h]) w := by kernel_rfl
theorem as_methodImplements (h : Value) (w : World) : (Go.method 427 270 (.agg #[h]) "Implements").run Tryz.prog w = .ok (234, .agg #[h]) w := by kernel_rfl
theorem as_methodAssignableTo (h : Value) (w : World) : (Go.method 427 270 (.agg #[h]) "AssignableTo").run Tryz.prog w = .ok (231, .agg #[h]) w := by kernel_rfl
theorem as_elem (w : World) : (ReflectliteType.method ReflectliteType.elem #[.agg #[.pointer (some ⟨4, 152, none⟩)]]).run Tryz.prog w = .ok (.iface 270 (.agg #[.pointer (some ⟨4, 26, none⟩)])) w := by kernel_rfl
theorem as_implements (w : World) : (ReflectliteType.relation "Implements" ReflectliteType.implements_ #[.agg #[.pointer (some ⟨4, 26, none⟩)], .iface 270 (.agg #[.pointer (some ⟨4, 33, none⟩)])]).run Tryz.prog w = .ok (.bool true) w := by kernel_rfl
theorem as_typeOfE (v : Value) (w : World) : (ReflectliteType.typeOf #[.iface 26 v]).run Tryz.prog w = .ok (.iface 270 (.agg #[.pointer (some ⟨4, 26, none⟩)])) w := by kernel_rfl
theorem as_typeOfA (v : Value) (w : World) : (ReflectliteType.typeOf #[.iface 233 v]).run Tryz.prog w = .ok (.iface 270 (.agg #[.pointer (some ⟨4, 233, none⟩)])) w := by kernel_rfl
theorem as_assignE (w : World) : (ReflectliteType.relation "AssignableTo" ReflectliteType.assignableTo #[.agg #[.pointer (some ⟨4, 26, none⟩)], .iface 270 (.agg #[.pointer (some ⟨4, 26, none⟩)])]).run Tryz.prog w = .ok (.bool true) w := by kernel_rfl
theorem as_assignA (w : World) : (ReflectliteType.relation "AssignableTo" ReflectliteType.assignableTo #[.agg #[.pointer (some ⟨4, 233, none⟩)], .iface 270 (.agg #[.pointer (some ⟨4, 26, none⟩)])]).run Tryz.prog w = .ok (.bool false) w := by kernel_rfl
theorem as_valueOfE (n : Int) (w : World) : (ReflectliteValue.unpack (.iface 26 (.int .i64 n))).run Tryz.prog w
    = .ok (.agg #[.pointer (some ⟨4, 26, none⟩), .pointer (some ⟨w.heap.size, 0, none⟩), .int .u64 130]) (w.alloc (.cells #[.int .i64 n] 26)) := by kernel_rfl
theorem as_elemOf (w : World) : (Rtype.elem? 152).run Tryz.prog w = .ok (some 26) w := by kernel_rfl
theorem as_mk (p : Addr) (w : World) : (ReflectliteValue.mk 26 p ReflectliteValue.flagAddr).run Tryz.prog w = .ok (.agg #[.pointer (some ⟨4, 26, none⟩), .pointer (some p), .int .u64 386]) w := by kernel_rfl
theorem as_elemV (a p : Addr) (W : World) (ha : W.cell? a = some (.pointer (some p))) :
    (ReflectliteValue.method (ReflectliteValue.valueError "reflectlite.Value.Elem" 0) ReflectliteValue.elem #[.agg #[.pointer (some ⟨4, 152, none⟩), .pointer (some a), .int .u64 150]]).run Tryz.prog W
      = .ok (.agg #[.pointer (some ⟨4, 26, none⟩), .pointer (some p), .int .u64 386]) W := by
  rw [as_rlm]
  simp only [Sem.run_bind, as_partsP, Result.andThen]
  simp [ReflectliteValue.elem, loadVar, isAgg, underlying, Tryz.underlying152, ha, Result.andThen, as_elemOf, as_mk]
theorem as_rls (v x : Value) : ReflectliteValue.set #[v, x] = (do
    let (some (dst, a, fl), some (src, b, _)) := (← ReflectliteValue.parts v, ← ReflectliteValue.parts x)
      | unsupported (.noEntry "extern/(internal/reflectlite.Value).Set.zeroValue")
    if fl / ReflectliteValue.flagAddr % 2 == 0 then unsupported (.noEntry "extern/(internal/reflectlite.Value).Set.unaddressable")
    let val ← loadVar src b
    if ← Rtype.directlyAssignable dst src then storeVar dst a val
    else if ← Rtype.implements dst src then
      if (← Rtype.kind src) == 20 then
        match val with
        | .nilIface => unsupported (.noEntry "extern/reflectlite: a nil value of one interface type handed on as a value of another")
        | _ => storeVar dst a val
      else storeVar dst a (.iface src val)
    else panicString ("reflectlite.Set: value of type " ++ (← Rtype.spelt src) ++ " is not assignable to type " ++ (← Rtype.spelt dst))
    pure (.tuple #[])) := rfl
theorem as_partsD (a : Addr) (w : World) : (ReflectliteValue.parts (.agg #[.pointer (some ⟨4, 26, none⟩), .pointer (some a), .int .u64 386])).run Tryz.prog w = .ok (some (26, a, 386)) w := by kernel_rfl
theorem as_partsE (a : Addr) (w : World) : (ReflectliteValue.parts (.agg #[.pointer (some ⟨4, 26, none⟩), .pointer (some a), .int .u64 130])).run Tryz.prog w = .ok (some (26, a, 130)) w := by kernel_rfl
theorem as_direct (w : World) : (Rtype.directlyAssignable 26 26).run Tryz.prog w = .ok true w := by kernel_rfl
theorem as_set (ta b : Addr) (n : Int) (old : Value) (W : World) (hb : W.cell? b = some (.int .i64 n)) (ht : W.cell? ta = some old) (hf : W.frozen? ta = false) :
    (ReflectliteValue.set #[.agg #[.pointer (some ⟨4, 26, none⟩), .pointer (some ta), .int .u64 386], .agg #[.pointer (some ⟨4, 26, none⟩), .pointer (some b), .int .u64 130]]).run Tryz.prog W
      = .ok (.tuple #[]) (W.setCell ta (.int .i64 n)) := by
  rw [as_rls]
  simp only [Sem.run_bind, as_partsD, as_partsE, Result.andThen]
  simp [ReflectliteValue.flagAddr, loadVar, isAgg, underlying, Tryz.underlying26, hb, Result.andThen, as_direct, storeVar, Value.cells, storeCells, Addr.add]
  rw [run_store Tryz.prog W ta _ _ (by rfl)]
  simp [ht, hf]
theorem as_noAs (v : Value) (xT : TypeId) (w : World) : (Instr.typeAssert (.iface 233 v) xT 275 true).run Tryz.prog w = .ok (.tuple #[.nilIface, .bool false]) w := run_typeAssert_lacksB Tryz.underlying275 (by kernel_rfl) (by kernel_rfl) v xT w
theorem as_hasUnwrap (v : Value) (xT : TypeId) (w : World) : (Instr.typeAssert (.iface 233 v) xT 236 true).run Tryz.prog w = .ok (.tuple #[.iface 233 v, .bool true]) w := run_typeAssert_hasB Tryz.underlying236 (by kernel_rfl) v xT w
theorem as_unwrapAhead (a : Addr) (w : World) : (nilAhead 427 233 (.pointer (some a)) "Unwrap").run Tryz.prog w = .ok (some false) w := by kernel_rfl
theorem as_methodUnwrap (a : Addr) (w : World) : (Go.method 427 233 (.pointer (some a)) "Unwrap").run Tryz.prog w = .ok (229, .pointer (some a)) w := by kernel_rfl

set_option maxHeartbeats 400000 in
theorem unwrap_any (a : Nat) (n : Int) (w : World) (h : w.cell? ⟨a, 0, none⟩ = some (.int .i64 n)) :
    Calls Tryz.prog 229 #[.pointer (some ⟨a, 0, none⟩)] w fun e w' => e = .returned (.iface 26 (.int .i64 n)) ∧ w' = w := by
  go_enter Tryz.func229, Tryz.ntmps229
  go_wp2
  go_ret
  exact ⟨rfl, rfl⟩

/-- What the walks of errors.As want of the library's variable. -/
def asLaid (w : World) : Prop := w.cell? ⟨0, 0, none⟩ = some (.iface 270 (.agg #[.pointer (some ⟨4, 33, none⟩)]))

/-- errors.as at the number itself: the target's variable is set. -/
def target (q : Nat) : Value := .agg #[.pointer (some ⟨4, 152, none⟩), .pointer (some ⟨q, 0, none⟩), .int .u64 150]

end Go.Proofs.YtldhbjmillfjgabGreatDoor

namespace Go.Proofs.YtldhbjmillfjgabGreatDoor
open Go.RowKit Go.Extern.Stop Go.Stop Go.Extern

theorem set_below {w : World} {t : Nat} {n : Int} {old : Value} (ht : w.cell? ⟨t, 0, none⟩ = some old) (o1 o2 : Obj) :
    (((w.setCell ⟨t, 0, none⟩ (.int .i64 n)).alloc o1).alloc o2).cell? ⟨t, 0, none⟩ = some (.int .i64 n) ∧ Below t w (((w.setCell ⟨t, 0, none⟩ (.int .i64 n)).alloc o1).alloc o2) := by
  have htl := World.block_lt_of_cell? w _ ht
  have hz : (w.setCell ⟨t, 0, none⟩ (.int .i64 n)).heap.size = w.heap.size := by simp
  have h1 : t < (w.setCell ⟨t, 0, none⟩ (.int .i64 n)).heap.size := by rw [hz]; exact htl
  refine ⟨?_, ?_⟩
  · rw [World.cell?_alloc_lt _ _ ⟨t, 0, none⟩ (by rw [World.size_alloc]; exact Nat.lt_succ_of_lt h1), World.cell?_alloc_lt _ _ ⟨t, 0, none⟩ h1]
    exact World.cell?_setCell_same _ _ _ ht
  · exact ((((Below.refl t w).setCell (p := ⟨t, 0, none⟩) (Nat.le_refl _) _)).alloc (Nat.le_of_lt h1) _).alloc (by rw [World.size_alloc]; exact Nat.le_succ_of_le (Nat.le_of_lt h1)) _

set_option maxRecDepth 100000 in
set_option maxHeartbeats 4000000 in
theorem as_number (n : Int) (t q : Nat) (old : Value) (w : World) (hq : w.cell? ⟨q, 0, none⟩ = some (.pointer (some ⟨t, 0, none⟩))) (ht : w.cell? ⟨t, 0, none⟩ = some old) (hf : w.frozen? ⟨t, 0, none⟩ = false) :
    Calls Tryz.prog 136 #[.iface 26 (.int .i64 n), .iface 152 (.pointer (some ⟨t, 0, none⟩)), target q, .iface 270 (.agg #[.pointer (some ⟨4, 26, none⟩)])] w
      fun e w' => e = .returned (.bool true) ∧ w'.cell? ⟨t, 0, none⟩ = some (.int .i64 n) ∧ Below t w w' := by
  have hTO := @run_callFunc_extern Tryz.prog 170 _ ReflectliteType.typeOf Tryz.func170 (by kernel_rfl) (by kernel_rfl) (by kernel_rfl) (by kernel_rfl)
  have hAT := @run_callFunc_extern Tryz.prog 231 _ (ReflectliteType.relation "AssignableTo" ReflectliteType.assignableTo) Tryz.func231 (by kernel_rfl) (by kernel_rfl) (by kernel_rfl) (by kernel_rfl)
  have hVE := @run_callFunc_extern Tryz.prog 171 _ (ReflectliteValue.method (ReflectliteValue.valueError "reflectlite.Value.Elem" 0) ReflectliteValue.elem) Tryz.func171 (by kernel_rfl) (by kernel_rfl) (by kernel_rfl) (by kernel_rfl)
  have hVS := @run_callFunc_extern Tryz.prog 172 _ ReflectliteValue.set Tryz.func172 (by kernel_rfl) (by kernel_rfl) (by kernel_rfl) (by kernel_rfl)
  have hVO := @run_callFunc_extern Tryz.prog 133 _ (fun args => ReflectliteValue.unpack (args.getD 0 (.tuple #[]))) Tryz.func133 (by kernel_rfl) (by kernel_rfl) (by kernel_rfl) (by kernel_rfl)
  have tE := as_typeOfE
  have tA := as_typeOfA
  have mA := as_methodAssignableTo
  have aE := as_assignE
  have aA := as_assignA
  have vE := as_valueOfE
  have nA := as_noAs
  have hU := as_hasUnwrap
  have uA := as_unwrapAhead
  have mU := as_methodUnwrap
  have htl := World.block_lt_of_cell? w _ ht
  have hql := World.block_lt_of_cell? w _ hq
  have hq2 : (w.alloc (.cells #[.pointer (some ⟨4, 152, none⟩), .pointer (some ⟨q, 0, none⟩), .int .u64 150] 221)).cell? ⟨q, 0, none⟩ = some (.pointer (some ⟨t, 0, none⟩)) := by
    rw [World.cell?_alloc_lt _ _ ⟨q, 0, none⟩ hql]; exact hq
  have el := as_elemV ⟨q, 0, none⟩ ⟨t, 0, none⟩ (w.alloc (.cells #[.pointer (some ⟨4, 152, none⟩), .pointer (some ⟨q, 0, none⟩), .int .u64 150] 221)) hq2
  have st := as_set ⟨t, 0, none⟩ ⟨w.heap.size + 1, 0, none⟩ n old ((w.alloc (.cells #[.pointer (some ⟨4, 152, none⟩), .pointer (some ⟨q, 0, none⟩), .int .u64 150] 221)).alloc (.cells #[.int .i64 n] 26))
    (by rw [World.cell?_alloc_at _ _ _ _ (by simp)]; rfl)
    (by rw [World.cell?_alloc_lt _ _ ⟨t, 0, none⟩ (by rw [World.size_alloc]; exact Nat.lt_succ_of_lt htl), World.cell?_alloc_lt _ _ ⟨t, 0, none⟩ htl]; exact ht)
    (by rw [World.frozen?_alloc_old _ _ ⟨t, 0, none⟩ (by rw [World.size_alloc]; exact Nat.ne_of_lt (Nat.lt_succ_of_lt htl)), World.frozen?_alloc_old _ _ ⟨t, 0, none⟩ (Nat.ne_of_lt htl)]; exact hf)
  have fin := fun o1 o2 => @set_below w t n old ht o1 o2
  have HF : Hid (∀ o1 o2, _ ∧ _) := fin
  clear fin
  clear hq ht hf hq2
  unfold target
  go_enter Tryz.func136, Tryz.ntmps136
  go_wp2
  refine wp_loop_rounds 1 ?_
  rw [rounds_succ]
  go_wp2
  go_ret
  exact ⟨rfl, HF.out _ _⟩

set_option maxRecDepth 100000 in
set_option maxHeartbeats 4000000 in
theorem as_place (a : Nat) (n : Int) (t q : Nat) (old : Value) (w : World) (ha : w.cell? ⟨a, 0, none⟩ = some (.int .i64 n)) (hq : w.cell? ⟨q, 0, none⟩ = some (.pointer (some ⟨t, 0, none⟩))) (ht : w.cell? ⟨t, 0, none⟩ = some old) (hf : w.frozen? ⟨t, 0, none⟩ = false) :
    Calls Tryz.prog 136 #[.iface 233 (.pointer (some ⟨a, 0, none⟩)), .iface 152 (.pointer (some ⟨t, 0, none⟩)), target q, .iface 270 (.agg #[.pointer (some ⟨4, 26, none⟩)])] w
      fun e w' => e = .returned (.bool true) ∧ w'.cell? ⟨t, 0, none⟩ = some (.int .i64 n) ∧ Below t w w' := by
  have hTO := @run_callFunc_extern Tryz.prog 170 _ ReflectliteType.typeOf Tryz.func170 (by kernel_rfl) (by kernel_rfl) (by kernel_rfl) (by kernel_rfl)
  have hAT := @run_callFunc_extern Tryz.prog 231 _ (ReflectliteType.relation "AssignableTo" ReflectliteType.assignableTo) Tryz.func231 (by kernel_rfl) (by kernel_rfl) (by kernel_rfl) (by kernel_rfl)
  have hVE := @run_callFunc_extern Tryz.prog 171 _ (ReflectliteValue.method (ReflectliteValue.valueError "reflectlite.Value.Elem" 0) ReflectliteValue.elem) Tryz.func171 (by kernel_rfl) (by kernel_rfl) (by kernel_rfl) (by kernel_rfl)
  have hVS := @run_callFunc_extern Tryz.prog 172 _ ReflectliteValue.set Tryz.func172 (by kernel_rfl) (by kernel_rfl) (by kernel_rfl) (by kernel_rfl)
  have hVO := @run_callFunc_extern Tryz.prog 133 _ (fun args => ReflectliteValue.unpack (args.getD 0 (.tuple #[]))) Tryz.func133 (by kernel_rfl) (by kernel_rfl) (by kernel_rfl) (by kernel_rfl)
  have tE := as_typeOfE
  have tA := as_typeOfA
  have mA := as_methodAssignableTo
  have aE := as_assignE
  have aA := as_assignA
  have vE := as_valueOfE
  have nA := as_noAs
  have hU := as_hasUnwrap
  have uA := as_unwrapAhead
  have mU := as_methodUnwrap
  have htl := World.block_lt_of_cell? w _ ht
  have hql := World.block_lt_of_cell? w _ hq
  have hq2 : (w.alloc (.cells #[.pointer (some ⟨4, 152, none⟩), .pointer (some ⟨q, 0, none⟩), .int .u64 150] 221)).cell? ⟨q, 0, none⟩ = some (.pointer (some ⟨t, 0, none⟩)) := by
    rw [World.cell?_alloc_lt _ _ ⟨q, 0, none⟩ hql]; exact hq
  have el := as_elemV ⟨q, 0, none⟩ ⟨t, 0, none⟩ (w.alloc (.cells #[.pointer (some ⟨4, 152, none⟩), .pointer (some ⟨q, 0, none⟩), .int .u64 150] 221)) hq2
  have st := as_set ⟨t, 0, none⟩ ⟨w.heap.size + 1, 0, none⟩ n old ((w.alloc (.cells #[.pointer (some ⟨4, 152, none⟩), .pointer (some ⟨q, 0, none⟩), .int .u64 150] 221)).alloc (.cells #[.int .i64 n] 26))
    (by rw [World.cell?_alloc_at _ _ _ _ (by simp)]; rfl)
    (by rw [World.cell?_alloc_lt _ _ ⟨t, 0, none⟩ (by rw [World.size_alloc]; exact Nat.lt_succ_of_lt htl), World.cell?_alloc_lt _ _ ⟨t, 0, none⟩ htl]; exact ht)
    (by rw [World.frozen?_alloc_old _ _ ⟨t, 0, none⟩ (by rw [World.size_alloc]; exact Nat.ne_of_lt (Nat.lt_succ_of_lt htl)), World.frozen?_alloc_old _ _ ⟨t, 0, none⟩ (Nat.ne_of_lt htl)]; exact hf)
  have fin := fun o1 o2 => @set_below w t n old ht o1 o2
  have HF : Hid (∀ o1 o2, _ ∧ _) := fin
  clear fin
  have hal := World.block_lt_of_cell? w _ ha
  have ha2 : (w.alloc (.cells #[.pointer (some ⟨4, 152, none⟩), .pointer (some ⟨q, 0, none⟩), .int .u64 150] 221)).cell? ⟨a, 0, none⟩ = some (.int .i64 n) := by
    rw [World.cell?_alloc_lt _ _ ⟨a, 0, none⟩ hal]; exact ha
  have cU := unwrap_any a n _ ha2
  clear hq ht hf hq2 ha ha2
  unfold target
  go_enter Tryz.func136, Tryz.ntmps136
  go_wp2
  refine wp_loop_rounds 2 ?_
  rw [rounds_succ]
  go_wp2_with (first | (go_at_call 229; refine cU.mono ?_; rintro e wx ⟨rfl, rfl⟩) | fail)
  rw [rounds_succ]
  go_wp2
  go_ret
  exact ⟨rfl, HF.out _ _⟩
end Go.Proofs.YtldhbjmillfjgabGreatDoor

namespace Go.Proofs.YtldhbjmillfjgabGreatDoor
open Go.RowKit Go.Extern.Stop Go.Stop Go.Extern

set_option maxRecDepth 100000 in
set_option maxHeartbeats 4000000 in
theorem As_place (a : Nat) (n : Int) (t : Nat) (old : Value) (w : World) (hg : asLaid w) (ha : w.cell? ⟨a, 0, none⟩ = some (.int .i64 n)) (ht : w.cell? ⟨t, 0, none⟩ = some old) (hf : w.frozen? ⟨t, 0, none⟩ = false) :
    Calls Tryz.prog 80 #[.iface 233 (.pointer (some ⟨a, 0, none⟩)), .iface 152 (.pointer (some ⟨t, 0, none⟩))] w
      fun e w' => e = .returned (.bool true) ∧ w'.cell? ⟨t, 0, none⟩ = some (.int .i64 n) ∧ Below t w w' := by
  have hVO := @run_callFunc_extern Tryz.prog 133 _ (fun args => ReflectliteValue.unpack (args.getD 0 (.tuple #[]))) Tryz.func133 (by kernel_rfl) (by kernel_rfl) (by kernel_rfl) (by kernel_rfl)
  have hTy := @run_callFunc_extern Tryz.prog 134 _ (ReflectliteValue.methodAny (ReflectliteValue.valueError "reflectlite.Value.Type" 0) (fun t _ _ _ => ReflectliteType.toType t)) Tryz.func134 (by kernel_rfl) (by kernel_rfl) (by kernel_rfl) (by kernel_rfl)
  have hIN := @run_callFunc_extern Tryz.prog 135 _ (ReflectliteValue.method (ReflectliteValue.valueError "reflectlite.Value.IsNil" 0) ReflectliteValue.isNil) Tryz.func135 (by kernel_rfl) (by kernel_rfl) (by kernel_rfl) (by kernel_rfl)
  have hKd := @run_callFunc_extern Tryz.prog 219 _ (ReflectliteType.abiMethod fun t => do pure (.int .u8 (← Rtype.kind t))) Tryz.func219 (by kernel_rfl) (by kernel_rfl) (by kernel_rfl) (by kernel_rfl)
  have hEl := @run_callFunc_extern Tryz.prog 233 _ (ReflectliteType.method ReflectliteType.elem) Tryz.func233 (by kernel_rfl) (by kernel_rfl) (by kernel_rfl) (by kernel_rfl)
  have hIm := @run_callFunc_extern Tryz.prog 234 _ (ReflectliteType.relation "Implements" ReflectliteType.implements_) Tryz.func234 (by kernel_rfl) (by kernel_rfl) (by kernel_rfl) (by kernel_rfl)
  have f6 := as_valueOf
  have f7 := as_type
  have mK := as_methodKind
  have mE := as_methodElem
  have mI := as_methodImplements
  have k92 := as_kindP
  have k23 := as_kindE
  have e92 := as_elem
  have i23 := as_implements
  have htl := World.block_lt_of_cell? w _ ht
  have hal := World.block_lt_of_cell? w _ ha
  have hgl := World.block_lt_of_cell? w _ hg
  obtain ⟨o1, ho1⟩ : ∃ o, o = Obj.cells #[.pointer (some ⟨t, 0, none⟩)] 152 := ⟨_, rfl⟩
  obtain ⟨o2, ho2⟩ : ∃ o, o = Obj.cells #[.pointer (some ⟨4, 152, none⟩), .pointer (some ⟨w.heap.size, 0, none⟩), .int .u64 150] 221 := ⟨_, rfl⟩
  have hn8 := as_isNil ⟨w.heap.size, 0, none⟩ ⟨t, 0, none⟩ ((w.alloc o1).alloc o2) (by rw [World.cell?_alloc_lt _ _ ⟨w.heap.size, 0, none⟩ (by rw [World.size_alloc]; exact Nat.lt_succ_self _), ho1]; simp [go_sem])
  have hg2 : ((w.alloc o1).alloc o2).cell? ⟨0, 0, none⟩ = some (.iface 270 (.agg #[.pointer (some ⟨4, 33, none⟩)])) := by
    rw [World.cell?_alloc_lt _ _ ⟨0, 0, none⟩ (by rw [World.size_alloc]; exact Nat.lt_succ_of_lt hgl), World.cell?_alloc_lt _ _ ⟨0, 0, none⟩ hgl]; exact hg
  have hb2 : Below w.heap.size w ((w.alloc o1).alloc o2) := ((Below.refl _ _).alloc (Nat.le_refl _) _).alloc (by rw [World.size_alloc]; exact Nat.le_succ _) _
  have cA := as_place a n t w.heap.size old ((w.alloc o1).alloc o2)
    (by rw [hb2.cell (p := ⟨a, 0, none⟩) hal]; exact ha)
    (by rw [World.cell?_alloc_lt _ _ ⟨w.heap.size, 0, none⟩ (by rw [World.size_alloc]; exact Nat.lt_succ_self _), ho1]; simp [go_sem])
    (by rw [hb2.cell (p := ⟨t, 0, none⟩) htl]; exact ht)
    (by rw [hb2.frozen (p := ⟨t, 0, none⟩) htl]; exact hf)
  unfold target at cA
  subst ho1 ho2
  have HB : Hid (Below t w _) := hb2.mono (Nat.le_of_lt htl)
  clear ha ht hf hg hb2
  go_enter Tryz.func80, Tryz.ntmps80
  go_wp2_with (first | (go_at_call 136; refine cA.mono ?_; rintro e wx ⟨rfl, hc, hbx⟩) | fail)
  go_ret
  exact ⟨rfl, hc, HB.out.trans hbx⟩

set_option maxHeartbeats 400000 in
theorem Tell_nil (w : World) : Calls Tryz.prog 23 #[.nilIface] w fun e w' => e = .returned (.int .i64 0) ∧ w' = w := by
  go_enter Tryz.func23, Tryz.ntmps23
  go_wp2
  go_ret
  exact ⟨rfl, rfl⟩

set_option maxRecDepth 100000 in
set_option maxHeartbeats 1000000 in
theorem Tell_place (a : Nat) (n : Int) (w : World) (hg : asLaid w) (ha : w.cell? ⟨a, 0, none⟩ = some (.int .i64 n)) :
    Calls Tryz.prog 23 #[.iface 233 (.pointer (some ⟨a, 0, none⟩))] w fun e w' => e = .returned (.int .i64 n) ∧ Below w.heap.size w w' := by
  have hal := World.block_lt_of_cell? w _ ha
  have hgl := World.block_lt_of_cell? w _ hg
  have hb1 : Below w.heap.size w (w.alloc (.cells #[.int .i64 0] 26)) := (Below.refl _ _).alloc (Nat.le_refl _) _
  have cA := As_place a n w.heap.size (.int .i64 0) (w.alloc (.cells #[.int .i64 0] 26)) (by unfold asLaid; rw [hb1.cell (p := ⟨0, 0, none⟩) hgl]; exact hg)
    (by rw [hb1.cell (p := ⟨a, 0, none⟩) hal]; exact ha) (by simp [go_sem]) (by simp [go_sem])
  clear hg ha
  go_enter Tryz.func23, Tryz.ntmps23
  go_wp2_with (first | (go_at_call 80; refine cA.mono ?_; rintro e wx ⟨rfl, hc, hbx⟩) | fail)
  go_ret
  exact ⟨rfl, hb1.trans hbx⟩

set_option maxRecDepth 100000 in
set_option maxHeartbeats 1000000 in
theorem Place_nil (w : World) : Calls Tryz.prog 86 #[.nilIface] w fun e w' => e = .returned (.tuple #[.int .i64 0, .int .i64 (-1)]) ∧ w' = w := by
  go_enter Tryz.func86, Tryz.ntmps86
  go_wp2_with (first | (go_at_call 23; refine (Tell_nil _).mono ?_; rintro e wx ⟨rfl, rfl⟩) | fail)
  refine wp_loop_rounds 1 ?_
  rw [rounds_succ]
  go_wp2
  go_ret2
  exact ⟨rfl, rfl⟩

theorem as_isPlace (a : Addr) (w : World) : (Instr.typeAssert (.iface 233 (.pointer (some a))) 33 233 true).run Tryz.prog w = .ok (.tuple #[.pointer (some a), .bool true]) w := by kernel_rfl

set_option maxRecDepth 100000 in
set_option maxHeartbeats 1000000 in
theorem Place_place (a : Nat) (n p : Int) (w : World) (hg : asLaid w) (ha : w.cell? ⟨a, 0, none⟩ = some (.int .i64 n)) (hp : w.cell? ⟨a, 1, none⟩ = some (.int .i64 p)) :
    Calls Tryz.prog 86 #[.iface 233 (.pointer (some ⟨a, 0, none⟩))] w fun e w' => e = .returned (.tuple #[.int .i64 n, .int .i64 p]) ∧ Below w.heap.size w w' := by
  have hal := World.block_lt_of_cell? w _ ha
  have cT := Tell_place a n w hg ha
  have iP := as_isPlace
  clear hg
  go_enter Tryz.func86, Tryz.ntmps86
  go_wp2_with (first | (go_at_call 23; refine cT.mono ?_; rintro e w1 ⟨rfl, hb1⟩; have hp1 := (hb1.cell (p := ⟨a, 1, none⟩) hal).trans hp) | fail)
  refine wp_loop_rounds 1 ?_
  rw [rounds_succ]
  go_wp2
  go_quiet (fail)
  go_wp2
  go_ret2
  exact ⟨rfl, below_drewN hb1 nq⟩

/-- What the law's 'is' is asked where it says yes. -/
theorem is_any_nil (w : World) : Calls Tryz.prog 26 #[.nilIface, .agg #[.int .i64 0, .int .i64 (-1)]] w fun e w' => e = .returned (.bool true) ∧ Below w.heap.size w w' := by
  go_enter Tryz.func26, Tryz.ntmps26
  go_wp2_with (first | (go_at_call 86; refine (Place_nil _).mono ?_; rintro e wx ⟨rfl, rfl⟩) | fail)
  go_ret
  exact ⟨rfl, (Below.refl _ _).alloc (Nat.le_refl _) _⟩

theorem is_any_place (a : Nat) (n p : Int) (w : World) (hg : asLaid w) (ha : w.cell? ⟨a, 0, none⟩ = some (.int .i64 n)) (hp : w.cell? ⟨a, 1, none⟩ = some (.int .i64 p)) :
    Calls Tryz.prog 26 #[.iface 233 (.pointer (some ⟨a, 0, none⟩)), .agg #[.int .i64 n, .int .i64 p]] w fun e w' => e = .returned (.bool true) ∧ Below w.heap.size w w' := by
  have hal := World.block_lt_of_cell? w _ ha
  have hgl := World.block_lt_of_cell? w _ hg
  have hb1 : Below w.heap.size w (w.alloc (.cells #[.int .i64 n, .int .i64 p] 28)) := (Below.refl _ _).alloc (Nat.le_refl _) _
  have cP := Place_place a n p (w.alloc (.cells #[.int .i64 n, .int .i64 p] 28)) (by unfold asLaid; rw [hb1.cell (p := ⟨0, 0, none⟩) hgl]; exact hg)
    (by rw [hb1.cell (p := ⟨a, 0, none⟩) hal]; exact ha) (by rw [hb1.cell (p := ⟨a, 1, none⟩) hal]; exact hp)
  clear hg ha hp
  go_enter Tryz.func26, Tryz.ntmps26
  go_wp2_with (first | (go_at_call 86; refine cP.mono ?_; rintro e w1 ⟨rfl, hb2⟩; have c0 : w1.cell? ⟨w.heap.size, 0, none⟩ = some (.int .i64 n) := (hb2.cell (p := ⟨w.heap.size, 0, none⟩) (by simp)).trans (by simp [go_sem]); have c1 : w1.cell? ⟨w.heap.size, 1, none⟩ = some (.int .i64 p) := (hb2.cell (p := ⟨w.heap.size, 1, none⟩) (by simp)).trans (by simp [go_sem])) | fail)
  go_ret
  exact ⟨rfl, hb1.trans (hb2.mono (by simp))⟩

/-- .. at the errors that utf returns. -/
theorem is_at {w0 w w2 : World} {v : Value} {p : Int} (hg : asLaid w) (h : isAt w0 w2 v p) (hb : Below w2.heap.size w2 w) :
    Calls Tryz.prog 26 #[v, .agg #[.int .i64 3, .int .i64 p]] w fun e w' => e = .returned (.bool true) ∧ Below w.heap.size w w' := by
  obtain ⟨b, rfl, _, h2, h3, h4⟩ := isAt_below h hb
  exact is_any_place b 3 p w hg h3 h4
theorem asLaid_below {w w' : World} (h : asLaid w) (hb : Below w.heap.size w w') : asLaid w' := by
  unfold asLaid
  rw [hb.cell (p := ⟨0, 0, none⟩) (World.block_lt_of_cell? w _ h)]
  exact h
end Go.Proofs.YtldhbjmillfjgabGreatDoor

namespace Go.Proofs.YtldhbjmillfjgabGreatDoor
open Go.RowKit Go.Extern.Stop Go.Stop Go.Extern

set_option maxRecDepth 100000 in
set_option maxHeartbeats 4000000 in
theorem As_number (n : Int) (t : Nat) (old : Value) (w : World) (hg : asLaid w) (ht : w.cell? ⟨t, 0, none⟩ = some old) (hf : w.frozen? ⟨t, 0, none⟩ = false) :
    Calls Tryz.prog 80 #[.iface 26 (.int .i64 n), .iface 152 (.pointer (some ⟨t, 0, none⟩))] w
      fun e w' => e = .returned (.bool true) ∧ w'.cell? ⟨t, 0, none⟩ = some (.int .i64 n) ∧ Below t w w' := by
  have hVO := @run_callFunc_extern Tryz.prog 133 _ (fun args => ReflectliteValue.unpack (args.getD 0 (.tuple #[]))) Tryz.func133 (by kernel_rfl) (by kernel_rfl) (by kernel_rfl) (by kernel_rfl)
  have hTy := @run_callFunc_extern Tryz.prog 134 _ (ReflectliteValue.methodAny (ReflectliteValue.valueError "reflectlite.Value.Type" 0) (fun t _ _ _ => ReflectliteType.toType t)) Tryz.func134 (by kernel_rfl) (by kernel_rfl) (by kernel_rfl) (by kernel_rfl)
  have hIN := @run_callFunc_extern Tryz.prog 135 _ (ReflectliteValue.method (ReflectliteValue.valueError "reflectlite.Value.IsNil" 0) ReflectliteValue.isNil) Tryz.func135 (by kernel_rfl) (by kernel_rfl) (by kernel_rfl) (by kernel_rfl)
  have hKd := @run_callFunc_extern Tryz.prog 219 _ (ReflectliteType.abiMethod fun t => do pure (.int .u8 (← Rtype.kind t))) Tryz.func219 (by kernel_rfl) (by kernel_rfl) (by kernel_rfl) (by kernel_rfl)
  have hEl := @run_callFunc_extern Tryz.prog 233 _ (ReflectliteType.method ReflectliteType.elem) Tryz.func233 (by kernel_rfl) (by kernel_rfl) (by kernel_rfl) (by kernel_rfl)
  have hIm := @run_callFunc_extern Tryz.prog 234 _ (ReflectliteType.relation "Implements" ReflectliteType.implements_) Tryz.func234 (by kernel_rfl) (by kernel_rfl) (by kernel_rfl) (by kernel_rfl)
  have f6 := as_valueOf
  have f7 := as_type
  have mK := as_methodKind
  have mE := as_methodElem
  have mI := as_methodImplements
  have k92 := as_kindP
  have k23 := as_kindE
  have e92 := as_elem
  have i23 := as_implements
  have htl := World.block_lt_of_cell? w _ ht
  have hgl := World.block_lt_of_cell? w _ hg
  obtain ⟨o1, ho1⟩ : ∃ o, o = Obj.cells #[.pointer (some ⟨t, 0, none⟩)] 152 := ⟨_, rfl⟩
  obtain ⟨o2, ho2⟩ : ∃ o, o = Obj.cells #[.pointer (some ⟨4, 152, none⟩), .pointer (some ⟨w.heap.size, 0, none⟩), .int .u64 150] 221 := ⟨_, rfl⟩
  have hn8 := as_isNil ⟨w.heap.size, 0, none⟩ ⟨t, 0, none⟩ ((w.alloc o1).alloc o2) (by rw [World.cell?_alloc_lt _ _ ⟨w.heap.size, 0, none⟩ (by rw [World.size_alloc]; exact Nat.lt_succ_self _), ho1]; simp [go_sem])
  have hg2 : ((w.alloc o1).alloc o2).cell? ⟨0, 0, none⟩ = some (.iface 270 (.agg #[.pointer (some ⟨4, 33, none⟩)])) := by
    rw [World.cell?_alloc_lt _ _ ⟨0, 0, none⟩ (by rw [World.size_alloc]; exact Nat.lt_succ_of_lt hgl), World.cell?_alloc_lt _ _ ⟨0, 0, none⟩ hgl]; exact hg
  have hb2 : Below w.heap.size w ((w.alloc o1).alloc o2) := ((Below.refl _ _).alloc (Nat.le_refl _) _).alloc (by rw [World.size_alloc]; exact Nat.le_succ _) _
  have cA := as_number n t w.heap.size old ((w.alloc o1).alloc o2)
    (by rw [World.cell?_alloc_lt _ _ ⟨w.heap.size, 0, none⟩ (by rw [World.size_alloc]; exact Nat.lt_succ_self _), ho1]; simp [go_sem])
    (by rw [hb2.cell (p := ⟨t, 0, none⟩) htl]; exact ht)
    (by rw [hb2.frozen (p := ⟨t, 0, none⟩) htl]; exact hf)
  unfold target at cA
  subst ho1 ho2
  have HB : Hid (Below t w _) := hb2.mono (Nat.le_of_lt htl)
  clear ht hf hg hb2
  go_enter Tryz.func80, Tryz.ntmps80
  go_wp2_with (first | (go_at_call 136; refine cA.mono ?_; rintro e wx ⟨rfl, hc, hbx⟩) | fail)
  go_ret
  exact ⟨rfl, hc, HB.out.trans hbx⟩

set_option maxRecDepth 100000 in
set_option maxHeartbeats 1000000 in
theorem Tell_number (n : Int) (w : World) (hg : asLaid w) :
    Calls Tryz.prog 23 #[.iface 26 (.int .i64 n)] w fun e w' => e = .returned (.int .i64 n) ∧ Below w.heap.size w w' := by
  have hgl := World.block_lt_of_cell? w _ hg
  have hb1 : Below w.heap.size w (w.alloc (.cells #[.int .i64 0] 26)) := (Below.refl _ _).alloc (Nat.le_refl _) _
  have cA := As_number n w.heap.size (.int .i64 0) (w.alloc (.cells #[.int .i64 0] 26)) (by unfold asLaid; rw [hb1.cell (p := ⟨0, 0, none⟩) hgl]; exact hg)
    (by simp [go_sem]) (by simp [go_sem])
  clear hg
  go_enter Tryz.func23, Tryz.ntmps23
  go_wp2_with (first | (go_at_call 80; refine cA.mono ?_; rintro e wx ⟨rfl, hc, hbx⟩) | fail)
  go_ret
  exact ⟨rfl, hb1.trans hbx⟩

theorem num_isPlace (n : Int) (w : World) : (Instr.typeAssert (.iface 26 (.int .i64 n)) 33 233 true).run Tryz.prog w = .ok (.tuple #[.pointer none, .bool false]) w := by kernel_rfl
theorem num_noUnwrap (v : Value) (xT : TypeId) (w : World) : (Instr.typeAssert (.iface 26 v) xT 236 true).run Tryz.prog w = .ok (.tuple #[.nilIface, .bool false]) w := run_typeAssert_lacksB Tryz.underlying236 (by kernel_rfl) (by kernel_rfl) v xT w

set_option maxRecDepth 100000 in
set_option maxHeartbeats 1000000 in
theorem Place_number (n : Int) (w : World) (hg : asLaid w) :
    Calls Tryz.prog 86 #[.iface 26 (.int .i64 n)] w fun e w' => e = .returned (.tuple #[.int .i64 n, .int .i64 (-1)]) ∧ Below w.heap.size w w' := by
  have cT := Tell_number n w hg
  have iP := num_isPlace
  have nU := num_noUnwrap
  clear hg
  go_enter Tryz.func86, Tryz.ntmps86
  go_wp2_with (first | (go_at_call 23; refine cT.mono ?_; rintro e w1 ⟨rfl, hb1⟩) | fail)
  refine wp_loop_rounds 1 ?_
  rw [rounds_succ]
  go_wp2
  go_ret2
  exact ⟨rfl, hb1⟩

theorem is_any_number (n : Int) (w : World) (hg : asLaid w) : Calls Tryz.prog 26 #[.iface 26 (.int .i64 n), .agg #[.int .i64 n, .int .i64 (-1)]] w fun e w' => e = .returned (.bool true) ∧ Below w.heap.size w w' := by
  have hb1 : Below w.heap.size w (w.alloc (.cells #[.int .i64 n, .int .i64 (-1)] 28)) := (Below.refl _ _).alloc (Nat.le_refl _) _
  have cP := Place_number n (w.alloc (.cells #[.int .i64 n, .int .i64 (-1)] 28)) (asLaid_below hg hb1)
  clear hg
  go_enter Tryz.func26, Tryz.ntmps26
  go_wp2_with (first | (go_at_call 86; refine cP.mono ?_; rintro e w1 ⟨rfl, hb2⟩; have c0 : w1.cell? ⟨w.heap.size, 0, none⟩ = some (.int .i64 n) := (hb2.cell (p := ⟨w.heap.size, 0, none⟩) (by simp)).trans (by simp [go_sem]); have c1 : w1.cell? ⟨w.heap.size, 1, none⟩ = some (.int .i64 (-1)) := (hb2.cell (p := ⟨w.heap.size, 1, none⟩) (by simp)).trans (by simp [go_sem])) | fail)
  go_ret
  exact ⟨rfl, hb1.trans (hb2.mono (by simp))⟩

/-- An error number, or none. -/
def errV (n : Int) : Value := if n = 0 then .nilIface else .iface 26 (.int .i64 n)

/-- The law's 'bare', where both tell the same. -/
theorem bare_any (n : Int) (w : World) (hg : asLaid w) : Calls Tryz.prog 13 #[errV n, .int .i64 n] w fun e w' => e = .returned (.bool true) ∧ Below w.heap.size w w' := by
  have cB := Bare_any n w
  unfold errV
  by_cases h : n = 0
  · subst h
    simp only [if_true]
    clear hg
    go_enter Tryz.func13, Tryz.ntmps13
    go_wp2_with (first | (go_at_call 65; refine cB.mono ?_; rintro e w1 ⟨rfl, hb1⟩) | (go_at_call 26; refine (is_any_nil _).mono ?_; rintro e w2 ⟨rfl, hb2⟩) | fail)
    go_ret
    exact ⟨rfl, hb1.trans (hb2.mono hb1.size)⟩
  · simp only [h, if_false]
    have HG : Hid (∀ wx, Below w.heap.size w wx → asLaid wx) := fun wx hb => asLaid_below hg hb
    clear hg
    go_enter Tryz.func13, Tryz.ntmps13
    go_wp2_with (first | (go_at_call 65; refine cB.mono ?_; rintro e w1 ⟨rfl, hb1⟩) | (go_at_call 26; refine (is_any_number n _ (HG.out _ hb1)).mono ?_; rintro e w2 ⟨rfl, hb2⟩) | fail)
    go_ret
    exact ⟨rfl, hb1.trans (hb2.mono hb1.size)⟩
end Go.Proofs.YtldhbjmillfjgabGreatDoor

namespace Go.Proofs.YtldhbjmillfjgabGreatDoor
open Go.RowKit
set_option linter.unusedVariables false

def oneB (p : Pt) : Bool := if p.drop = 0 ∧ p.put = [] then decide (0 < p.keep) else if p.keep = 0 ∧ p.put = [] then decide (0 < p.drop) else decide (p.keep = 0 ∧ p.drop = 0)
def chk1 : List Pt → Int
  | [] => 0
  | p :: ps => if oneB p then (if (scan p.put).2 then chk1 ps else 3) else 1
def chk2 : List Pt → Int → Int
  | [], n => if n = 0 then 0 else 2
  | p :: ps, n => if n < p.keep + p.drop then 2 else chk2 ps (n - (p.keep + p.drop))
def chkE (ps : List Pt) (n : Int) : Int := if chk1 ps = 0 then chk2 ps n else chk1 ps

set_option maxHeartbeats 1000000 in
theorem isOne_any (p : Pt) (w : World) : Calls Tryz.prog 121 #[partV p] w fun e w' => e = .returned (.bool (oneB p)) ∧ Below w.heap.size w w' := by
  obtain ⟨k, d, q⟩ := p
  have cK := isKeep_any ⟨k, d, q⟩
  have cD := isDrop_any ⟨k, d, q⟩
  unfold oneB
  unfold partV at *
  simp only at cK cD ⊢
  by_cases hq : q = []
  · subst hq
    by_cases hd : d = 0
    · subst hd
      go_enter Tryz.func121, Tryz.ntmps121
      go_wp2_with (first | (go_at_call 83; refine (cK _).mono ?_; rintro e w1 ⟨rfl, hb1⟩) | fail)
      go_ret
      exact ⟨by simp, ((Below.refl _ _).alloc (Nat.le_refl _) _).trans (hb1.mono (by simp))⟩
    · have hdb : (d == 0) = false := beq_eq_false_iff_ne.2 hd
      by_cases hk : k = 0
      · subst hk
        go_enter Tryz.func121, Tryz.ntmps121
        go_wp2_with (first | (go_at_call 165; refine (cD _).mono ?_; rintro e w1 ⟨rfl, hb1⟩) | fail)
        go_ret
        exact ⟨by simp, ((Below.refl _ _).alloc (Nat.le_refl _) _).trans (hb1.mono (by simp))⟩
      · have hkb : (k == 0) = false := beq_eq_false_iff_ne.2 hk
        go_enter Tryz.func121, Tryz.ntmps121
        go_wp2
        go_ret
        exact ⟨by simp, (Below.refl _ _).alloc (Nat.le_refl _) _⟩
  · have ho : (if d = 0 ∧ q = [] then decide (0 < k) else if k = 0 ∧ q = [] then decide (0 < d) else decide (k = 0 ∧ d = 0)) = decide (k = 0 ∧ d = 0) := by simp [hq]
    rw [ho]
    clear ho
    have HD : Hid (decide (k = 0 ∧ d = 0) = (k == 0 && d == 0)) := by show _ = _; by_cases h1 : k = 0 <;> by_cases h2 : d = 0 <;> simp [h1, h2]
    rw [HD.out]
    by_cases hd : d = 0
    · subst hd
      by_cases hk : k = 0
      · subst hk
        go_enter Tryz.func121, Tryz.ntmps121
        go_wp2
        go_ret
        exact ⟨rfl, (Below.refl _ _).alloc (Nat.le_refl _) _⟩
      · have hkb : (k == 0) = false := beq_eq_false_iff_ne.2 hk
        go_enter Tryz.func121, Tryz.ntmps121
        go_wp2
        go_ret
        exact ⟨rfl, (Below.refl _ _).alloc (Nat.le_refl _) _⟩
    · have hdb : (d == 0) = false := beq_eq_false_iff_ne.2 hd
      by_cases hk : k = 0
      · subst hk
        go_enter Tryz.func121, Tryz.ntmps121
        go_wp2
        go_ret
        exact ⟨rfl, (Below.refl _ _).alloc (Nat.le_refl _) _⟩
      · have hkb : (k == 0) = false := beq_eq_false_iff_ne.2 hk
        go_enter Tryz.func121, Tryz.ntmps121
        go_wp2
        go_ret
        exact ⟨by rw [hkb]; rfl, (Below.refl _ _).alloc (Nat.le_refl _) _⟩

def wfP (p : Pt) : Prop := -9223372036854775808 ≤ p.keep ∧ p.keep < 9223372036854775808 ∧ -9223372036854775808 ≤ p.drop ∧ p.drop < 9223372036854775808 ∧ p.put.length < 1000000000000

theorem one_sound {p : Pt} (h : oneB p = true) : soundP p ∧ (p.keep = 0 ∨ p.drop = 0) := by
  unfold oneB at h
  unfold soundP
  split at h
  · rename_i h1
    have := of_decide_eq_true h
    exact ⟨⟨by omega, by omega⟩, .inr h1.1⟩
  · split at h
    · rename_i h1
      have := of_decide_eq_true h
      exact ⟨⟨by omega, by omega⟩, .inl h1.1⟩
    · have := of_decide_eq_true h
      exact ⟨⟨by omega, by omega⟩, .inl this.1⟩

theorem chk1_ones {ps : List Pt} (h : chk1 ps = 0) : ∀ p ∈ ps, oneB p = true ∧ (scan p.put).2 = true := by
  induction ps with
  | nil => simp
  | cons p ps ih =>
    unfold chk1 at h
    split at h
    · rename_i h1
      split at h
      · rename_i h2
        intro q hq
        rcases List.mem_cons.1 hq with rfl | hq
        · exact ⟨h1, h2⟩
        · exact ih h q hq
      · cases h
    · cases h

set_option maxRecDepth 100000 in
set_option maxHeartbeats 4000000 in
theorem Check_any (v : Value) (ps : List Pt) (N : Int) (w : World) (hT : Lib.Utf8Tabs 2 3 w) (hr : opAt w v ps) (hwf : ∀ p ∈ ps, wfP p) (hN : -9223372036854775808 ≤ N ∧ N < 9223372036854775808) (hl : ps.length < 10000000) :
    Calls Tryz.prog 68 #[v, .int .i64 N] w fun e w' => e = .returned (errV (chkE ps N)) ∧ Below w.heap.size w w' := by
  obtain ⟨p, c, rfl, r1, r2, r3⟩ := hr
  obtain ⟨n, hn⟩ : ∃ n, n = ps.length := ⟨_, rfl⟩
  rw [← hn] at r1 hl ⊢
  have HN : Hid (n = ps.length) := hn
  clear hn
  have R3 : Hid (ps ≠ [] → ∃ b o, p = some ⟨b, o, none⟩ ∧ b < w.heap.size ∧ ∀ i q, ps[i]? = some q →
    w.cell? ⟨b, o + i * 3, none⟩ = some (.int .i64 q.keep) ∧ w.cell? ⟨b, o + i * 3 + 1, none⟩ = some (.int .i64 q.drop) ∧ w.cell? ⟨b, o + i * 3 + 2, none⟩ = some (.string ⟨q.put.toArray⟩)) := r3
  have HWF : Hid (∀ p ∈ ps, wfP p) := hwf
  have HT : Hid (Lib.Utf8Tabs 2 3 w) := hT
  obtain ⟨hN0, hN1⟩ := hN
  clear r3 hwf hT
  go_enter Tryz.func68, Tryz.ntmps68
  go_wp2
  go_loopw [11] (fun i wr => ∃ (k : Nat), k ≤ n ∧ i = .int .i64 k ∧ chk1 ps = chk1 (ps.drop k) ∧ Below w.heap.size w wr) (fun i _ => n - (intOf i).toNat)
  case atStart => exact ⟨0, Nat.zero_le _, rfl, rfl, Below.refl _ _⟩
  case round =>
    obtain ⟨k, hk, rfl, hch, hwr⟩ := hrel
    by_cases hlt : k < n
    · have hkr : k < ps.length := by rw [← HN.out]; exact hlt
      have hne : ps ≠ [] := by intro e; rw [e] at hkr; exact absurd hkr (Nat.not_lt_zero _)
      obtain ⟨b, o, rfl, hbw, hcell⟩ := R3.out hne
      obtain ⟨c0, c1, c2⟩ := hcell k ps[k] (List.getElem?_eq_getElem hkr)
      have g0 := (hwr.cell (p := ⟨b, o + k * 3, none⟩) hbw).trans c0
      have g1 := (hwr.cell (p := ⟨b, o + k * 3 + 1, none⟩) hbw).trans c1
      have g2 := (hwr.cell (p := ⟨b, o + k * 3 + 2, none⟩) hbw).trans c2
      rw [List.drop_eq_getElem_cons hkr, chk1] at hch
      have hwq := HWF.out ps[k] (List.getElem_mem _)
      generalize ps[k] = q at *
      have hsize := hwr.size
      have HWR : Hid (Below w.heap.size w wr) := hwr
      have hb0 : Below wr.heap.size wr (wr.alloc (.cells #[.int .i64 q.keep, .int .i64 q.drop, .string ⟨q.put.toArray⟩] 50)) := (Below.refl _ _).alloc (Nat.le_refl _) _
      have HB0 : Hid (Below w.heap.size w (wr.alloc (.cells #[.int .i64 q.keep, .int .i64 q.drop, .string ⟨q.put.toArray⟩] 50))) := hwr.trans (hb0.mono hsize)
      have x2 : (wr.alloc (.cells #[.int .i64 q.keep, .int .i64 q.drop, .string ⟨q.put.toArray⟩] 50)).cell? ⟨wr.heap.size, 2, none⟩ = some (.string ⟨q.put.toArray⟩) := by simp [go_sem]
      have X2 : Hid _ := x2
      have cO := isOne_any q
      unfold partV at cO
      have cV : Hid (∀ wx, Below w.heap.size w wx → Calls Tryz.prog 122 #[.string ⟨q.put.toArray⟩] wx fun e w' => e = .returned (.bool (scan q.put).2) ∧ Below wx.heap.size wx w') := fun wx hb =>
        ValidString_any ⟨q.put.toArray⟩ wx (by have := hwq.2.2.2.2; simp [ByteArray.size]; omega) (Go.Proofs.Utf8Tabs_below HT.out hb)
      by_cases h1 : oneB q = true
      · rw [if_pos h1] at hch
        rw [h1] at cO
        by_cases h2 : (scan q.put).2 = true
        · rw [if_pos h2] at hch
          rw [h2] at cV
          have HCH : Hid (chk1 ps = chk1 (ps.drop (k + 1))) := hch
          clear hcell c0 c1 c2 hch hwq hwr hb0 x2 HWF h1 h2
          go_wp2_with (first | (go_at_call 121; refine (cO _).mono ?_; rintro e w1 ⟨rfl, hb1⟩; have HB1 : Hid (Below w.heap.size w w1) := HB0.out.trans (hb1.mono HB0.out.size); have hc2 := (hb1.cell (p := ⟨wr.heap.size, 2, none⟩) (by simp)).trans X2.out; clear hb1) | (go_at_call 122; refine (cV.out _ HB1.out).mono ?_; rintro e w2 ⟨rfl, hb2⟩; have HB2 : Hid (Below w.heap.size w w2) := HB1.out.trans (hb2.mono HB1.out.size); clear hb2) | fail)
          go_roundw
          case rel => exact ⟨k + 1, by omega, by go_num, HCH.out, HB2.out⟩
          case measure => simp [intOf]; omega
        · have h2 : (scan q.put).2 = false := Bool.eq_false_iff.2 h2
          rw [h2] at hch cV
          have HCH : Hid (chk1 ps = 3) := by show chk1 ps = 3; simpa using hch
          clear hcell c0 c1 c2 hch hwq hwr hb0 x2 HWF h1 h2
          go_wp2_with (first | (go_at_call 121; refine (cO _).mono ?_; rintro e w1 ⟨rfl, hb1⟩; have HB1 : Hid (Below w.heap.size w w1) := HB0.out.trans (hb1.mono HB0.out.size); have hc2 := (hb1.cell (p := ⟨wr.heap.size, 2, none⟩) (by simp)).trans X2.out; clear hb1) | (go_at_call 122; refine (cV.out _ HB1.out).mono ?_; rintro e w2 ⟨rfl, hb2⟩; have HB2 : Hid (Below w.heap.size w w2) := HB1.out.trans (hb2.mono HB1.out.size); clear hb2) | fail)
          go_ret
          refine ⟨?_, HB2.out⟩
          unfold chkE
          rw [HCH.out]
          rfl
      · have h1 : oneB q = false := Bool.eq_false_iff.2 h1
        rw [h1] at hch cO
        have HCH : Hid (chk1 ps = 1) := by show chk1 ps = 1; simpa using hch
        clear hcell c0 c1 c2 hch hwq hwr hb0 x2 HWF h1
        go_wp2_with (first | (go_at_call 121; refine (cO _).mono ?_; rintro e w1 ⟨rfl, hb1⟩; have HB1 : Hid (Below w.heap.size w w1) := HB0.out.trans (hb1.mono HB0.out.size); clear hb1) | fail)
        go_ret
        refine ⟨?_, HB1.out⟩
        unfold chkE
        rw [HCH.out]
        rfl
    · have e : ps.drop k = [] := List.drop_of_length_le (by rw [← HN.out]; omega)
      rw [e] at hch
      have H0 : Hid (chk1 ps = 0) := hch
      have HWR : Hid (Below w.heap.size w wr) := hwr
      have HON : Hid (∀ p ∈ ps, soundP p ∧ (p.keep = 0 ∨ p.drop = 0)) := fun p hp => one_sound (chk1_ones hch p hp).1
      clear e hch hwr
      go_wp2
      go_loopw [1, 27] (fun m i wr => ∃ (k : Nat) (M : Int), k ≤ n ∧ i = .int .i64 k ∧ m = .int .i64 M ∧ -9223372036854775808 ≤ M ∧ M < 9223372036854775808 ∧ chk2 ps N = chk2 (ps.drop k) M ∧ Below w.heap.size w wr) (fun _ i _ => n - (intOf i).toNat)
      case atStart => exact ⟨0, N, Nat.zero_le _, rfl, rfl, hN0, hN1, rfl, HWR.out⟩
      case round =>
        obtain ⟨k, M, hk, rfl, rfl, hM0, hM1, hch, hwr⟩ := hrel
        by_cases hlt : k < n
        · have hkr : k < ps.length := by rw [← HN.out]; exact hlt
          have hne : ps ≠ [] := by intro e; rw [e] at hkr; exact absurd hkr (Nat.not_lt_zero _)
          obtain ⟨b, o, rfl, hbw, hcell⟩ := R3.out hne
          obtain ⟨c0, c1, c2⟩ := hcell k ps[k] (List.getElem?_eq_getElem hkr)
          have g0 := (hwr.cell (p := ⟨b, o + k * 3, none⟩) hbw).trans c0
          have g1 := (hwr.cell (p := ⟨b, o + k * 3 + 1, none⟩) hbw).trans c1
          have g2 := (hwr.cell (p := ⟨b, o + k * 3 + 2, none⟩) hbw).trans c2
          rw [List.drop_eq_getElem_cons hkr, chk2] at hch
          have hwq := HWF.out ps[k] (List.getElem_mem _)
          have hon := HON.out ps[k] (List.getElem_mem _)
          generalize ps[k] = q at *
          obtain ⟨⟨s0, s1⟩, s2⟩ := hon
          have hsum0 : 0 ≤ q.keep + q.drop := by omega
          have hsum1 : q.keep + q.drop < 9223372036854775808 := by have := hwq.2.1; have := hwq.2.2.2.1; omega
          have hw1 : IntKind.i64.wrap (q.keep + q.drop) = q.keep + q.drop := by rw [IntKind.wrap_i64]; omega
          have HB0 : Hid (Below w.heap.size w (wr.alloc (.cells #[.int .i64 q.keep, .int .i64 q.drop, .string ⟨q.put.toArray⟩] 50))) := hwr.alloc hwr.size _
          by_cases h1 : M < q.keep + q.drop
          · rw [if_pos h1] at hch
            have HCH : Hid (chk2 ps N = 2) := hch
            clear hcell c0 c1 c2 hch hwq hwr HWF s2
            go_wp2
            go_ret
            refine ⟨?_, HB0.out⟩
            unfold chkE
            rw [if_pos H0.out, HCH.out]
            rfl
          · rw [if_neg h1] at hch
            have HCH : Hid (chk2 ps N = chk2 (ps.drop (k + 1)) (M - (q.keep + q.drop))) := hch
            have hw2 : IntKind.i64.wrap (M - (q.keep + q.drop)) = M - (q.keep + q.drop) := by rw [IntKind.wrap_i64]; omega
            clear hcell c0 c1 c2 hch hwq hwr HWF s2
            go_wp2
            go_roundw
            case rel => exact ⟨k + 1, M - (q.keep + q.drop), by omega, by go_num, by first | rfl | go_num, by omega, by omega, HCH.out, HB0.out⟩
            case measure => simp [intOf]; omega
        · have e : ps.drop k = [] := List.drop_of_length_le (by rw [← HN.out]; omega)
          rw [e, chk2] at hch
          have HX : Hid (Below w.heap.size w wr) := hwr
          by_cases h0 : M = 0
          · rw [if_pos h0] at hch
            subst h0
            have HCH : Hid (chk2 ps N = 0) := hch
            clear e hch hwr
            go_wp2
            go_ret
            refine ⟨?_, HX.out⟩
            unfold chkE
            rw [if_pos H0.out, HCH.out]
            rfl
          · rw [if_neg h0] at hch
            have hmb : (M == 0) = false := beq_eq_false_iff_ne.2 h0
            have HCH : Hid (chk2 ps N = 2) := hch
            clear e hch hwr
            go_wp2
            go_ret
            refine ⟨?_, HX.out⟩
            unfold chkE
            rw [if_pos H0.out, HCH.out]
            rfl
end Go.Proofs.YtldhbjmillfjgabGreatDoor

namespace Go.Proofs.YtldhbjmillfjgabGreatDoor
set_option linter.unusedVariables false

/-- Whatever the gaps: gathered, they are what their parts add up to. -/
theorem gather_runG (G : GSt) : gatherP G = tellP (runG G) := by
  unfold gatherP
  obtain ⟨h1, h2⟩ := steps_any G.1 kst0 inv0
  obtain ⟨f1, f2, f3, f4⟩ := step_flush _ h2 G.2 false
  rw [endK_nf, f1, h1]
  · rfl
  · intro hk
    by_cases hq : G.2 ≠ [] ∨ false = true
    · rw [f2 hq] at hk; omega
    · rw [f3 hq] at hk ⊢
      exact ⟨(h2.quiet hk).1, (h2.quiet hk).2.1⟩

def lengthP (p : Pt) : Int := p.keep + p.drop + p.put.length
def noP : Pt := ⟨0, 0, []⟩
/-- So much off a first part; what is left of it. -/
def cutP (p : Pt) (n : Int) : Pt × List Pt :=
  if lengthP p = n then (p, [])
  else if 0 < p.keep then (⟨n, 0, []⟩, [⟨p.keep - n, p.drop, p.put⟩])
  else if 0 < p.drop then (⟨0, n, []⟩, [⟨p.keep, p.drop - n, p.put⟩])
  else (⟨0, 0, p.put.take n.toNat⟩, [⟨p.keep, p.drop, p.put.drop n.toNat⟩])
/-- The pairs that are taken, from the left on. -/
def sideP (la lb : Pt → Bool) : Nat → List Pt → List Pt → List (Pt × Pt)
  | 0, _, _ => []
  | f + 1, p :: a, b => if la p then (p, noP) :: sideP la lb f a b else match b with
    | q :: b => if lb q then (noP, q) :: sideP la lb f (p :: a) b else
      ((cutP p (min (lengthP p) (lengthP q))).1, (cutP q (min (lengthP p) (lengthP q))).1) :: sideP la lb f ((cutP p (min (lengthP p) (lengthP q))).2 ++ a) ((cutP q (min (lengthP p) (lengthP q))).2 ++ b)
    | [] => []
  | f + 1, [], q :: b => if lb q then (noP, q) :: sideP la lb f [] b else []
  | f + 1, [], [] => []

def isDropP (p : Pt) : Bool := decide (0 < p.drop)
def isKeepP (p : Pt) : Bool := decide (0 < p.keep)
def isPutP (p : Pt) : Bool := decide (p.put ≠ [])
/-- What Compose adds of a pair. -/
def compP (x : Pt × Pt) : List Pt := if isDropP x.1 || isKeepP x.2 then [x.1] else if isPutP x.2 || isKeepP x.1 then [x.2] else []
/-- What Transform adds of a pair. -/
def turnP (x : Pt × Pt) : List Pt := if isPutP x.2 then [⟨x.2.put.length, 0, []⟩] else if isPutP x.1 || isKeepP x.2 then [x.1] else []

/-- A part that is one thing, and not nothing. -/
def oneP (p : Pt) : Prop := (0 < p.keep ∧ p.drop = 0 ∧ p.put = []) ∨ (p.keep = 0 ∧ 0 < p.drop ∧ p.put = []) ∨ (p.keep = 0 ∧ p.drop = 0 ∧ p.put ≠ [])
theorem length_pos {p : Pt} (h : oneP p) : 0 < lengthP p := by
  unfold lengthP
  rcases h with ⟨h1, h2, h3⟩ | ⟨h1, h2, h3⟩ | ⟨h1, h2, h3⟩
  · rw [h2, h3]; simp; omega
  · rw [h1, h3]; simp; omega
  · have := List.length_pos_iff.2 h3; omega
theorem cut_one {p : Pt} (h : oneP p) {n : Int} (h0 : 0 < n) (hn : n ≤ lengthP p) : oneP (cutP p n).1 ∧ lengthP (cutP p n).1 = n ∧ (∀ q ∈ (cutP p n).2, oneP q ∧ lengthP q = lengthP p - n) ∧ ((cutP p n).2 = [] ↔ lengthP p = n) := by
  unfold cutP
  by_cases e : lengthP p = n
  · rw [if_pos e]; exact ⟨h, e, by simp, by simp [e]⟩
  · rw [if_neg e]
    obtain ⟨K, D, U⟩ := p
    have e' : ¬ K + D + (U.length : Int) = n := e
    have hn' : n ≤ K + D + (U.length : Int) := hn
    clear e hn
    rcases h with ⟨h1, h2, h3⟩ | ⟨h1, h2, h3⟩ | ⟨h1, h2, h3⟩
    · replace h1 : 0 < K := h1
      obtain rfl : D = 0 := h2
      obtain rfl : U = [] := h3
      have hl : (([] : List UInt8).length : Int) = 0 := rfl
      rw [hl] at e' hn'
      rw [if_pos (show 0 < (⟨K, 0, []⟩ : Pt).keep from h1)]
      refine ⟨.inl ⟨h0, rfl, rfl⟩, by simp [lengthP], ?_, ⟨fun h => (by cases h), fun h => absurd h (by simp only [lengthP, List.length_nil]; omega)⟩⟩
      intro q hq
      obtain rfl := List.mem_singleton.1 hq
      exact ⟨.inl ⟨by show 0 < K - n; omega, rfl, rfl⟩, by simp only [lengthP, List.length_nil]; omega⟩
    · obtain rfl : K = 0 := h1
      replace h2 : 0 < D := h2
      obtain rfl : U = [] := h3
      have hl : (([] : List UInt8).length : Int) = 0 := rfl
      rw [hl] at e' hn'
      rw [if_neg (show ¬ 0 < (⟨0, D, []⟩ : Pt).keep from Int.lt_irrefl 0), if_pos (show 0 < (⟨0, D, []⟩ : Pt).drop from h2)]
      refine ⟨.inr (.inl ⟨rfl, h0, rfl⟩), by simp [lengthP], ?_, ⟨fun h => (by cases h), fun h => absurd h (by simp only [lengthP, List.length_nil]; omega)⟩⟩
      intro q hq
      obtain rfl := List.mem_singleton.1 hq
      exact ⟨.inr (.inl ⟨rfl, by show 0 < D - n; omega, rfl⟩), by simp only [lengthP, List.length_nil]; omega⟩
    · obtain rfl : K = 0 := h1
      obtain rfl : D = 0 := h2
      replace h3 : U ≠ [] := h3
      rw [if_neg (show ¬ 0 < (⟨0, 0, U⟩ : Pt).keep from Int.lt_irrefl 0), if_neg (show ¬ 0 < (⟨0, 0, U⟩ : Pt).drop from Int.lt_irrefl 0)]
      have hl : (U.take n.toNat).length = n.toNat := by rw [List.length_take]; omega
      have hd : (U.drop n.toNat).length = U.length - n.toNat := List.length_drop
      refine ⟨.inr (.inr ⟨rfl, rfl, ?_⟩), by simp only [lengthP, hl]; omega, ?_, ⟨fun h => (by cases h), fun h => absurd h (by simp only [lengthP]; omega)⟩⟩
      · intro e'
        have := congrArg List.length e'
        rw [hl, List.length_nil] at this
        omega
      · intro q hq
        obtain rfl := List.mem_singleton.1 hq
        refine ⟨.inr (.inr ⟨rfl, rfl, ?_⟩), by simp only [lengthP, hd]; omega⟩
        intro e'
        have := congrArg List.length e'
        rw [hd, List.length_nil] at this
        omega
end Go.Proofs.YtldhbjmillfjgabGreatDoor

namespace Go.Proofs.YtldhbjmillfjgabGreatDoor
set_option linter.unusedVariables false

theorem ticks_shift (d : Bool) : ∀ (n : Nat) (l : List (List UInt8 × Bool)) (g : GSt), ticks d n (l ++ g.1, g.2) = (l ++ (ticks d n g).1, (ticks d n g).2)
  | 0, l, g => rfl
  | n + 1, l, g => by
    rw [ticks, ticks]
    have e : tick d (l ++ g.1, g.2) = (l ++ (tick d g).1, (tick d g).2) := by simp [tick]
    rw [e]
    exact ticks_shift d n l (tick d g)
theorem spreadP_shift (l : List (List UInt8 × Bool)) (g : GSt) (p : Pt) : spreadP (l ++ g.1, g.2) p = (l ++ (spreadP g p).1, (spreadP g p).2) := by
  unfold spreadP
  rw [ticks_shift true p.drop.toNat l (g.1, g.2 ++ p.put), ticks_shift]
/-- The gaps of what is yet to come, with what was put ahead of it. -/
def gapsR : List UInt8 → List Pt → GSt
  | acc, [] => ([], acc)
  | acc, p :: ps => ((spreadP ([], acc) p).1 ++ (gapsR (spreadP ([], acc) p).2 ps).1, (gapsR (spreadP ([], acc) p).2 ps).2)
theorem spreads_gaps (ps : List Pt) : ∀ (l : List (List UInt8 × Bool)) (acc : List UInt8), ps.foldl spreadP (l, acc) = (l ++ (gapsR acc ps).1, (gapsR acc ps).2) := by
  induction ps with
  | nil => intro l acc; simp [gapsR]
  | cons p ps ih =>
    intro l acc
    have e := spreadP_shift l ([], acc) p
    rw [List.append_nil] at e
    rw [List.foldl_cons, e, ih]
    simp [gapsR]
theorem spreads_eq (ps : List Pt) : spreads ps = gapsR [] ps := by
  have := spreads_gaps ps [] []
  simpa [spreads] using this
theorem gaps_put (acc u : List UInt8) (ps : List Pt) : gapsR acc (⟨0, 0, u⟩ :: ps) = gapsR (acc ++ u) ps := by
  simp [gapsR, spreadP, ticks]
theorem ticks_one (d : Bool) : ∀ (n : Nat) (acc : List UInt8), ticks d (n + 1) ([], acc) = ((acc, d) :: List.replicate n ([], d), [])
  | 0, acc => by simp [ticks, tick]
  | n + 1, acc => by
    rw [ticks_more, ticks_one d n acc]
    simp [tick, List.replicate_succ']
theorem gaps_keep (acc : List UInt8) (n : Nat) (ps : List Pt) : gapsR acc (⟨(n : Int) + 1, 0, []⟩ :: ps) = ((acc, false) :: List.replicate n ([], false) ++ (gapsR [] ps).1, (gapsR [] ps).2) := by
  have h1 : ((n : Int) + 1).toNat = n + 1 := by omega
  have h2 := ticks_one false n acc
  rw [ticks] at h2
  simp only [gapsR, spreadP, h1, Int.toNat_zero, ticks, List.append_nil, h2]
theorem gaps_drop (acc : List UInt8) (n : Nat) (ps : List Pt) : gapsR acc (⟨0, (n : Int) + 1, []⟩ :: ps) = ((acc, true) :: List.replicate n ([], true) ++ (gapsR [] ps).1, (gapsR [] ps).2) := by
  have h1 : ((n : Int) + 1).toNat = n + 1 := by omega
  have h2 := ticks_one true n acc
  rw [ticks] at h2
  simp only [gapsR, spreadP, h1, Int.toNat_zero, ticks, List.append_nil, h2]

/-- What the document's Transform adds, gap by gap: b says that the other's put is counted first. -/
def docT (first : Bool) : List (List UInt8 × Bool) → List UInt8 → List (List UInt8 × Bool) → List UInt8 → List Pt
  | (u, d) :: x, xl, (v, e) :: y, yl => (if first then [⟨0, 0, u⟩, ⟨v.length, 0, []⟩] else [⟨v.length, 0, []⟩, ⟨0, 0, u⟩]) ++ (if e then [] else [unitP d]) ++ docT first x xl y yl
  | _, xl, _, yl => if first then [⟨0, 0, xl⟩, ⟨yl.length, 0, []⟩] else [⟨yl.length, 0, []⟩, ⟨0, 0, xl⟩]
end Go.Proofs.YtldhbjmillfjgabGreatDoor

namespace Go.Proofs.YtldhbjmillfjgabGreatDoor
set_option linter.unusedVariables false

def unitK (d : Bool) (k : Nat) : Pt := if d then ⟨0, k, []⟩ else ⟨k, 0, []⟩
theorem one_cases {p : Pt} (h : oneP p) : (∃ u, u ≠ [] ∧ p = ⟨0, 0, u⟩) ∨ ∃ d n, p = unitK d (n + 1) := by
  obtain ⟨K, D, U⟩ := p
  rcases h with ⟨h1, h2, h3⟩ | ⟨h1, h2, h3⟩ | ⟨h1, h2, h3⟩
  · obtain rfl : D = 0 := h2
    obtain rfl : U = [] := h3
    replace h1 : 0 < K := h1
    refine .inr ⟨false, K.toNat - 1, ?_⟩
    have : K = ((K.toNat - 1 + 1 : Nat) : Int) := by omega
    show (⟨K, 0, []⟩ : Pt) = ⟨((K.toNat - 1 + 1 : Nat) : Int), 0, []⟩
    rw [← this]
  · obtain rfl : K = 0 := h1
    obtain rfl : U = [] := h3
    replace h2 : 0 < D := h2
    refine .inr ⟨true, D.toNat - 1, ?_⟩
    have : D = ((D.toNat - 1 + 1 : Nat) : Int) := by omega
    show (⟨0, D, []⟩ : Pt) = ⟨0, ((D.toNat - 1 + 1 : Nat) : Int), []⟩
    rw [← this]
  · obtain rfl : K = 0 := h1
    obtain rfl : D = 0 := h2
    exact .inl ⟨U, h3, rfl⟩
theorem gaps_unit (acc : List UInt8) (d : Bool) (n : Nat) (ps : List Pt) : gapsR acc (unitK d (n + 1) :: ps) = ((acc, d) :: List.replicate n ([], d) ++ (gapsR [] ps).1, (gapsR [] ps).2) := by
  cases d with
  | true => exact gaps_drop acc n ps
  | false => exact gaps_keep acc n ps
def accG (acc : List UInt8) : GSt → GSt
  | ([], l) => ([], acc ++ l)
  | ((u, d) :: x, l) => ((acc ++ u, d) :: x, l)
theorem accG_nil (g : GSt) : accG [] g = g := by
  obtain ⟨x, l⟩ := g
  cases x <;> rfl
theorem accG_more (a b : List UInt8) (g : GSt) : accG a (accG b g) = accG (a ++ b) g := by
  obtain ⟨x, l⟩ := g
  cases x <;> simp [accG]
theorem gaps_acc (ps : List Pt) (h : ∀ p ∈ ps, oneP p) : ∀ acc, gapsR acc ps = accG acc (gapsR [] ps) := by
  induction ps with
  | nil => intro acc; simp [gapsR, accG]
  | cons p ps ih =>
    intro acc
    have ih := ih fun q hq => h q (by simp [hq])
    rcases one_cases (h p (by simp)) with ⟨u, hu, rfl⟩ | ⟨d, n, rfl⟩
    · rw [gaps_put, gaps_put, ih, ih ([] ++ u), accG_more, List.nil_append]
    · rw [gaps_unit, gaps_unit]; simp [accG]

/-- Gap by gap. -/
def docG (eA eB : List UInt8 → NSt → NSt) (eU : Bool → Bool → NSt → NSt) : List (List UInt8 × Bool) → List UInt8 → List (List UInt8 × Bool) → List UInt8 → NSt → NSt
  | (u, d) :: x, xl, (v, e) :: y, yl, s => docG eA eB eU x xl y yl (eU d e (eB v (eA u s)))
  | [], xl, _, yl, s => eB yl (eA xl s)
  | _, xl, [], yl, s => eB yl (eA xl s)
def docS (eA eB : List UInt8 → NSt → NSt) (eU : Bool → Bool → NSt → NSt) (a b : GSt) (s : NSt) : NSt := docG eA eB eU a.1 a.2 b.1 b.2 s
def stepsU (eU : NSt → NSt) : Nat → NSt → NSt
  | 0, s => s
  | n + 1, s => stepsU eU n (eU s)

theorem docS_accA (eA eB : List UInt8 → NSt → NSt) (eU : Bool → Bool → NSt → NSt) (hA : ∀ u v s, eA (u ++ v) s = eA v (eA u s)) (acc : List UInt8) (a b : GSt) (s : NSt) (hl : a.1.length = b.1.length) : docS eA eB eU (accG acc a) b s = docS eA eB eU a b (eA acc s) := by
  obtain ⟨x, xl⟩ := a
  obtain ⟨y, yl⟩ := b
  cases x with
  | nil => cases y <;> simp [docS, accG, docG, hA]
  | cons c x =>
    cases y with
    | nil => simp at hl
    | cons e y => simp [docS, accG, docG, hA]
/-- Where nothing is put ahead in a. -/
def quietG (a : GSt) : Prop := match a with
  | ([], l) => l = []
  | ((u, _) :: _, _) => u = []
theorem docS_accB (eA eB : List UInt8 → NSt → NSt) (eU : Bool → Bool → NSt → NSt) (hA0 : ∀ s, eA [] s = s) (hB : ∀ u v s, eB (u ++ v) s = eB v (eB u s)) (acc : List UInt8) (a b : GSt) (s : NSt) (hl : a.1.length = b.1.length) (hq : quietG a) : docS eA eB eU a (accG acc b) s = docS eA eB eU a b (eB acc s) := by
  obtain ⟨x, xl⟩ := a
  obtain ⟨y, yl⟩ := b
  cases x with
  | nil =>
    obtain rfl : xl = [] := hq
    cases y with
    | nil => simp [docS, accG, docG, hA0, hB]
    | cons e y => simp at hl
  | cons c x =>
    cases y with
    | nil => simp at hl
    | cons e y =>
      obtain ⟨u, d⟩ := c
      obtain rfl : u = [] := hq
      simp [docS, accG, docG, hA0, hB]
theorem docS_units (eA eB : List UInt8 → NSt → NSt) (eU : Bool → Bool → NSt → NSt) (hA0 : ∀ s, eA [] s = s) (hB0 : ∀ s, eB [] s = s) (d e : Bool) : ∀ (k : Nat) (a b : GSt) (s : NSt), docS eA eB eU (List.replicate k ([], d) ++ a.1, a.2) (List.replicate k ([], e) ++ b.1, b.2) s = docS eA eB eU a b (stepsU (eU d e) k s)
  | 0, a, b, s => rfl
  | k + 1, a, b, s => by
    have := docS_units eA eB eU hA0 hB0 d e k a b (eU d e s)
    simpa [docS, docG, List.replicate_succ, hA0, hB0, stepsU] using this
/-- So many units off a first part. -/
theorem cut_unit (d : Bool) (n k : Nat) (hk : k ≤ n) : (cutP (unitK d (n + 1)) ((k : Int) + 1)).1 = unitK d (k + 1) ∧ ∀ ps, gapsR [] (unitK d (n + 1) :: ps) = (List.replicate (k + 1) ([], d) ++ (gapsR [] ((cutP (unitK d (n + 1)) ((k : Int) + 1)).2 ++ ps)).1, (gapsR [] ((cutP (unitK d (n + 1)) ((k : Int) + 1)).2 ++ ps)).2) := by
  have hl : lengthP (unitK d (n + 1)) = (n : Int) + 1 := by cases d <;> simp [lengthP, unitK]
  by_cases e : n = k
  · subst e
    have hc : cutP (unitK d (n + 1)) ((n : Int) + 1) = (unitK d (n + 1), []) := by unfold cutP; rw [if_pos hl]
    rw [hc]
    refine ⟨rfl, fun ps => ?_⟩
    rw [gaps_unit]
    simp [List.replicate_succ]
  · obtain ⟨m, rfl⟩ : ∃ m, n = k + (m + 1) := ⟨n - k - 1, by omega⟩
    have hc : cutP (unitK d (k + (m + 1) + 1)) ((k : Int) + 1) = (unitK d (k + 1), [unitK d (m + 1)]) := by
      unfold cutP
      rw [if_neg (by rw [hl]; omega)]
      cases d with
      | true =>
        have h1 : ¬ 0 < (unitK true (k + (m + 1) + 1)).keep := by simp [unitK]
        have h2 : 0 < (unitK true (k + (m + 1) + 1)).drop := by simp [unitK]; omega
        rw [if_neg h1, if_pos h2]
        simp [unitK]; omega
      | false =>
        have h1 : 0 < (unitK false (k + (m + 1) + 1)).keep := by simp [unitK]; omega
        rw [if_pos h1]
        simp [unitK]; omega
    rw [hc]
    refine ⟨rfl, fun ps => ?_⟩
    rw [List.singleton_append, gaps_unit, gaps_unit]
    have e2 : List.replicate (k + (m + 1)) (([] : List UInt8), d) = List.replicate k ([], d) ++ ([], d) :: List.replicate m ([], d) := by
      rw [← List.replicate_succ, List.replicate_append_replicate]
    rw [e2]
    simp [List.replicate_succ]

def runS (t : Pt × Pt → List Pt) (l : List (Pt × Pt)) (s : NSt) : NSt := l.foldl (fun s x => (t x).foldl addP s) s
def lensU (ps : List Pt) : Nat := (gapsR [] ps).1.length
theorem quiet_unit (d : Bool) (n : Nat) (ps : List Pt) : quietG (gapsR [] (unitK d (n + 1) :: ps)) := by
  rw [gaps_unit]; rfl
theorem put_isPut {u : List UInt8} (h : u ≠ []) : isPutP ⟨0, 0, u⟩ = true := by simp [isPutP, h]
theorem unit_isPut (d : Bool) (n : Nat) : isPutP (unitK d n) = false := by cases d <;> simp [isPutP, unitK]
def weight (ps : List Pt) : Nat := (ps.map fun p => (lengthP p).toNat).sum
theorem weight_cons (p : Pt) (ps : List Pt) : weight (p :: ps) = (lengthP p).toNat + weight ps := by simp [weight]
theorem weight_append (a b : List Pt) : weight (a ++ b) = weight a + weight b := by simp [weight]
theorem len_unit (d : Bool) (n : Nat) : lengthP (unitK d n) = (n : Int) := by cases d <;> simp [lengthP, unitK]
theorem cut_weight (d : Bool) (n k : Nat) (hk : k ≤ n) : weight (cutP (unitK d (n + 1)) ((k : Int) + 1)).2 = n - k := by
  have hl : lengthP (unitK d (n + 1)) = (n : Int) + 1 := by rw [len_unit]; simp
  unfold cutP
  by_cases e : n = k
  · subst e
    rw [if_pos hl]; simp [weight]
  · rw [if_neg (by rw [hl]; omega)]
    cases d with
    | true =>
      have h1 : ¬ 0 < (unitK true (n + 1)).keep := by simp [unitK]
      have h2 : 0 < (unitK true (n + 1)).drop := by simp [unitK]
      rw [if_neg h1, if_pos h2]
      simp [weight, lengthP, unitK]; omega
    | false =>
      have h1 : 0 < (unitK false (n + 1)).keep := by simp [unitK]
      rw [if_pos h1]
      simp [weight, lengthP, unitK]; omega

/-- Pair by pair, or gap by gap. -/
theorem side_gaps (t : Pt × Pt → List Pt) (eA eB : List UInt8 → NSt → NSt) (eU : Bool → Bool → NSt → NSt) (hA0 : ∀ s, eA [] s = s) (hB0 : ∀ s, eB [] s = s)
    (hA : ∀ u v s, eA (u ++ v) s = eA v (eA u s)) (hB : ∀ u v s, eB (u ++ v) s = eB v (eB u s))
    (tA : ∀ u s, u ≠ [] → (t (⟨0, 0, u⟩, noP)).foldl addP s = eA u s) (tB : ∀ u s, u ≠ [] → (t (noP, ⟨0, 0, u⟩)).foldl addP s = eB u s)
    (tU : ∀ d e k s, (t (unitK d (k + 1), unitK e (k + 1))).foldl addP s = stepsU (eU d e) (k + 1) s) :
    ∀ (f : Nat) (a b : List Pt) (s : NSt), (∀ p ∈ a, oneP p) → (∀ p ∈ b, oneP p) → lensU a = lensU b → weight a + weight b ≤ f →
      runS t (sideP isPutP isPutP f a b) s = docS eA eB eU (gapsR [] a) (gapsR [] b) s := by
  intro f
  induction f with
  | zero =>
    intro a b s ha hb hl hw
    have h0 : ∀ (l : List Pt), (∀ p ∈ l, oneP p) → weight l = 0 → l = [] := by
      intro l hl hw
      cases l with
      | nil => rfl
      | cons p l =>
        have := length_pos (hl p (by simp))
        rw [weight_cons] at hw
        omega
    obtain rfl := h0 a ha (by omega)
    obtain rfl := h0 b hb (by omega)
    simp [sideP, runS, docS, docG, gapsR, hA0, hB0]
  | succ f ih =>
    intro a b s ha hb hl hw
    cases a with
    | nil =>
      cases b with
      | nil => simp [sideP, runS, docS, docG, gapsR, hA0, hB0]
      | cons q b =>
        rcases one_cases (hb q (by simp)) with ⟨v, hv, rfl⟩ | ⟨e, m, rfl⟩
        · have hlq := length_pos (hb _ (List.mem_cons_self ..))
          rw [weight_cons] at hw
          have hb' : ∀ p ∈ b, oneP p := fun p hp => hb p (by simp [hp])
          unfold lensU at hl
          rw [gaps_put, gaps_acc b hb'] at hl ⊢
          have hl' : (gapsR [] ([] : List Pt)).1.length = (gapsR [] b).1.length := by
            rw [hl]; cases h : gapsR [] b with | mk x l => cases x <;> simp [accG]
          rw [docS_accB eA eB eU hA0 hB _ _ _ _ hl' rfl]
          rw [← ih [] b (eB ([] ++ v) s) (by simp) hb' hl' (by omega)]
          simp only [sideP, put_isPut hv, if_true, runS, List.foldl_cons, tB v s hv, List.nil_append]
        · unfold lensU at hl
          rw [gaps_unit] at hl
          simp [gapsR] at hl
    | cons p a =>
      have hlp := length_pos (ha p (by simp))
      have ha' : ∀ p ∈ a, oneP p := fun p hp => ha p (by simp [hp])
      rcases one_cases (ha p (by simp)) with ⟨u, hu, rfl⟩ | ⟨d, n, rfl⟩
      · rw [weight_cons] at hw
        unfold lensU at hl
        rw [gaps_put, gaps_acc a ha'] at hl ⊢
        have hl' : (gapsR [] a).1.length = (gapsR [] b).1.length := by
          rw [← hl]; cases h : gapsR [] a with | mk x l => cases x <;> simp [accG]
        rw [docS_accA eA eB eU hA _ _ _ _ hl']
        rw [← ih a b (eA ([] ++ u) s) ha' hb hl' (by omega)]
        simp only [sideP, put_isPut hu, if_true, runS, List.foldl_cons, tA u s hu, List.nil_append]
      · cases b with
        | nil =>
          unfold lensU at hl
          rw [gaps_unit] at hl
          simp [gapsR] at hl
        | cons q b =>
          have hb' : ∀ p ∈ b, oneP p := fun p hp => hb p (by simp [hp])
          have hlq := length_pos (hb q (by simp))
          rcases one_cases (hb q (by simp)) with ⟨v, hv, rfl⟩ | ⟨e, m, rfl⟩
          · rw [weight_cons _ b] at hw
            unfold lensU at hl
            rw [gaps_put, gaps_acc b hb'] at hl ⊢
            have hl' : (gapsR [] (unitK d (n + 1) :: a)).1.length = (gapsR [] b).1.length := by
              rw [hl]; cases h : gapsR [] b with | mk x l => cases x <;> simp [accG]
            rw [docS_accB eA eB eU hA0 hB _ _ _ _ hl' (quiet_unit d n a)]
            rw [← ih (unitK d (n + 1) :: a) b (eB ([] ++ v) s) ha hb' hl' (by omega)]
            simp only [sideP, unit_isPut, put_isPut hv, if_true, Bool.false_eq_true, if_false, runS, List.foldl_cons, tB v s hv, List.nil_append]
          · obtain ⟨k, hk⟩ : ∃ k, k = min n m := ⟨_, rfl⟩
            have l1 : lengthP (unitK d (n + 1)) = (n : Int) + 1 := by cases d <;> simp [lengthP, unitK]
            have l2 : lengthP (unitK e (m + 1)) = (m : Int) + 1 := by cases e <;> simp [lengthP, unitK]
            have hmin : min (lengthP (unitK d (n + 1))) (lengthP (unitK e (m + 1))) = (k : Int) + 1 := by rw [l1, l2]; omega
            obtain ⟨c1, c2⟩ := cut_unit d n k (by omega)
            obtain ⟨c3, c4⟩ := cut_unit e m k (by omega)
            obtain ⟨_, _, o1, _⟩ := cut_one (ha _ (List.mem_cons_self ..)) (n := (k : Int) + 1) (by omega) (by rw [l1]; omega)
            obtain ⟨_, _, o2, _⟩ := cut_one (hb _ (List.mem_cons_self ..)) (n := (k : Int) + 1) (by omega) (by rw [l2]; omega)
            have wA := cut_weight d n k (by omega)
            have wB := cut_weight e m k (by omega)
            rw [weight_cons, weight_cons, len_unit, len_unit] at hw
            have gA := c2 a
            have gB := c4 b
            have ho1 : ∀ p ∈ (cutP (unitK d (n + 1)) ((k : Int) + 1)).2 ++ a, oneP p := fun p hp => by
              rcases List.mem_append.1 hp with h | h
              · exact (o1 p h).1
              · exact ha' p h
            have ho2 : ∀ p ∈ (cutP (unitK e (m + 1)) ((k : Int) + 1)).2 ++ b, oneP p := fun p hp => by
              rcases List.mem_append.1 hp with h | h
              · exact (o2 p h).1
              · exact hb' p h
            have hl' : lensU ((cutP (unitK d (n + 1)) ((k : Int) + 1)).2 ++ a) = lensU ((cutP (unitK e (m + 1)) ((k : Int) + 1)).2 ++ b) := by
              unfold lensU at hl ⊢
              rw [gA, gB] at hl
              simp only [List.length_append, List.length_replicate] at hl
              omega
            rw [gA, gB, docS_units eA eB eU hA0 hB0 d e (k + 1), ← ih _ _ _ ho1 ho2 hl' (by rw [weight_append, weight_append, wA, wB]; omega)]
            simp only [sideP, unit_isPut, Bool.false_eq_true, if_false, runS, List.foldl_cons, hmin, c1, c3, tU]
end Go.Proofs.YtldhbjmillfjgabGreatDoor

namespace Go.Proofs.YtldhbjmillfjgabGreatDoor
set_option linter.unusedVariables false

def tPut (u : List UInt8) (s : NSt) : NSt := addP s ⟨0, 0, u⟩
def tKeep (v : List UInt8) (s : NSt) : NSt := addP s ⟨v.length, 0, []⟩
def tUnit (d e : Bool) (s : NSt) : NSt := if e then s else addP s (unitP d)
theorem tPut_nil (s : NSt) : tPut [] s = s := addP_none s
theorem tKeep_nil (s : NSt) : tKeep [] s = s := addP_none s
theorem tPut_more (u v : List UInt8) (s : NSt) : tPut (u ++ v) s = tPut v (tPut u s) := (addP_puts s u v).symm
theorem tKeep_more (u v : List UInt8) (s : NSt) : tKeep (u ++ v) s = tKeep v (tKeep u s) := by
  unfold tKeep
  cases u with
  | nil => simp [addP_none]
  | cons c u =>
    rw [addP_keeps s ((c :: u).length : Int) (v.length : Int) (by simp) (by omega), List.length_append]
    simp
theorem units_add (d : Bool) : ∀ (k : Nat) (s : NSt), stepsU (tUnit d false) (k + 1) s = addP s (unitK d (k + 1))
  | 0, s => by cases d <;> rfl
  | k + 1, s => by
    have e1 : stepsU (tUnit d false) (k + 1 + 1) s = stepsU (tUnit d false) (k + 1) (tUnit d false s) := rfl
    rw [e1, units_add d k]
    cases d with
    | true =>
      show addP (addP s ⟨0, 1, []⟩) ⟨0, ((k + 1 : Nat) : Int), []⟩ = addP s ⟨0, ((k + 1 + 1 : Nat) : Int), []⟩
      rw [addP_drops]
      congr 2
      omega
    | false =>
      show addP (addP s ⟨1, 0, []⟩) ⟨((k + 1 : Nat) : Int), 0, []⟩ = addP s ⟨((k + 1 + 1 : Nat) : Int), 0, []⟩
      rw [addP_keeps s 1 _ (by omega) (by omega)]
      congr 2
      omega
theorem units_none (d : Bool) : ∀ (k : Nat) (s : NSt), stepsU (tUnit d true) k s = s
  | 0, _ => rfl
  | k + 1, s => units_none d k s
theorem turnQ_put (u : List UInt8) (s : NSt) (h : u ≠ []) : (turnP (⟨0, 0, u⟩, noP)).foldl addP s = tPut u s := by simp [turnP, isPutP, noP, h, tPut]
theorem turnQ_keep (v : List UInt8) (s : NSt) (h : v ≠ []) : (turnP (noP, ⟨0, 0, v⟩)).foldl addP s = tKeep v s := by simp [turnP, isPutP, h, tKeep]
theorem turnQ_unit (d e : Bool) (k : Nat) (s : NSt) : (turnP (unitK d (k + 1), unitK e (k + 1))).foldl addP s = stepsU (tUnit d e) (k + 1) s := by
  cases e with
  | true =>
    rw [units_none]
    have h1 : isPutP (unitK true (k + 1)) = false := unit_isPut true (k + 1)
    have h2 : isPutP (unitK d (k + 1)) = false := unit_isPut d (k + 1)
    have h3 : isKeepP (unitK true (k + 1)) = false := by simp [isKeepP, unitK]
    simp [turnP, h1, h2, h3]
  | false =>
    rw [units_add]
    have h1 : isPutP (unitK false (k + 1)) = false := unit_isPut false (k + 1)
    have h3 : isKeepP (unitK false (k + 1)) = true := by simp [isKeepP, unitK]
    simp [turnP, h1, h3]

/-- The document's parts, added up. -/
theorem docT_true : ∀ (x : List (List UInt8 × Bool)) (xl : List UInt8) (y : List (List UInt8 × Bool)) (yl : List UInt8) (s : NSt), (docT true x xl y yl).foldl addP s = docG tPut tKeep tUnit x xl y yl s
  | [], xl, [], yl, s => rfl
  | [], xl, _ :: _, yl, s => rfl
  | _ :: _, xl, [], yl, s => rfl
  | (u, d) :: x, xl, (v, e) :: y, yl, s => by
    rw [docT, docG, List.foldl_append, docT_true x xl y yl]
    cases e <;> rfl
theorem docT_false : ∀ (x : List (List UInt8 × Bool)) (xl : List UInt8) (y : List (List UInt8 × Bool)) (yl : List UInt8) (s : NSt), (docT false x xl y yl).foldl addP s = docG tKeep tPut (fun e d => tUnit d e) y yl x xl s
  | [], xl, [], yl, s => rfl
  | [], xl, _ :: _, yl, s => rfl
  | _ :: _, xl, [], yl, s => rfl
  | (u, d) :: x, xl, (v, e) :: y, yl, s => by
    rw [docT, docG, List.foldl_append, docT_false x xl y yl]
    cases e <;> rfl

/-- Transform, a's first. -/
theorem turn_first (f : Nat) (a b : List Pt) (s : NSt) (ha : ∀ p ∈ a, oneP p) (hb : ∀ p ∈ b, oneP p) (hl : lensU a = lensU b) (hw : weight a + weight b ≤ f) :
    runS turnP (sideP isPutP isPutP f a b) s = (docT true (gapsR [] a).1 (gapsR [] a).2 (gapsR [] b).1 (gapsR [] b).2).foldl addP s := by
  rw [docT_true]
  exact side_gaps turnP tPut tKeep tUnit tPut_nil tKeep_nil tPut_more tKeep_more turnQ_put turnQ_keep turnQ_unit f a b s ha hb hl hw
/-- Transform, the other's first. -/
theorem turn_second (f : Nat) (a b : List Pt) (s : NSt) (ha : ∀ p ∈ a, oneP p) (hb : ∀ p ∈ b, oneP p) (hl : lensU a = lensU b) (hw : weight a + weight b ≤ f) :
    runS (fun x => turnP (x.2, x.1)) (sideP isPutP isPutP f b a) s = (docT false (gapsR [] a).1 (gapsR [] a).2 (gapsR [] b).1 (gapsR [] b).2).foldl addP s := by
  rw [docT_false]
  exact side_gaps (fun x => turnP (x.2, x.1)) tKeep tPut (fun e d => tUnit d e) tKeep_nil tPut_nil tKeep_more tPut_more (fun v s h => turnQ_keep v s h) (fun u s h => turnQ_put u s h) (fun e d k s => turnQ_unit d e k s) f b a s hb ha hl.symm (by omega)
end Go.Proofs.YtldhbjmillfjgabGreatDoor

namespace Go.Proofs.YtldhbjmillfjgabGreatDoor
set_option linter.unusedVariables false

structure OneS (s : NSt) : Prop where
  out : ∀ p ∈ s.out, oneP p
  drop : 0 ≤ s.drop
theorem tell_one {s : NSt} (h : OneS s) : ∀ p ∈ tellP s, oneP p := by
  intro p hp
  unfold tellP at hp
  rcases List.mem_append.1 hp with hp | hp
  · exact h.out p hp
  · rcases List.mem_append.1 hp with hp | hp
    · split at hp
      · simp at hp
      · rename_i hne
        rw [List.mem_singleton.1 hp]
        exact .inr (.inr ⟨rfl, rfl, hne⟩)
    · split at hp
      · simp at hp
      · rename_i hne
        rw [List.mem_singleton.1 hp]
        have := h.drop
        exact .inr (.inl ⟨rfl, by show 0 < s.drop; omega, rfl⟩)
theorem push_one {l : List Pt} (h : ∀ p ∈ l, oneP p) {k : Int} (hk : 0 < k) : ∀ p ∈ pushKeep l k, oneP p := by
  intro p hp
  unfold pushKeep at hp
  have hnew : oneP (⟨k, 0, []⟩ : Pt) := .inl ⟨hk, rfl, rfl⟩
  cases hq : l.getLast? with
  | none =>
    rw [hq] at hp
    simp only [List.mem_append, List.mem_singleton] at hp
    rcases hp with hp | rfl
    · exact h p hp
    · exact hnew
  | some q =>
    rw [hq] at hp
    have hql : q ∈ l := List.mem_of_getLast? hq
    simp only at hp
    split at hp
    · rename_i h0
      simp only [List.mem_append, List.mem_singleton] at hp
      rcases hp with hp | rfl
      · exact h p (List.dropLast_subset l hp)
      · rcases h q hql with ⟨h1, h2, h3⟩ | ⟨h1, _, _⟩ | ⟨h1, _, _⟩
        · exact .inl ⟨by show 0 < q.keep + k; omega, h2, h3⟩
        · omega
        · omega
    · simp only [List.mem_append, List.mem_singleton] at hp
      rcases hp with hp | rfl
      · exact h p hp
      · exact hnew
theorem add_one {s : NSt} (h : OneS s) (p : Pt) (hk : 0 ≤ p.keep) (hd : 0 ≤ p.drop) : OneS (addP s p) := by
  unfold addP
  have h' : OneS ⟨s.out, s.put ++ p.put, s.drop + p.drop⟩ := ⟨h.out, by have := h.drop; show 0 ≤ s.drop + p.drop; omega⟩
  split
  · exact h'
  · rename_i hk0
    exact ⟨push_one (tell_one h') (by omega), by show (0 : Int) ≤ 0; omega⟩
theorem fold_one (ps : List Pt) (h : ∀ p ∈ ps, 0 ≤ p.keep ∧ 0 ≤ p.drop) : ∀ s, OneS s → OneS (ps.foldl addP s) := by
  induction ps with
  | nil => exact fun s hs => hs
  | cons p ps ih => exact fun s hs => ih (fun q hq => h q (by simp [hq])) _ (add_one hs p (h p (by simp)).1 (h p (by simp)).2)
theorem norm_one (ps : List Pt) (h : ∀ p ∈ ps, 0 ≤ p.keep ∧ 0 ≤ p.drop) : ∀ p ∈ normP ps, oneP p :=
  tell_one (fold_one ps h nst0 ⟨by simp [nst0], by simp [nst0]⟩)

/-- How long it is, is kept. -/
def longP (ps : List Pt) : Int := (ps.map lenP).sum
def longS (s : NSt) : Int := longP s.out + s.drop
theorem long_append (a b : List Pt) : longP (a ++ b) = longP a + longP b := by simp [longP]
theorem tell_long (s : NSt) : longP (tellP s) = longS s := by
  unfold tellP longS
  rw [long_append, long_append]
  by_cases hp : s.put = [] <;> by_cases hd : s.drop = 0 <;> simp [longP, lenP, hp, hd]
theorem push_long (l : List Pt) (k : Int) : longP (pushKeep l k) = longP l + k := by
  unfold pushKeep
  cases hq : l.getLast? with
  | none => simp [longP, lenP]
  | some q =>
    simp only
    split
    · have e : l = l.dropLast ++ [q] := by
        have hne : l ≠ [] := by rintro rfl; simp at hq
        have := List.dropLast_concat_getLast hne
        rw [List.getLast?_eq_some_getLast hne] at hq
        rw [Option.some.inj hq] at this
        exact this.symm
      conv => rhs; rw [e]
      rw [long_append, long_append]
      simp [longP, lenP]
      omega
    · rw [long_append]; simp [longP, lenP]
theorem add_long (s : NSt) (p : Pt) : longS (addP s p) = longS s + lenP p := by
  unfold addP
  split
  · rename_i h
    simp [longS, lenP, h]
    omega
  · show longP (pushKeep _ _) + 0 = _
    rw [push_long, tell_long]
    simp [longS, lenP]
    omega
theorem fold_long (ps : List Pt) : ∀ s, longS (ps.foldl addP s) = longS s + longP ps := by
  induction ps with
  | nil => intro s; simp [longP]
  | cons p ps ih =>
    intro s
    rw [List.foldl_cons, ih, add_long]
    simp [longP]
    omega
theorem norm_long (ps : List Pt) : longP (normP ps) = longP ps := by
  unfold normP
  rw [tell_long, fold_long]
  simp [longS, nst0, longP]
theorem lensU_long (ps : List Pt) (h : ∀ p ∈ ps, 0 ≤ p.keep ∧ 0 ≤ p.drop) : (lensU ps : Int) = longP ps := by
  unfold lensU
  have key : ∀ (ps : List Pt), (∀ p ∈ ps, 0 ≤ p.keep ∧ 0 ≤ p.drop) → ∀ acc, ((gapsR acc ps).1.length : Int) = longP ps := by
    intro ps
    induction ps with
    | nil => intro _ acc; simp [gapsR, longP]
    | cons p ps ih =>
      intro h acc
      have h1 := spreadP_len ([], acc) p (h p (by simp)).1 (h p (by simp)).2
      have h2 := ih (fun q hq => h q (by simp [hq])) (spreadP ([], acc) p).2
      simp only [gapsR, List.length_append, longP, List.map_cons, List.sum_cons] at h2 ⊢
      push_cast
      simp only [List.length_nil] at h1
      omega
  exact key ps h []
end Go.Proofs.YtldhbjmillfjgabGreatDoor

namespace Go.Proofs.YtldhbjmillfjgabGreatDoor
open Go.RowKit
set_option linter.unusedVariables false
attribute [local go_sem] Oper.semAt_some

/-- What pick picks. -/
def pk (a m : Int) : Int := IntKind.u64.wrap a % m
theorem pk_bd (a m : Int) (h : 0 < m) : 0 ≤ pk a m ∧ pk a m < m := ⟨Int.emod_nonneg _ (by omega), Int.emod_lt_of_pos _ h⟩
set_option maxHeartbeats 1000000 in
theorem pick_any (a m : Int) (ha : -9223372036854775808 ≤ a ∧ a < 9223372036854775808) (h0 : 0 < m) (hm : m < 100) (w : World) :
    Calls Tryz.prog 16 #[.int .i64 a, .int .i64 m] w fun e w' => e = .returned (.int .i64 (pk a m)) ∧ Below w.heap.size w w' := by
  obtain ⟨a1, a2⟩ := ha
  have hne : m ≠ 0 := by omega
  have e1 : IntKind.u64.wrap m = m := by rw [IntKind.wrap_u64]; omega
  go_enter Tryz.func16, Tryz.ntmps16
  go_wp2
  go_ret
  have h1 : 0 ≤ IntKind.u64.wrap a := by rw [IntKind.wrap_u64]; omega
  have h2 : (IntKind.u64.wrap a).tmod m = IntKind.u64.wrap a % m := Int.tmod_eq_emod_of_nonneg h1
  have h3 := Int.emod_nonneg (IntKind.u64.wrap a) hne
  have h4 := Int.emod_lt_of_pos (IntKind.u64.wrap a) h0
  have h5 : wrap64 ((IntKind.u64.wrap a).tmod m) = pk a m := by rw [h2]; unfold wrap64 pk; omega
  exact ⟨by rw [← h5]; rfl, Below.refl _ _⟩
theorem cells_newN (w : World) (n : Nat) (hn : w.heap.size = n) (l : List Value) (t : TypeId) : ∀ j u, l[j]? = some u → (w.alloc (.cells l.toArray t)).cell? ((⟨n, 0, none⟩ : Addr).add j) = some u := by
  subst hn
  exact cells_new w l t
theorem cellOnF {A B : World} {b : Nat} (h : B.heap[b]? = A.heap[b]?) (o : Nat) : B.cell? ⟨b, o, none⟩ = A.cell? ⟨b, o, none⟩ := by
  simp [World.cell?, h]
theorem alloc_size {w w2 : World} {o : Obj} (h : Below (w.alloc o).heap.size (w.alloc o) w2) : w.heap.size + 1 ≤ w2.heap.size := by
  have := h.size
  rw [World.size_alloc] at this
  exact this

theorem grown_cell {w w' : World} {β o : Nat} {v x : Value} (hg : w.grownBy w' v.ownBlock) (hlt : β < w.heap.size) (hne : ∀ k, v.ownBlock = some k → k < β) (h : w.cell? ⟨β, o, none⟩ = some x) : w'.cell? ⟨β, o, none⟩ = some x :=
  (cellOnF (hg.block β hlt fun e => absurd (hne _ e.symm) (Nat.lt_irrefl _)) o).trans h

/-- A part that is not great. -/
def smallQ (N : Int) (q : Pt) : Prop := 0 ≤ q.keep ∧ q.keep ≤ N ∧ 0 ≤ q.drop ∧ q.drop ≤ N ∧ q.put.length ≤ 150
theorem small_snoc {N : Int} {qs : List Pt} {q : Pt} (h : ∀ p ∈ qs, smallQ N p) (hq : smallQ N q) : ∀ p ∈ qs ++ [q], smallQ N p := by
  intro p hp
  rcases List.mem_append.1 hp with hp | hp
  · exact h p hp
  · rw [List.mem_singleton.1 hp]; exact hq
theorem cells_snoc (qs : List Pt) (q : Pt) : cellsP qs ++ partCells q = cellsP (qs ++ [q]) := (cellsP_snoc qs q).symm
def fitI (w : World) (N : Int) (n k : Nat) (v : Value) (M : Int) (wr : World) : Prop :=
  ∃ qs : List Pt, wr.ownsRow w.heap.size 50 3 v qs.length (cellsP qs) ∧ qs.length ≤ 2 * k ∧ (∀ q ∈ qs, smallQ N q) ∧ 0 ≤ M ∧ M ≤ N ∧ k ≤ n ∧ k ≤ 30 ∧ Below w.heap.size w wr

set_option maxRecDepth 100000 in
set_option maxHeartbeats 8000000 in
theorem fit_any (v : Value) (ps : List Pt) (N : Int) (w : World) (hT : Lib.Utf8Tabs 2 3 w) (hr : opAt w v ps) (hwf : ∀ p ∈ ps, p.put.length ≤ 150 → wfP p) (hN0 : 0 ≤ N) (hN1 : N ≤ 100000) :
    Calls Tryz.prog 18 #[v, .int .i64 N] w fun e w' => ∃ v' qs, e = .returned v' ∧ w'.ownsRow w.heap.size 50 3 v' qs.length (cellsP qs) ∧ qs.length ≤ 61 ∧ (∀ q ∈ qs, smallQ N q) ∧ Below w.heap.size w w' := by
  obtain ⟨p, c, rfl, r1, r2, r3⟩ := hr
  obtain ⟨n, hn⟩ : ∃ n, n = ps.length := ⟨_, rfl⟩
  rw [← hn] at r1 ⊢
  have HN : Hid (n = ps.length) := hn
  clear hn
  have R3 : Hid (ps ≠ [] → ∃ b o, p = some ⟨b, o, none⟩ ∧ b < w.heap.size ∧ ∀ i q, ps[i]? = some q →
    w.cell? ⟨b, o + i * 3, none⟩ = some (.int .i64 q.keep) ∧ w.cell? ⟨b, o + i * 3 + 1, none⟩ = some (.int .i64 q.drop) ∧ w.cell? ⟨b, o + i * 3 + 2, none⟩ = some (.string ⟨q.put.toArray⟩)) := r3
  have HWF : Hid (∀ p ∈ ps, p.put.length ≤ 150 → wfP p) := hwf
  have HT : Hid (Lib.Utf8Tabs 2 3 w) := hT
  obtain ⟨i0, hi, hz0, hz1, hz2⟩ := info_parts info_part
  clear r3 hwf hT
  unfold maxLen at r2
  go_enter Tryz.func18, Tryz.ntmps18
  go_wp2
  go_loopw [5, 1, 6] (fun v5 m i wr => ∃ (k : Nat) (M : Int), i = .int .i64 k ∧ m = .int .i64 M ∧ fitI w N n k v5 M wr) (fun _ _ i _ => 30 - (intOf i).toNat)
  case atStart => exact ⟨0, N, rfl, rfl, [], World.ownsRow_nil _ _ _ _, Nat.zero_le _, by simp, hN0, Int.le_refl _, Nat.zero_le _, Nat.zero_le _, Below.refl _ _⟩
  case round =>
    obtain ⟨k, M, rfl, rfl, qs, hown, hql, hqs, hM0, hM1, hkn, hk30, hwr⟩ := hrel
    obtain ⟨pv, cv, rfl⟩ := own_slice hown
    have HQS : Hid (∀ q ∈ qs, smallQ N q) := hqs
    have HOW : Hid (wr.ownsRow w.heap.size 50 3 (.slice pv qs.length cv) qs.length (cellsP qs)) := hown
    have HWR : Hid (Below w.heap.size w wr) := hwr
    have hws := hwr.size
    have HLT : Hid (∀ k, (Value.slice pv qs.length cv).ownBlock = some k → k < wr.heap.size) := fun k hk => (hown.lt k hk).2
    clear hown hqs hwr
    by_cases hlt : k < n ∧ k < 30
    · obtain ⟨hlt1, hlt2⟩ := hlt
      have hkr : k < ps.length := by rw [← HN.out]; exact hlt1
      have hne : ps ≠ [] := by intro e; rw [e] at hkr; exact absurd hkr (Nat.not_lt_zero _)
      obtain ⟨b, o, rfl, hbw, hcell⟩ := R3.out hne
      obtain ⟨c0, c1, c2⟩ := hcell k ps[k] (List.getElem?_eq_getElem hkr)
      have g0 := (HWR.out.cell (p := ⟨b, o + k * 3, none⟩) hbw).trans c0
      have g1 := (HWR.out.cell (p := ⟨b, o + k * 3 + 1, none⟩) hbw).trans c1
      have g2 := (HWR.out.cell (p := ⟨b, o + k * 3 + 2, none⟩) hbw).trans c2
      have hwq := HWF.out ps[k] (List.getElem_mem _)
      generalize ps[k] = q at *
      obtain ⟨K, D, U⟩ := q
      simp only at g0 g1 g2 hwq
      have hj1 : (k : Int) < (n : Int) := by omega
      have hj2 : (k : Int) < 30 := by omega
      have hUz : (ByteArray.mk U.toArray).size = U.length := by simp [ByteArray.size]
      have HB0 : Hid (Below w.heap.size w (wr.alloc (.cells #[.int .i64 K, .int .i64 D, .string ⟨U.toArray⟩] 50))) := HWR.out.alloc hws _
      have ho0 : Hid ((wr.alloc (.cells #[.int .i64 K, .int .i64 D, .string ⟨U.toArray⟩] 50)).ownsRow w.heap.size 50 3 (.slice pv qs.length cv) qs.length (cellsP qs)) := HOW.out.alloc _
      have X0 : Hid ((wr.alloc (.cells #[.int .i64 K, .int .i64 D, .string ⟨U.toArray⟩] 50)).heap[wr.heap.size]? = some (.cells #[.int .i64 K, .int .i64 D, .string ⟨U.toArray⟩] 50 (0, 0))) := heap_alloc_new _ _
      clear hcell c0 c1 c2 hne hkr
      by_cases hbig : 150 < U.length
      · have hbig' : (150 : Int) < (U.length : Int) := by omega
        clear hwq
        go_wp2
        go_roundw
        case rel => exact ⟨k + 1, M, by go_num, rfl, qs, ho0.out, by omega, HQS.out, hM0, hM1, by omega, by omega, HB0.out⟩
        case measure => simp [intOf]; omega
      · have hbig' : ¬ (150 : Int) < (U.length : Int) := by omega
        obtain ⟨wk1, wk2, wd1, wd2, _⟩ := hwq (by omega)
        have cC := Count_any ⟨U.toArray⟩ (by rw [hUz]; omega) (wr.alloc (.cells #[.int .i64 K, .int .i64 D, .string ⟨U.toArray⟩] 50)) (Go.Proofs.Utf8Tabs_below HT.out HB0.out)
        have hl0 : wr.heap.size < (wr.alloc (.cells #[.int .i64 K, .int .i64 D, .string ⟨U.toArray⟩] 50)).heap.size := by simp
        obtain ⟨K1, hK1⟩ : ∃ K1, pk K 12 = K1 := ⟨_, rfl⟩
        obtain ⟨K2, hK2⟩ : ∃ K2, pk D 7 = K2 := ⟨_, rfl⟩
        have hk1 := pk_bd K 12 (by omega)
        have hk2 := pk_bd D 7 (by omega)
        have CP1 : Hid (∀ wx, Calls Tryz.prog 16 #[.int .i64 K, .int .i64 12] wx fun e w' => e = .returned (.int .i64 K1) ∧ Below wx.heap.size wx w') := fun wx => by rw [← hK1]; exact pick_any K 12 ⟨wk1, wk2⟩ (by omega) (by omega) wx
        have CP2 : Hid (∀ wx, Calls Tryz.prog 16 #[.int .i64 D, .int .i64 7] wx fun e w' => e = .returned (.int .i64 K2) ∧ Below wx.heap.size wx w') := fun wx => by rw [← hK2]; exact pick_any D 7 ⟨wd1, wd2⟩ (by omega) (by omega) wx
        rw [hK1] at hk1
        rw [hK2] at hk2
        obtain ⟨hk10, hk11⟩ := hk1
        obtain ⟨hk20, hk21⟩ := hk2
        have y2 : (wr.alloc (.cells #[.int .i64 K, .int .i64 D, .string ⟨U.toArray⟩] 50)).cell? ⟨wr.heap.size, 2, none⟩ = some (.string ⟨U.toArray⟩) := Lib.cell_of_heap X0.out 2
        have y1 : (wr.alloc (.cells #[.int .i64 K, .int .i64 D, .string ⟨U.toArray⟩] 50)).cell? ⟨wr.heap.size, 1, none⟩ = some (.int .i64 D) := Lib.cell_of_heap X0.out 1
        have y0 : (wr.alloc (.cells #[.int .i64 K, .int .i64 D, .string ⟨U.toArray⟩] 50)).cell? ⟨wr.heap.size, 0, none⟩ = some (.int .i64 K) := Lib.cell_of_heap X0.out 0
        clear wk1 wk2 wd1 wd2 HWR hK1 hK2 hwq
        have hpk : (¬ 0 < K1) ∨ (0 < K1 ∧ ¬ K1 ≤ M) ∨ (0 < K1 ∧ K1 ≤ M) := by omega
        by_cases hU : U = []
        · have hUe : U.isEmpty = true := by rw [hU]; rfl
          have hsc : (scan U).2 = true := by rw [hU]; rfl
          have HC : Hid (Calls Tryz.prog 59 #[.string ⟨U.toArray⟩] (wr.alloc (.cells #[.int .i64 K, .int .i64 D, .string ⟨U.toArray⟩] 50)) fun e w' => ∃ n1 n2 n3 n4, e = .returned (.tuple #[.agg #[.int .i64 n1, .int .i64 n2, .int .i64 n3, .int .i64 n4], .nilIface]) ∧ Below (wr.alloc (.cells #[.int .i64 K, .int .i64 D, .string ⟨U.toArray⟩] 50)).heap.size (wr.alloc (.cells #[.int .i64 K, .int .i64 D, .string ⟨U.toArray⟩] 50)) w') := Calls.mono cC fun e w' h => by
            obtain ⟨v, x, rfl, hb, ⟨_, rfl, rfl⟩ | ⟨h0, _⟩⟩ := h
            · exact ⟨_, _, _, _, rfl, hb⟩
            · rw [show (ByteArray.mk U.toArray).data.toList = U from rfl, hsc] at h0; cases h0
          clear cC hsc hU
          rcases hpk with hp | ⟨hp, hp'⟩ | ⟨hp, hp'⟩
          ·
            have hpk2 : (¬ 0 < K2) ∨ (0 < K2 ∧ ¬ K2 ≤ M) ∨ (0 < K2 ∧ K2 ≤ M) := by omega
            rcases hpk2 with hr | ⟨hr, hr'⟩ | ⟨hr, hr'⟩
            ·
              go_wp2_with (first
                | (go_at_call 59; refine Calls.mono HC.out ?_; rintro e w2 ⟨n1, n2, n3, n4, rfl, hb2⟩; have HB2 : Hid (Below w.heap.size w w2) := HB0.out.trans (hb2.mono HB0.out.size); have HO2 : Hid (w2.ownsRow w.heap.size 50 3 (.slice pv qs.length cv) qs.length (cellsP qs)) := own_below ho0.out hb2; have z2 := (hb2.cell (p := ⟨wr.heap.size, 2, none⟩) hl0).trans y2; have z1 := (hb2.cell (p := ⟨wr.heap.size, 1, none⟩) hl0).trans y1; have z0 := (hb2.cell (p := ⟨wr.heap.size, 0, none⟩) hl0).trans y0; have hba : Below w2.heap.size w2 (w2.alloc (.cells #[.int .i64 n1, .int .i64 n2, .int .i64 n3, .int .i64 n4] 25)) := (Below.refl _ w2).alloc (Nat.le_refl _) _; have t2 := cell_on hba z2; have t1 := cell_on hba z1; have t0 := cell_on hba z0; have hl2 := alloc_size hb2; have hs2 := HB2.out.size; have HO3 : Hid ((w2.alloc (.cells #[.int .i64 n1, .int .i64 n2, .int .i64 n3, .int .i64 n4] 25)).ownsRow w.heap.size 50 3 (.slice pv qs.length cv) qs.length (cellsP qs)) := HO2.out.alloc _; have HB3 : Hid (Below w.heap.size w (w2.alloc (.cells #[.int .i64 n1, .int .i64 n2, .int .i64 n3, .int .i64 n4] 25))) := HB2.out.alloc HB2.out.size _; clear hb2 hba)
                | (have _ := HO4; go_at_call 16; refine (CP2.out _).mono ?_; rintro e w6 ⟨rfl, hb6⟩; have HB6 : Hid (Below w.heap.size w w6) := HB4.out.trans (hb6.mono HB4.out.size); have HO6 : Hid (w6.ownsRow w.heap.size 50 3 (.slice pv qs.length cv) qs.length (cellsP qs)) := own_below HO4.out hb6; have p2 := cell_on hb6 q2; have hs6 := HB6.out.size; clear hb6)
                | (go_at_call 16; refine (CP1.out _).mono ?_; rintro e w4 ⟨rfl, hb4⟩; have HB4 : Hid (Below w.heap.size w w4) := HB3.out.trans (hb4.mono HB3.out.size); have HO4 : Hid (w4.ownsRow w.heap.size 50 3 (.slice pv qs.length cv) qs.length (cellsP qs)) := own_below HO3.out hb4; have q2 := cell_on hb4 t2; have q1 := cell_on hb4 t1; have hs4 := HB4.out.size; have hs24 := hb4.size; rw [World.size_alloc] at hs24; clear hb4)
                | fail)
              go_roundw
              case rel =>
                refine ⟨k + 1, M, by go_num, by first | rfl | go_num, qs, ?_, by first | omega | (simp; omega), HQS.out, by omega, by omega, by omega, by omega, HB6.out⟩
                exact HO6.out
              case measure => simp [intOf]; omega
            ·
              go_wp2_with (first
                | (go_at_call 59; refine Calls.mono HC.out ?_; rintro e w2 ⟨n1, n2, n3, n4, rfl, hb2⟩; have HB2 : Hid (Below w.heap.size w w2) := HB0.out.trans (hb2.mono HB0.out.size); have HO2 : Hid (w2.ownsRow w.heap.size 50 3 (.slice pv qs.length cv) qs.length (cellsP qs)) := own_below ho0.out hb2; have z2 := (hb2.cell (p := ⟨wr.heap.size, 2, none⟩) hl0).trans y2; have z1 := (hb2.cell (p := ⟨wr.heap.size, 1, none⟩) hl0).trans y1; have z0 := (hb2.cell (p := ⟨wr.heap.size, 0, none⟩) hl0).trans y0; have hba : Below w2.heap.size w2 (w2.alloc (.cells #[.int .i64 n1, .int .i64 n2, .int .i64 n3, .int .i64 n4] 25)) := (Below.refl _ w2).alloc (Nat.le_refl _) _; have t2 := cell_on hba z2; have t1 := cell_on hba z1; have t0 := cell_on hba z0; have hl2 := alloc_size hb2; have hs2 := HB2.out.size; have HO3 : Hid ((w2.alloc (.cells #[.int .i64 n1, .int .i64 n2, .int .i64 n3, .int .i64 n4] 25)).ownsRow w.heap.size 50 3 (.slice pv qs.length cv) qs.length (cellsP qs)) := HO2.out.alloc _; have HB3 : Hid (Below w.heap.size w (w2.alloc (.cells #[.int .i64 n1, .int .i64 n2, .int .i64 n3, .int .i64 n4] 25))) := HB2.out.alloc HB2.out.size _; clear hb2 hba)
                | (have _ := HO4; go_at_call 16; refine (CP2.out _).mono ?_; rintro e w6 ⟨rfl, hb6⟩; have HB6 : Hid (Below w.heap.size w w6) := HB4.out.trans (hb6.mono HB4.out.size); have HO6 : Hid (w6.ownsRow w.heap.size 50 3 (.slice pv qs.length cv) qs.length (cellsP qs)) := own_below HO4.out hb6; have p2 := cell_on hb6 q2; have hs6 := HB6.out.size; clear hb6)
                | (go_at_call 16; refine (CP1.out _).mono ?_; rintro e w4 ⟨rfl, hb4⟩; have HB4 : Hid (Below w.heap.size w w4) := HB3.out.trans (hb4.mono HB3.out.size); have HO4 : Hid (w4.ownsRow w.heap.size 50 3 (.slice pv qs.length cv) qs.length (cellsP qs)) := own_below HO3.out hb4; have q2 := cell_on hb4 t2; have q1 := cell_on hb4 t1; have hs4 := HB4.out.size; have hs24 := hb4.size; rw [World.size_alloc] at hs24; clear hb4)
                | fail)
              go_roundw
              case rel =>
                refine ⟨k + 1, M, by go_num, by first | rfl | go_num, qs, ?_, by first | omega | (simp; omega), HQS.out, by omega, by omega, by omega, by omega, HB6.out⟩
                exact HO6.out
              case measure => simp [intOf]; omega
            ·
              have hw2 : IntKind.i64.wrap (M - K2) = M - K2 := by rw [IntKind.wrap_i64]; omega
              go_wp2_with (first
                | (go_at_call 59; refine Calls.mono HC.out ?_; rintro e w2 ⟨n1, n2, n3, n4, rfl, hb2⟩; have HB2 : Hid (Below w.heap.size w w2) := HB0.out.trans (hb2.mono HB0.out.size); have HO2 : Hid (w2.ownsRow w.heap.size 50 3 (.slice pv qs.length cv) qs.length (cellsP qs)) := own_below ho0.out hb2; have z2 := (hb2.cell (p := ⟨wr.heap.size, 2, none⟩) hl0).trans y2; have z1 := (hb2.cell (p := ⟨wr.heap.size, 1, none⟩) hl0).trans y1; have z0 := (hb2.cell (p := ⟨wr.heap.size, 0, none⟩) hl0).trans y0; have hba : Below w2.heap.size w2 (w2.alloc (.cells #[.int .i64 n1, .int .i64 n2, .int .i64 n3, .int .i64 n4] 25)) := (Below.refl _ w2).alloc (Nat.le_refl _) _; have t2 := cell_on hba z2; have t1 := cell_on hba z1; have t0 := cell_on hba z0; have hl2 := alloc_size hb2; have hs2 := HB2.out.size; have HO3 : Hid ((w2.alloc (.cells #[.int .i64 n1, .int .i64 n2, .int .i64 n3, .int .i64 n4] 25)).ownsRow w.heap.size 50 3 (.slice pv qs.length cv) qs.length (cellsP qs)) := HO2.out.alloc _; have HB3 : Hid (Below w.heap.size w (w2.alloc (.cells #[.int .i64 n1, .int .i64 n2, .int .i64 n3, .int .i64 n4] 25))) := HB2.out.alloc HB2.out.size _; clear hb2 hba)
                | (have _ := HO4; go_at_call 16; refine (CP2.out _).mono ?_; rintro e w6 ⟨rfl, hb6⟩; have HB6 : Hid (Below w.heap.size w w6) := HB4.out.trans (hb6.mono HB4.out.size); have HO6 : Hid (w6.ownsRow w.heap.size 50 3 (.slice pv qs.length cv) qs.length (cellsP qs)) := own_below HO4.out hb6; have p2 := cell_on hb6 q2; have hs6 := HB6.out.size; clear hb6)
                | (go_at_call 16; refine (CP1.out _).mono ?_; rintro e w4 ⟨rfl, hb4⟩; have HB4 : Hid (Below w.heap.size w w4) := HB3.out.trans (hb4.mono HB3.out.size); have HO4 : Hid (w4.ownsRow w.heap.size 50 3 (.slice pv qs.length cv) qs.length (cellsP qs)) := own_below HO3.out hb4; have q2 := cell_on hb4 t2; have q1 := cell_on hb4 t1; have hs4 := HB4.out.size; have hs24 := hb4.size; rw [World.size_alloc] at hs24; clear hb4)
                | (have _ := HO6; at_builtin; refine wpList_append_own _ rfl _ _ 23 rfl w.heap.size 50 i0 (.agg #[.int .i64 0, .int .i64 0, .string ⟨#[]⟩]) 3 32 Tryz.underlying23 hi hz0 hz1 hz2 rfl (by decide) _ _ _ rfl (HO6.out.alloc _) ⟨w6.heap.size, 0, none⟩ 1 1 (partCells ⟨0, K2, []⟩) rfl rfl (cells_newN _ _ (by first | rfl | simp) _ _) (partCells_one _) (by unfold maxLen; omega) (by omega) (by first | omega | (simp; omega)) ?_)
                | fail)
              intro v'' w'' hown'' hg'' _
              obtain ⟨p'', c'', rfl⟩ := own_slice hown''
              have HB7 : Hid (Below w.heap.size w w'') := (HB6.out.alloc HB6.out.size _).grown hg'' (by simp; omega) fun k hk => (HO6.out.lt k hk).1
              have HO7 : Hid (w''.ownsRow w.heap.size 50 3 (.slice p'' (qs.length + 1) c'') (qs.length + 1) (cellsP qs ++ partCells ⟨0, K2, []⟩)) := hown''
              clear hown'' hg''
              go_wp2
              go_roundw
              case rel =>
                refine ⟨k + 1, M - K2, by go_num, by first | rfl | go_num, (qs) ++ [⟨0, K2, []⟩], ?_, by first | omega | (simp; omega), small_snoc (HQS.out) ⟨Int.le_refl _, hN0, by show 0 ≤ K2; omega, by show K2 ≤ N; omega, by simp⟩, by omega, by omega, by omega, by omega, HB7.out⟩
                rw [cellsP_snoc, List.length_append]; exact HO7.out
              case measure => simp [intOf]; omega
          ·
            have hpk2 : (¬ 0 < K2) ∨ (0 < K2 ∧ ¬ K2 ≤ M) ∨ (0 < K2 ∧ K2 ≤ M) := by omega
            rcases hpk2 with hr | ⟨hr, hr'⟩ | ⟨hr, hr'⟩
            ·
              go_wp2_with (first
                | (go_at_call 59; refine Calls.mono HC.out ?_; rintro e w2 ⟨n1, n2, n3, n4, rfl, hb2⟩; have HB2 : Hid (Below w.heap.size w w2) := HB0.out.trans (hb2.mono HB0.out.size); have HO2 : Hid (w2.ownsRow w.heap.size 50 3 (.slice pv qs.length cv) qs.length (cellsP qs)) := own_below ho0.out hb2; have z2 := (hb2.cell (p := ⟨wr.heap.size, 2, none⟩) hl0).trans y2; have z1 := (hb2.cell (p := ⟨wr.heap.size, 1, none⟩) hl0).trans y1; have z0 := (hb2.cell (p := ⟨wr.heap.size, 0, none⟩) hl0).trans y0; have hba : Below w2.heap.size w2 (w2.alloc (.cells #[.int .i64 n1, .int .i64 n2, .int .i64 n3, .int .i64 n4] 25)) := (Below.refl _ w2).alloc (Nat.le_refl _) _; have t2 := cell_on hba z2; have t1 := cell_on hba z1; have t0 := cell_on hba z0; have hl2 := alloc_size hb2; have hs2 := HB2.out.size; have HO3 : Hid ((w2.alloc (.cells #[.int .i64 n1, .int .i64 n2, .int .i64 n3, .int .i64 n4] 25)).ownsRow w.heap.size 50 3 (.slice pv qs.length cv) qs.length (cellsP qs)) := HO2.out.alloc _; have HB3 : Hid (Below w.heap.size w (w2.alloc (.cells #[.int .i64 n1, .int .i64 n2, .int .i64 n3, .int .i64 n4] 25))) := HB2.out.alloc HB2.out.size _; clear hb2 hba)
                | (have _ := HO4; go_at_call 16; refine (CP2.out _).mono ?_; rintro e w6 ⟨rfl, hb6⟩; have HB6 : Hid (Below w.heap.size w w6) := HB4.out.trans (hb6.mono HB4.out.size); have HO6 : Hid (w6.ownsRow w.heap.size 50 3 (.slice pv qs.length cv) qs.length (cellsP qs)) := own_below HO4.out hb6; have p2 := cell_on hb6 q2; have hs6 := HB6.out.size; clear hb6)
                | (go_at_call 16; refine (CP1.out _).mono ?_; rintro e w4 ⟨rfl, hb4⟩; have HB4 : Hid (Below w.heap.size w w4) := HB3.out.trans (hb4.mono HB3.out.size); have HO4 : Hid (w4.ownsRow w.heap.size 50 3 (.slice pv qs.length cv) qs.length (cellsP qs)) := own_below HO3.out hb4; have q2 := cell_on hb4 t2; have q1 := cell_on hb4 t1; have hs4 := HB4.out.size; have hs24 := hb4.size; rw [World.size_alloc] at hs24; clear hb4)
                | fail)
              go_roundw
              case rel =>
                refine ⟨k + 1, M, by go_num, by first | rfl | go_num, qs, ?_, by first | omega | (simp; omega), HQS.out, by omega, by omega, by omega, by omega, HB6.out⟩
                exact HO6.out
              case measure => simp [intOf]; omega
            ·
              go_wp2_with (first
                | (go_at_call 59; refine Calls.mono HC.out ?_; rintro e w2 ⟨n1, n2, n3, n4, rfl, hb2⟩; have HB2 : Hid (Below w.heap.size w w2) := HB0.out.trans (hb2.mono HB0.out.size); have HO2 : Hid (w2.ownsRow w.heap.size 50 3 (.slice pv qs.length cv) qs.length (cellsP qs)) := own_below ho0.out hb2; have z2 := (hb2.cell (p := ⟨wr.heap.size, 2, none⟩) hl0).trans y2; have z1 := (hb2.cell (p := ⟨wr.heap.size, 1, none⟩) hl0).trans y1; have z0 := (hb2.cell (p := ⟨wr.heap.size, 0, none⟩) hl0).trans y0; have hba : Below w2.heap.size w2 (w2.alloc (.cells #[.int .i64 n1, .int .i64 n2, .int .i64 n3, .int .i64 n4] 25)) := (Below.refl _ w2).alloc (Nat.le_refl _) _; have t2 := cell_on hba z2; have t1 := cell_on hba z1; have t0 := cell_on hba z0; have hl2 := alloc_size hb2; have hs2 := HB2.out.size; have HO3 : Hid ((w2.alloc (.cells #[.int .i64 n1, .int .i64 n2, .int .i64 n3, .int .i64 n4] 25)).ownsRow w.heap.size 50 3 (.slice pv qs.length cv) qs.length (cellsP qs)) := HO2.out.alloc _; have HB3 : Hid (Below w.heap.size w (w2.alloc (.cells #[.int .i64 n1, .int .i64 n2, .int .i64 n3, .int .i64 n4] 25))) := HB2.out.alloc HB2.out.size _; clear hb2 hba)
                | (have _ := HO4; go_at_call 16; refine (CP2.out _).mono ?_; rintro e w6 ⟨rfl, hb6⟩; have HB6 : Hid (Below w.heap.size w w6) := HB4.out.trans (hb6.mono HB4.out.size); have HO6 : Hid (w6.ownsRow w.heap.size 50 3 (.slice pv qs.length cv) qs.length (cellsP qs)) := own_below HO4.out hb6; have p2 := cell_on hb6 q2; have hs6 := HB6.out.size; clear hb6)
                | (go_at_call 16; refine (CP1.out _).mono ?_; rintro e w4 ⟨rfl, hb4⟩; have HB4 : Hid (Below w.heap.size w w4) := HB3.out.trans (hb4.mono HB3.out.size); have HO4 : Hid (w4.ownsRow w.heap.size 50 3 (.slice pv qs.length cv) qs.length (cellsP qs)) := own_below HO3.out hb4; have q2 := cell_on hb4 t2; have q1 := cell_on hb4 t1; have hs4 := HB4.out.size; have hs24 := hb4.size; rw [World.size_alloc] at hs24; clear hb4)
                | fail)
              go_roundw
              case rel =>
                refine ⟨k + 1, M, by go_num, by first | rfl | go_num, qs, ?_, by first | omega | (simp; omega), HQS.out, by omega, by omega, by omega, by omega, HB6.out⟩
                exact HO6.out
              case measure => simp [intOf]; omega
            ·
              have hw2 : IntKind.i64.wrap (M - K2) = M - K2 := by rw [IntKind.wrap_i64]; omega
              go_wp2_with (first
                | (go_at_call 59; refine Calls.mono HC.out ?_; rintro e w2 ⟨n1, n2, n3, n4, rfl, hb2⟩; have HB2 : Hid (Below w.heap.size w w2) := HB0.out.trans (hb2.mono HB0.out.size); have HO2 : Hid (w2.ownsRow w.heap.size 50 3 (.slice pv qs.length cv) qs.length (cellsP qs)) := own_below ho0.out hb2; have z2 := (hb2.cell (p := ⟨wr.heap.size, 2, none⟩) hl0).trans y2; have z1 := (hb2.cell (p := ⟨wr.heap.size, 1, none⟩) hl0).trans y1; have z0 := (hb2.cell (p := ⟨wr.heap.size, 0, none⟩) hl0).trans y0; have hba : Below w2.heap.size w2 (w2.alloc (.cells #[.int .i64 n1, .int .i64 n2, .int .i64 n3, .int .i64 n4] 25)) := (Below.refl _ w2).alloc (Nat.le_refl _) _; have t2 := cell_on hba z2; have t1 := cell_on hba z1; have t0 := cell_on hba z0; have hl2 := alloc_size hb2; have hs2 := HB2.out.size; have HO3 : Hid ((w2.alloc (.cells #[.int .i64 n1, .int .i64 n2, .int .i64 n3, .int .i64 n4] 25)).ownsRow w.heap.size 50 3 (.slice pv qs.length cv) qs.length (cellsP qs)) := HO2.out.alloc _; have HB3 : Hid (Below w.heap.size w (w2.alloc (.cells #[.int .i64 n1, .int .i64 n2, .int .i64 n3, .int .i64 n4] 25))) := HB2.out.alloc HB2.out.size _; clear hb2 hba)
                | (have _ := HO4; go_at_call 16; refine (CP2.out _).mono ?_; rintro e w6 ⟨rfl, hb6⟩; have HB6 : Hid (Below w.heap.size w w6) := HB4.out.trans (hb6.mono HB4.out.size); have HO6 : Hid (w6.ownsRow w.heap.size 50 3 (.slice pv qs.length cv) qs.length (cellsP qs)) := own_below HO4.out hb6; have p2 := cell_on hb6 q2; have hs6 := HB6.out.size; clear hb6)
                | (go_at_call 16; refine (CP1.out _).mono ?_; rintro e w4 ⟨rfl, hb4⟩; have HB4 : Hid (Below w.heap.size w w4) := HB3.out.trans (hb4.mono HB3.out.size); have HO4 : Hid (w4.ownsRow w.heap.size 50 3 (.slice pv qs.length cv) qs.length (cellsP qs)) := own_below HO3.out hb4; have q2 := cell_on hb4 t2; have q1 := cell_on hb4 t1; have hs4 := HB4.out.size; have hs24 := hb4.size; rw [World.size_alloc] at hs24; clear hb4)
                | (have _ := HO6; at_builtin; refine wpList_append_own _ rfl _ _ 23 rfl w.heap.size 50 i0 (.agg #[.int .i64 0, .int .i64 0, .string ⟨#[]⟩]) 3 32 Tryz.underlying23 hi hz0 hz1 hz2 rfl (by decide) _ _ _ rfl (HO6.out.alloc _) ⟨w6.heap.size, 0, none⟩ 1 1 (partCells ⟨0, K2, []⟩) rfl rfl (cells_newN _ _ (by first | rfl | simp) _ _) (partCells_one _) (by unfold maxLen; omega) (by omega) (by first | omega | (simp; omega)) ?_)
                | fail)
              intro v'' w'' hown'' hg'' _
              obtain ⟨p'', c'', rfl⟩ := own_slice hown''
              have HB7 : Hid (Below w.heap.size w w'') := (HB6.out.alloc HB6.out.size _).grown hg'' (by simp; omega) fun k hk => (HO6.out.lt k hk).1
              have HO7 : Hid (w''.ownsRow w.heap.size 50 3 (.slice p'' (qs.length + 1) c'') (qs.length + 1) (cellsP qs ++ partCells ⟨0, K2, []⟩)) := hown''
              clear hown'' hg''
              go_wp2
              go_roundw
              case rel =>
                refine ⟨k + 1, M - K2, by go_num, by first | rfl | go_num, (qs) ++ [⟨0, K2, []⟩], ?_, by first | omega | (simp; omega), small_snoc (HQS.out) ⟨Int.le_refl _, hN0, by show 0 ≤ K2; omega, by show K2 ≤ N; omega, by simp⟩, by omega, by omega, by omega, by omega, HB7.out⟩
                rw [cellsP_snoc, List.length_append]; exact HO7.out
              case measure => simp [intOf]; omega
          ·
            have hpk2 : (¬ 0 < K2) ∨ (0 < K2 ∧ ¬ K2 ≤ M - K1) ∨ (0 < K2 ∧ K2 ≤ M - K1) := by omega
            rcases hpk2 with hr | ⟨hr, hr'⟩ | ⟨hr, hr'⟩
            ·
              have hw1 : IntKind.i64.wrap (M - K1) = M - K1 := by rw [IntKind.wrap_i64]; omega
              go_wp2_with (first
                | (go_at_call 59; refine Calls.mono HC.out ?_; rintro e w2 ⟨n1, n2, n3, n4, rfl, hb2⟩; have HB2 : Hid (Below w.heap.size w w2) := HB0.out.trans (hb2.mono HB0.out.size); have HO2 : Hid (w2.ownsRow w.heap.size 50 3 (.slice pv qs.length cv) qs.length (cellsP qs)) := own_below ho0.out hb2; have z2 := (hb2.cell (p := ⟨wr.heap.size, 2, none⟩) hl0).trans y2; have z1 := (hb2.cell (p := ⟨wr.heap.size, 1, none⟩) hl0).trans y1; have z0 := (hb2.cell (p := ⟨wr.heap.size, 0, none⟩) hl0).trans y0; have hba : Below w2.heap.size w2 (w2.alloc (.cells #[.int .i64 n1, .int .i64 n2, .int .i64 n3, .int .i64 n4] 25)) := (Below.refl _ w2).alloc (Nat.le_refl _) _; have t2 := cell_on hba z2; have t1 := cell_on hba z1; have t0 := cell_on hba z0; have hl2 := alloc_size hb2; have hs2 := HB2.out.size; have HO3 : Hid ((w2.alloc (.cells #[.int .i64 n1, .int .i64 n2, .int .i64 n3, .int .i64 n4] 25)).ownsRow w.heap.size 50 3 (.slice pv qs.length cv) qs.length (cellsP qs)) := HO2.out.alloc _; have HB3 : Hid (Below w.heap.size w (w2.alloc (.cells #[.int .i64 n1, .int .i64 n2, .int .i64 n3, .int .i64 n4] 25))) := HB2.out.alloc HB2.out.size _; clear hb2 hba)
                | (go_at_call 16; refine (CP1.out _).mono ?_; rintro e w4 ⟨rfl, hb4⟩; have HB4 : Hid (Below w.heap.size w w4) := HB3.out.trans (hb4.mono HB3.out.size); have HO4 : Hid (w4.ownsRow w.heap.size 50 3 (.slice pv qs.length cv) qs.length (cellsP qs)) := own_below HO3.out hb4; have q2 := cell_on hb4 t2; have q1 := cell_on hb4 t1; have hs4 := HB4.out.size; have hs24 := hb4.size; rw [World.size_alloc] at hs24; clear hb4)
                | (at_builtin; refine wpList_append_own _ rfl _ _ 23 rfl w.heap.size 50 i0 (.agg #[.int .i64 0, .int .i64 0, .string ⟨#[]⟩]) 3 32 Tryz.underlying23 hi hz0 hz1 hz2 rfl (by decide) _ _ _ rfl (HO4.out.alloc _) ⟨w4.heap.size, 0, none⟩ 1 1 (partCells ⟨K1, 0, []⟩) rfl rfl (cells_newN _ _ (by first | rfl | simp) _ _) (partCells_one _) (by unfold maxLen; omega) (by omega) (by first | omega | (simp; omega)) ?_)
                | fail)
              intro v' w' hown' hg' _
              obtain ⟨p', c', rfl⟩ := own_slice hown'
              have HB5 : Hid (Below w.heap.size w w') := (HB4.out.alloc HB4.out.size _).grown hg' (by simp; omega) fun k hk => (HO4.out.lt k hk).1
              have HO5 : Hid (w'.ownsRow w.heap.size 50 3 (.slice p' (qs.length + 1) c') (qs.length + 1) (cellsP qs ++ partCells ⟨K1, 0, []⟩)) := hown'
              have r2' := grown_cell hg' (by rw [World.size_alloc]; omega) HLT.out (cell_on ((Below.refl _ w4).alloc (Nat.le_refl _) _) q2)
              have r1' := grown_cell hg' (by rw [World.size_alloc]; omega) HLT.out (cell_on ((Below.refl _ w4).alloc (Nat.le_refl _) _) q1)
              have hs5 := HB5.out.size
              clear hown' hg'
              go_wp2_with (first
                | (have _ := HO5; go_at_call 16; refine (CP2.out _).mono ?_; rintro e w6 ⟨rfl, hb6⟩; have HB6 : Hid (Below w.heap.size w w6) := HB5.out.trans (hb6.mono HB5.out.size); have HO6 : Hid (w6.ownsRow w.heap.size 50 3 (.slice p' (qs.length + 1) c') (qs.length + 1) (cellsP qs ++ partCells ⟨K1, 0, []⟩)) := own_below HO5.out hb6; have p2 := cell_on hb6 r2'; have hs6 := HB6.out.size; clear hb6)
                | fail)
              go_roundw
              case rel =>
                refine ⟨k + 1, M - K1, by go_num, by first | rfl | go_num, qs ++ [⟨K1, 0, []⟩], ?_, by first | omega | (simp; omega), small_snoc HQS.out ⟨by show 0 ≤ K1; omega, by show K1 ≤ N; omega, Int.le_refl _, hN0, by simp⟩, by omega, by omega, by omega, by omega, HB6.out⟩
                rw [cellsP_snoc, List.length_append]; exact HO6.out
              case measure => simp [intOf]; omega
            ·
              have hw1 : IntKind.i64.wrap (M - K1) = M - K1 := by rw [IntKind.wrap_i64]; omega
              go_wp2_with (first
                | (go_at_call 59; refine Calls.mono HC.out ?_; rintro e w2 ⟨n1, n2, n3, n4, rfl, hb2⟩; have HB2 : Hid (Below w.heap.size w w2) := HB0.out.trans (hb2.mono HB0.out.size); have HO2 : Hid (w2.ownsRow w.heap.size 50 3 (.slice pv qs.length cv) qs.length (cellsP qs)) := own_below ho0.out hb2; have z2 := (hb2.cell (p := ⟨wr.heap.size, 2, none⟩) hl0).trans y2; have z1 := (hb2.cell (p := ⟨wr.heap.size, 1, none⟩) hl0).trans y1; have z0 := (hb2.cell (p := ⟨wr.heap.size, 0, none⟩) hl0).trans y0; have hba : Below w2.heap.size w2 (w2.alloc (.cells #[.int .i64 n1, .int .i64 n2, .int .i64 n3, .int .i64 n4] 25)) := (Below.refl _ w2).alloc (Nat.le_refl _) _; have t2 := cell_on hba z2; have t1 := cell_on hba z1; have t0 := cell_on hba z0; have hl2 := alloc_size hb2; have hs2 := HB2.out.size; have HO3 : Hid ((w2.alloc (.cells #[.int .i64 n1, .int .i64 n2, .int .i64 n3, .int .i64 n4] 25)).ownsRow w.heap.size 50 3 (.slice pv qs.length cv) qs.length (cellsP qs)) := HO2.out.alloc _; have HB3 : Hid (Below w.heap.size w (w2.alloc (.cells #[.int .i64 n1, .int .i64 n2, .int .i64 n3, .int .i64 n4] 25))) := HB2.out.alloc HB2.out.size _; clear hb2 hba)
                | (go_at_call 16; refine (CP1.out _).mono ?_; rintro e w4 ⟨rfl, hb4⟩; have HB4 : Hid (Below w.heap.size w w4) := HB3.out.trans (hb4.mono HB3.out.size); have HO4 : Hid (w4.ownsRow w.heap.size 50 3 (.slice pv qs.length cv) qs.length (cellsP qs)) := own_below HO3.out hb4; have q2 := cell_on hb4 t2; have q1 := cell_on hb4 t1; have hs4 := HB4.out.size; have hs24 := hb4.size; rw [World.size_alloc] at hs24; clear hb4)
                | (at_builtin; refine wpList_append_own _ rfl _ _ 23 rfl w.heap.size 50 i0 (.agg #[.int .i64 0, .int .i64 0, .string ⟨#[]⟩]) 3 32 Tryz.underlying23 hi hz0 hz1 hz2 rfl (by decide) _ _ _ rfl (HO4.out.alloc _) ⟨w4.heap.size, 0, none⟩ 1 1 (partCells ⟨K1, 0, []⟩) rfl rfl (cells_newN _ _ (by first | rfl | simp) _ _) (partCells_one _) (by unfold maxLen; omega) (by omega) (by first | omega | (simp; omega)) ?_)
                | fail)
              intro v' w' hown' hg' _
              obtain ⟨p', c', rfl⟩ := own_slice hown'
              have HB5 : Hid (Below w.heap.size w w') := (HB4.out.alloc HB4.out.size _).grown hg' (by simp; omega) fun k hk => (HO4.out.lt k hk).1
              have HO5 : Hid (w'.ownsRow w.heap.size 50 3 (.slice p' (qs.length + 1) c') (qs.length + 1) (cellsP qs ++ partCells ⟨K1, 0, []⟩)) := hown'
              have r2' := grown_cell hg' (by rw [World.size_alloc]; omega) HLT.out (cell_on ((Below.refl _ w4).alloc (Nat.le_refl _) _) q2)
              have r1' := grown_cell hg' (by rw [World.size_alloc]; omega) HLT.out (cell_on ((Below.refl _ w4).alloc (Nat.le_refl _) _) q1)
              have hs5 := HB5.out.size
              clear hown' hg'
              go_wp2_with (first
                | (have _ := HO5; go_at_call 16; refine (CP2.out _).mono ?_; rintro e w6 ⟨rfl, hb6⟩; have HB6 : Hid (Below w.heap.size w w6) := HB5.out.trans (hb6.mono HB5.out.size); have HO6 : Hid (w6.ownsRow w.heap.size 50 3 (.slice p' (qs.length + 1) c') (qs.length + 1) (cellsP qs ++ partCells ⟨K1, 0, []⟩)) := own_below HO5.out hb6; have p2 := cell_on hb6 r2'; have hs6 := HB6.out.size; clear hb6)
                | fail)
              go_roundw
              case rel =>
                refine ⟨k + 1, M - K1, by go_num, by first | rfl | go_num, qs ++ [⟨K1, 0, []⟩], ?_, by first | omega | (simp; omega), small_snoc HQS.out ⟨by show 0 ≤ K1; omega, by show K1 ≤ N; omega, Int.le_refl _, hN0, by simp⟩, by omega, by omega, by omega, by omega, HB6.out⟩
                rw [cellsP_snoc, List.length_append]; exact HO6.out
              case measure => simp [intOf]; omega
            ·
              have hw1 : IntKind.i64.wrap (M - K1) = M - K1 := by rw [IntKind.wrap_i64]; omega
              go_wp2_with (first
                | (go_at_call 59; refine Calls.mono HC.out ?_; rintro e w2 ⟨n1, n2, n3, n4, rfl, hb2⟩; have HB2 : Hid (Below w.heap.size w w2) := HB0.out.trans (hb2.mono HB0.out.size); have HO2 : Hid (w2.ownsRow w.heap.size 50 3 (.slice pv qs.length cv) qs.length (cellsP qs)) := own_below ho0.out hb2; have z2 := (hb2.cell (p := ⟨wr.heap.size, 2, none⟩) hl0).trans y2; have z1 := (hb2.cell (p := ⟨wr.heap.size, 1, none⟩) hl0).trans y1; have z0 := (hb2.cell (p := ⟨wr.heap.size, 0, none⟩) hl0).trans y0; have hba : Below w2.heap.size w2 (w2.alloc (.cells #[.int .i64 n1, .int .i64 n2, .int .i64 n3, .int .i64 n4] 25)) := (Below.refl _ w2).alloc (Nat.le_refl _) _; have t2 := cell_on hba z2; have t1 := cell_on hba z1; have t0 := cell_on hba z0; have hl2 := alloc_size hb2; have hs2 := HB2.out.size; have HO3 : Hid ((w2.alloc (.cells #[.int .i64 n1, .int .i64 n2, .int .i64 n3, .int .i64 n4] 25)).ownsRow w.heap.size 50 3 (.slice pv qs.length cv) qs.length (cellsP qs)) := HO2.out.alloc _; have HB3 : Hid (Below w.heap.size w (w2.alloc (.cells #[.int .i64 n1, .int .i64 n2, .int .i64 n3, .int .i64 n4] 25))) := HB2.out.alloc HB2.out.size _; clear hb2 hba)
                | (go_at_call 16; refine (CP1.out _).mono ?_; rintro e w4 ⟨rfl, hb4⟩; have HB4 : Hid (Below w.heap.size w w4) := HB3.out.trans (hb4.mono HB3.out.size); have HO4 : Hid (w4.ownsRow w.heap.size 50 3 (.slice pv qs.length cv) qs.length (cellsP qs)) := own_below HO3.out hb4; have q2 := cell_on hb4 t2; have q1 := cell_on hb4 t1; have hs4 := HB4.out.size; have hs24 := hb4.size; rw [World.size_alloc] at hs24; clear hb4)
                | (at_builtin; refine wpList_append_own _ rfl _ _ 23 rfl w.heap.size 50 i0 (.agg #[.int .i64 0, .int .i64 0, .string ⟨#[]⟩]) 3 32 Tryz.underlying23 hi hz0 hz1 hz2 rfl (by decide) _ _ _ rfl (HO4.out.alloc _) ⟨w4.heap.size, 0, none⟩ 1 1 (partCells ⟨K1, 0, []⟩) rfl rfl (cells_newN _ _ (by first | rfl | simp) _ _) (partCells_one _) (by unfold maxLen; omega) (by omega) (by first | omega | (simp; omega)) ?_)
                | fail)
              intro v' w' hown' hg' _
              obtain ⟨p', c', rfl⟩ := own_slice hown'
              have HB5 : Hid (Below w.heap.size w w') := (HB4.out.alloc HB4.out.size _).grown hg' (by simp; omega) fun k hk => (HO4.out.lt k hk).1
              have HO5 : Hid (w'.ownsRow w.heap.size 50 3 (.slice p' (qs.length + 1) c') (qs.length + 1) (cellsP qs ++ partCells ⟨K1, 0, []⟩)) := hown'
              have r2' := grown_cell hg' (by rw [World.size_alloc]; omega) HLT.out (cell_on ((Below.refl _ w4).alloc (Nat.le_refl _) _) q2)
              have r1' := grown_cell hg' (by rw [World.size_alloc]; omega) HLT.out (cell_on ((Below.refl _ w4).alloc (Nat.le_refl _) _) q1)
              have hs5 := HB5.out.size
              clear hown' hg'
              have hw2 : IntKind.i64.wrap (M - K1 - K2) = M - K1 - K2 := by rw [IntKind.wrap_i64]; omega
              go_wp2_with (first
                | (have _ := HO5; go_at_call 16; refine (CP2.out _).mono ?_; rintro e w6 ⟨rfl, hb6⟩; have HB6 : Hid (Below w.heap.size w w6) := HB5.out.trans (hb6.mono HB5.out.size); have HO6 : Hid (w6.ownsRow w.heap.size 50 3 (.slice p' (qs.length + 1) c') (qs.length + 1) (cellsP qs ++ partCells ⟨K1, 0, []⟩)) := own_below HO5.out hb6; have p2 := cell_on hb6 r2'; have hs6 := HB6.out.size; clear hb6)
                | (have _ := HO6; at_builtin; refine wpList_append_own _ rfl _ _ 23 rfl w.heap.size 50 i0 (.agg #[.int .i64 0, .int .i64 0, .string ⟨#[]⟩]) 3 32 Tryz.underlying23 hi hz0 hz1 hz2 rfl (by decide) _ _ _ rfl (HO6.out.alloc _) ⟨w6.heap.size, 0, none⟩ 1 1 (partCells ⟨0, K2, []⟩) rfl rfl (cells_newN _ _ (by first | rfl | simp) _ _) (partCells_one _) (by unfold maxLen; omega) (by omega) (by first | omega | (simp; omega)) ?_)
                | fail)
              intro v'' w'' hown'' hg'' _
              obtain ⟨p'', c'', rfl⟩ := own_slice hown''
              have HB7 : Hid (Below w.heap.size w w'') := (HB6.out.alloc HB6.out.size _).grown hg'' (by simp; omega) fun k hk => (HO6.out.lt k hk).1
              have HO7 : Hid (w''.ownsRow w.heap.size 50 3 (.slice p'' ((qs.length + 1) + 1) c'') ((qs.length + 1) + 1) (cellsP qs ++ (partCells ⟨K1, 0, []⟩ ++ partCells ⟨0, K2, []⟩))) := hown''
              clear hown'' hg''
              go_wp2
              go_roundw
              case rel =>
                refine ⟨k + 1, M - K1 - K2, by go_num, by first | rfl | go_num, (qs ++ [⟨K1, 0, []⟩]) ++ [⟨0, K2, []⟩], ?_, by first | omega | (simp; omega), small_snoc (small_snoc HQS.out ⟨by show 0 ≤ K1; omega, by show K1 ≤ N; omega, Int.le_refl _, hN0, by simp⟩) ⟨Int.le_refl _, hN0, by show 0 ≤ K2; omega, by show K2 ≤ N; omega, by simp⟩, by omega, by omega, by omega, by omega, HB7.out⟩
                have e1 : cellsP (qs ++ [(⟨K1, 0, []⟩ : Pt)] ++ [(⟨0, K2, []⟩ : Pt)]) = cellsP qs ++ (partCells ⟨K1, 0, []⟩ ++ partCells ⟨0, K2, []⟩) := by rw [cellsP_snoc, cellsP_snoc, List.append_assoc]
                have e2 : (qs ++ [(⟨K1, 0, []⟩ : Pt)] ++ [(⟨0, K2, []⟩ : Pt)]).length = qs.length + 1 + 1 := by simp
                rw [e1, e2]; exact HO7.out
              case measure => simp [intOf]; omega
        · have hUe : U.isEmpty = false := by cases U with | nil => exact absurd rfl hU | cons x U => rfl
          by_cases hsc : (scan U).2 = true
          · have HC : Hid (Calls Tryz.prog 59 #[.string ⟨U.toArray⟩] (wr.alloc (.cells #[.int .i64 K, .int .i64 D, .string ⟨U.toArray⟩] 50)) fun e w' => ∃ n1 n2 n3 n4, e = .returned (.tuple #[.agg #[.int .i64 n1, .int .i64 n2, .int .i64 n3, .int .i64 n4], .nilIface]) ∧ Below (wr.alloc (.cells #[.int .i64 K, .int .i64 D, .string ⟨U.toArray⟩] 50)).heap.size (wr.alloc (.cells #[.int .i64 K, .int .i64 D, .string ⟨U.toArray⟩] 50)) w') := Calls.mono cC fun e w' h => by
              obtain ⟨v, x, rfl, hb, ⟨_, rfl, rfl⟩ | ⟨h0, _⟩⟩ := h
              · exact ⟨_, _, _, _, rfl, hb⟩
              · rw [show (ByteArray.mk U.toArray).data.toList = U from rfl, hsc] at h0; cases h0
            clear cC hsc hU hpk
            go_wp2_with (first
              | (go_at_call 59; refine Calls.mono HC.out ?_; rintro e w2 ⟨n1, n2, n3, n4, rfl, hb2⟩; have HB2 : Hid (Below w.heap.size w w2) := HB0.out.trans (hb2.mono HB0.out.size); have HO2 : Hid (w2.ownsRow w.heap.size 50 3 (.slice pv qs.length cv) qs.length (cellsP qs)) := own_below ho0.out hb2; have z2 := (hb2.cell (p := ⟨wr.heap.size, 2, none⟩) hl0).trans y2; have z1 := (hb2.cell (p := ⟨wr.heap.size, 1, none⟩) hl0).trans y1; have z0 := (hb2.cell (p := ⟨wr.heap.size, 0, none⟩) hl0).trans y0; have hba : Below w2.heap.size w2 (w2.alloc (.cells #[.int .i64 n1, .int .i64 n2, .int .i64 n3, .int .i64 n4] 25)) := (Below.refl _ w2).alloc (Nat.le_refl _) _; have t2 := cell_on hba z2; have t1 := cell_on hba z1; have t0 := cell_on hba z0; have hl2 := alloc_size hb2; have hs2 := HB2.out.size; have HO3 : Hid ((w2.alloc (.cells #[.int .i64 n1, .int .i64 n2, .int .i64 n3, .int .i64 n4] 25)).ownsRow w.heap.size 50 3 (.slice pv qs.length cv) qs.length (cellsP qs)) := HO2.out.alloc _; have HB3 : Hid (Below w.heap.size w (w2.alloc (.cells #[.int .i64 n1, .int .i64 n2, .int .i64 n3, .int .i64 n4] 25))) := HB2.out.alloc HB2.out.size _; clear hb2 hba)
              | (at_builtin; refine wpList_append_own _ rfl _ _ 23 rfl w.heap.size 50 i0 (.agg #[.int .i64 0, .int .i64 0, .string ⟨#[]⟩]) 3 32 Tryz.underlying23 hi hz0 hz1 hz2 rfl (by decide) _ _ _ rfl (HO3.out.alloc _) ⟨w2.heap.size + 1, 0, none⟩ 1 1 (partCells ⟨0, 0, U⟩) rfl rfl (cells_newN _ _ (by first | rfl | simp) _ _) (partCells_one _) (by unfold maxLen; omega) (by omega) (by first | omega | (simp; omega)) ?_)
              | fail)
            intro v' w' hown' hg' _
            obtain ⟨p', c', rfl⟩ := own_slice hown'
            have HBW' : Hid (Below w.heap.size w w') := (HB3.out.alloc HB3.out.size _).grown hg' (by simp; omega) fun k hk => (HO3.out.lt k hk).1
            have HO' : Hid (w'.ownsRow w.heap.size 50 3 (.slice p' (qs.length + 1) c') (qs.length + 1) (cellsP qs ++ partCells ⟨0, 0, U⟩)) := hown'
            clear hown' hg'
            go_wp2
            go_roundw
            case rel =>
              refine ⟨k + 1, M, by go_num, rfl, qs ++ [⟨0, 0, U⟩], ?_, by simp; omega, small_snoc HQS.out ⟨Int.le_refl _, hN0, Int.le_refl _, hN0, by show U.length ≤ 150; omega⟩, hM0, hM1, by omega, by omega, HBW'.out⟩
              rw [cellsP_snoc, List.length_append]; exact HO'.out
            case measure => simp [intOf]; omega
          · have hsc : (scan U).2 = false := Bool.eq_false_iff.2 hsc
            have HC : Hid (Calls Tryz.prog 59 #[.string ⟨U.toArray⟩] (wr.alloc (.cells #[.int .i64 K, .int .i64 D, .string ⟨U.toArray⟩] 50)) fun e w' => ∃ n1 n2 n3 n4 bx, e = .returned (.tuple #[.agg #[.int .i64 n1, .int .i64 n2, .int .i64 n3, .int .i64 n4], .iface 233 (.pointer (some ⟨bx, 0, none⟩))]) ∧ Below (wr.alloc (.cells #[.int .i64 K, .int .i64 D, .string ⟨U.toArray⟩] 50)).heap.size (wr.alloc (.cells #[.int .i64 K, .int .i64 D, .string ⟨U.toArray⟩] 50)) w') := Calls.mono cC fun e w' h => by
              obtain ⟨v, x, rfl, hb, ⟨h0, _⟩ | ⟨_, rfl, bx, rfl, _⟩⟩ := h
              · rw [show (ByteArray.mk U.toArray).data.toList = U from rfl, hsc] at h0; cases h0
              · exact ⟨_, _, _, _, bx, rfl, hb⟩
            clear cC hsc hU
            have hpk2 : (¬ 0 < K2) ∨ (0 < K2 ∧ ¬ K2 ≤ M) ∨ (0 < K2 ∧ K2 ≤ M) := by omega
            rcases hpk with hp | ⟨hp, hp'⟩ | ⟨hp, hp'⟩ <;> rcases hpk2 with hr | ⟨hr, hr'⟩ | ⟨hr, hr'⟩ <;>
            · go_wp2_with (first
                | (go_at_call 59; refine Calls.mono HC.out ?_; rintro e w2 ⟨n1, n2, n3, n4, bx, rfl, hb2⟩; have HB2 : Hid (Below w.heap.size w w2) := HB0.out.trans (hb2.mono HB0.out.size); have HO2 : Hid (w2.ownsRow w.heap.size 50 3 (.slice pv qs.length cv) qs.length (cellsP qs)) := own_below ho0.out hb2; have z2 := (hb2.cell (p := ⟨wr.heap.size, 2, none⟩) hl0).trans y2; have z1 := (hb2.cell (p := ⟨wr.heap.size, 1, none⟩) hl0).trans y1; have z0 := (hb2.cell (p := ⟨wr.heap.size, 0, none⟩) hl0).trans y0; have hba : Below w2.heap.size w2 (w2.alloc (.cells #[.int .i64 n1, .int .i64 n2, .int .i64 n3, .int .i64 n4] 25)) := (Below.refl _ w2).alloc (Nat.le_refl _) _; have t2 := cell_on hba z2; have t1 := cell_on hba z1; have t0 := cell_on hba z0; have hl2 := alloc_size hb2; have hs2 := HB2.out.size; have HO3 : Hid ((w2.alloc (.cells #[.int .i64 n1, .int .i64 n2, .int .i64 n3, .int .i64 n4] 25)).ownsRow w.heap.size 50 3 (.slice pv qs.length cv) qs.length (cellsP qs)) := HO2.out.alloc _; have HB3 : Hid (Below w.heap.size w (w2.alloc (.cells #[.int .i64 n1, .int .i64 n2, .int .i64 n3, .int .i64 n4] 25))) := HB2.out.alloc HB2.out.size _; clear hb2 hba)
                | (have _ := HO4; go_at_call 16; refine (CP2.out _).mono ?_; rintro e w6 ⟨rfl, hb6⟩; have HB6 : Hid (Below w.heap.size w w6) := HB4.out.trans (hb6.mono HB4.out.size); have HO6 : Hid (w6.ownsRow w.heap.size 50 3 (.slice pv qs.length cv) qs.length (cellsP qs)) := own_below HO4.out hb6; have p2 := cell_on hb6 q2; have hs6 := HB6.out.size; clear hb6)
                | (go_at_call 16; refine (CP1.out _).mono ?_; rintro e w4 ⟨rfl, hb4⟩; have HB4 : Hid (Below w.heap.size w w4) := HB3.out.trans (hb4.mono HB3.out.size); have HO4 : Hid (w4.ownsRow w.heap.size 50 3 (.slice pv qs.length cv) qs.length (cellsP qs)) := own_below HO3.out hb4; have q2 := cell_on hb4 t2; have q1 := cell_on hb4 t1; have hs4 := HB4.out.size; have hs24 := hb4.size; rw [World.size_alloc] at hs24; clear hb4)
                | fail)
              go_roundw
              case rel => exact ⟨k + 1, M, by go_num, rfl, qs, HO6.out, by omega, HQS.out, hM0, hM1, by omega, by omega, HB6.out⟩
              case measure => simp [intOf]; omega
    · have hexit : k = n ∨ (k < n ∧ k = 30) := by omega
      have hql61 : qs.length ≤ 60 := by omega
      by_cases hMp : 0 < M
      · rcases hexit with rfl | ⟨h1, rfl⟩
        · have hex : ¬ (k : Int) < (k : Int) := by omega
          go_wp2_with (first
            | (at_builtin; refine wpList_append_own _ rfl _ _ 23 rfl w.heap.size 50 i0 (.agg #[.int .i64 0, .int .i64 0, .string ⟨#[]⟩]) 3 32 Tryz.underlying23 hi hz0 hz1 hz2 rfl (by decide) _ _ _ rfl (HOW.out.alloc _) ⟨wr.heap.size, 0, none⟩ 1 1 (partCells ⟨M, 0, []⟩) rfl rfl (cells_newN _ _ (by first | rfl | simp) _ _) (partCells_one _) (by unfold maxLen; omega) (by omega) (by first | omega | (simp; omega)) ?_)
            | fail)
          intro v' w' hown' hg' _
          obtain ⟨p', c', rfl⟩ := own_slice hown'
          have HBW' : Hid (Below w.heap.size w w') := (HWR.out.alloc HWR.out.size _).grown hg' (by simp; omega) fun k hk => (HOW.out.lt k hk).1
          have HO' : Hid (w'.ownsRow w.heap.size 50 3 (.slice p' (qs.length + 1) c') (qs.length + 1) (cellsP qs ++ partCells ⟨M, 0, []⟩)) := hown'
          clear hown' hg'
          go_wp2
          go_ret
          refine ⟨_, qs ++ [⟨M, 0, []⟩], rfl, ?_, by simp; omega, small_snoc HQS.out ⟨hM0, hM1, Int.le_refl _, hN0, by simp⟩, HBW'.out⟩
          rw [cellsP_snoc, List.length_append]; exact HO'.out
        · have hex : (30 : Int) < (n : Int) := by omega
          go_wp2_with (first
            | (at_builtin; refine wpList_append_own _ rfl _ _ 23 rfl w.heap.size 50 i0 (.agg #[.int .i64 0, .int .i64 0, .string ⟨#[]⟩]) 3 32 Tryz.underlying23 hi hz0 hz1 hz2 rfl (by decide) _ _ _ rfl (HOW.out.alloc _) ⟨wr.heap.size, 0, none⟩ 1 1 (partCells ⟨M, 0, []⟩) rfl rfl (cells_newN _ _ (by first | rfl | simp) _ _) (partCells_one _) (by unfold maxLen; omega) (by omega) (by first | omega | (simp; omega)) ?_)
            | fail)
          intro v' w' hown' hg' _
          obtain ⟨p', c', rfl⟩ := own_slice hown'
          have HBW' : Hid (Below w.heap.size w w') := (HWR.out.alloc HWR.out.size _).grown hg' (by simp; omega) fun k hk => (HOW.out.lt k hk).1
          have HO' : Hid (w'.ownsRow w.heap.size 50 3 (.slice p' (qs.length + 1) c') (qs.length + 1) (cellsP qs ++ partCells ⟨M, 0, []⟩)) := hown'
          clear hown' hg'
          go_wp2
          go_ret
          refine ⟨_, qs ++ [⟨M, 0, []⟩], rfl, ?_, by simp; omega, small_snoc HQS.out ⟨hM0, hM1, Int.le_refl _, hN0, by simp⟩, HBW'.out⟩
          rw [cellsP_snoc, List.length_append]; exact HO'.out
      · rcases hexit with rfl | ⟨h1, rfl⟩
        · have hex : ¬ (k : Int) < (k : Int) := by omega
          go_wp2
          go_ret
          first | exact ⟨_, qs, rfl, HOW.out, by omega, HQS.out, HWR.out⟩ | exact ⟨_, rfl, qs, HOW.out, by omega, HQS.out, HWR.out⟩
        · have hex : (30 : Int) < (n : Int) := by omega
          go_wp2
          go_ret
          first | exact ⟨_, qs, rfl, HOW.out, by omega, HQS.out, HWR.out⟩ | exact ⟨_, rfl, qs, HOW.out, by omega, HQS.out, HWR.out⟩
end Go.Proofs.YtldhbjmillfjgabGreatDoor

namespace Go.Proofs
open Go.Shelf
def Tryz.laysM316_ren : Go.Shelf.Ren := ⟨fun | 316 => 140 | n => n, fun | 9 => 9 | 3 => 3 | 4 => 4 | 37 => 130 | 0 => 0 | 127 => 232 | 5 => 5 | n => n, fun | n => n⟩
theorem Tryz.laysM316 : Go.Proofs.LaysM.n316 Tryz.prog Tryz.laysM316_ren := {
  mixed := by kernel_rfl
  f316 := Tryz.func140.trans (congrArg some (by kernel_rfl))
  t0 := Tryz.underlying0
  a0 := Tryz.isAgg0
  z0 := Tryz.sizeOf0
  v0 := Tryz.zeroValue0
  t3 := Tryz.underlying3
  a3 := Tryz.isAgg3
  z3 := Tryz.sizeOf3
  v3 := Tryz.zeroValue3
  t4 := Tryz.underlying4
  a4 := Tryz.isAgg4
  z4 := Tryz.sizeOf4
  v4 := Tryz.zeroValue4
  t9 := Tryz.underlying9
  a9 := Tryz.isAgg9
  z9 := Tryz.sizeOf9
  v9 := Tryz.zeroValue9
  t37 := Tryz.underlying130
  a37 := Tryz.isAgg130
  z37 := Tryz.sizeOf130
  v37 := Tryz.zeroValue130
  t127 := Tryz.underlying232
  a127 := Tryz.isAgg232
  z127 := Tryz.sizeOf232
  v127 := Tryz.zeroValue232
  t5 := Tryz.underlying5
  a5 := Tryz.isAgg5
  z5 := Tryz.sizeOf5
  v5 := Tryz.zeroValue5
  i0 := by kernel_rfl
  i3 := by kernel_rfl
  i4 := by kernel_rfl
  i5 := by kernel_rfl
  i9 := by kernel_rfl
  i37 := by kernel_rfl
  i127 := by kernel_rfl }
open Go.RowKit in
theorem Tryz.stringslite_Clone (s : ByteArray) (w : World) (hlim : s.size ≤ 281474976710656) :
    Calls Tryz.prog 140 #[.string s] w fun e w' => e = .returned (.string s) ∧ Below w.heap.size w w' := Any.stringslite_Clone Tryz.laysM316 s w hlim
end Go.Proofs
