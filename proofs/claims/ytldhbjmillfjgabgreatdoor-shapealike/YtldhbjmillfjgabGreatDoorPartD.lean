/-
  The library's contract of utf8.ValidString, laid at this program.
  errors.As at a target of the project's own number type: an error number; an error at a place, which unwraps to its number; no error. Then api.Tell, plain.Place and the law's own 'is'.
  errors.As at the project's number type, walked.
  errors.As, api.Tell, plain.Place and the law's 'is': at no error, and at an error at a place.
  errors.As, api.Tell, plain.Place and the law's 'is' and 'bare' at an error that is a number.
  ops.isOne, and what ops.Check says of any operation.
  Two operations side by side: the model of what Compose and Transform go through (pure).
  Side by side is gap by gap (pure), where puts stand alone in both.
  What a least form is made of (pure).
  rosettakeep's pick and fit: what comes is few parts that are not great.
  The library's contracts that these texts use, laid at this program by the shelf's own command, its plain mode.
  bridge.To by runes: what Check tells; else each part in bytes.
  pos.Convert by units that are none, and within a rune.
  Operations in other units: what comes of them (pure).
  bridge.turn by any units: what comes, or a part that ends within a rune.
  The document's Gather: gaps in least form.
  rosettalaw.OpsCheck: the law's own walk.
  ops.over: what its iterator does with the rounds of a loop.
-/
import Derived.Shelf.Unicode.ValidAny
import Derived.Test.YtldhbjmillfjgabGreatDoorPartA
import Derived.Test.YtldhbjmillfjgabGreatDoorProg
import Derived.WalkKit
import Derived.WalkSpells
import Derived.WalkLawsBesides
import Derived.LaidEql
import Derived.Stop.Asserts
import Derived.RowKitTokens
import Derived.Deep.QuietTactic
import Derived.BigQuiet
import Derived.Deep.RegionWith
import Derived.Test.YtldhbjmillfjgabGreatDoorPartC
import Derived.Shelf.Strings.Builder1
import Derived.Shelf.Small.Utf8
import Derived.Shelf.Strings.BuilderF
import Derived.Shelf.Strings.BuilderK
import Derived.Shelf.Utf8.AppendRune
import Derived.Shelf.Utf8.AppendRunePlain
import Derived.Shelf.Utf8.RuneCount
import Derived.Shelf.LaysM
import Derived.Shelf.Strconv.Clone
import Derived.Shelf.Strings.Search1
import Derived.Shelf.Strings.Search2
import Derived.Shelf.Strings.Search3
import Derived.Shelf.Strings.Count
import Derived.Shelf.Strings.Shaped
import Derived.Shelf.Strings.Split
import Derived.Shelf.Unicode.Decode
import Derived.Shelf.Strings.RuneCount
import Derived.Shelf.Unicode.DecodeSlow
import Derived.Shelf.Unicode.DecodeAny
import Derived.Shelf.Strings.BuilderCap
import Derived.Laws.EntriesVeiled
import Derived.Test.YtldhbjmillfjgabGreatDoorPartB
import Derived.OwnWalkIn
import Derived.TacticsInMore
import Derived.LoopNIn
import Derived.LoopIn
import Derived.Stop.RegionWithIn
namespace Go.Proofs
open Go.Shelf
def Tryz.lays196_ren : Go.Shelf.Ren := ⟨fun | 196 => 122 | 259 => 166 | n => n, fun | 0 => 0 | 3 => 3 | 4 => 4 | 5 => 5 | 9 => 9 | 12 => 12 | 46 => 86 | 53 => 294 | 119 => 263 | 138 => 265 | 139 => 266 | n => n, fun | 3 => 2 | 4 => 3 | n => n⟩
theorem Tryz.lays196 : Go.Proofs.Lays.n196 Tryz.prog Tryz.lays196_ren := {
  mixed := by kernel_rfl
  f196 := Tryz.func122.trans (congrArg some (by kernel_rfl))
  f259 := Tryz.func166.trans (congrArg some (by kernel_rfl))
  t0 := Tryz.underlying0
  a0 := Tryz.isAgg0
  z0 := Tryz.sizeOf0
  v0 := Tryz.zeroValue0
  t3 := Tryz.underlying3
  a3 := Tryz.isAgg3
  z3 := Tryz.sizeOf3
  v3 := Tryz.zeroValue3
  t4 := Tryz.underlying4
  a4 := Tryz.isAgg4
  z4 := Tryz.sizeOf4
  v4 := Tryz.zeroValue4
  t5 := Tryz.underlying5
  a5 := Tryz.isAgg5
  z5 := Tryz.sizeOf5
  v5 := Tryz.zeroValue5
  t9 := Tryz.underlying9
  a9 := Tryz.isAgg9
  z9 := Tryz.sizeOf9
  v9 := Tryz.zeroValue9
  t12 := Tryz.underlying12
  a12 := Tryz.isAgg12
  z12 := Tryz.sizeOf12
  v12 := Tryz.zeroValue12
  t46 := Tryz.underlying86
  a46 := Tryz.isAgg86
  z46 := Tryz.sizeOf86
  v46 := Tryz.zeroValue86
  t53 := Tryz.underlying294
  a53 := Tryz.isAgg294
  z53 := Tryz.sizeOf294
  v53 := Tryz.zeroValue294
  t119 := Tryz.underlying263
  a119 := Tryz.isAgg263
  z119 := Tryz.sizeOf263
  t138 := Tryz.underlying265
  a138 := Tryz.isAgg265
  z138 := Tryz.sizeOf265
  v138 := Tryz.zeroValue265
  t139 := Tryz.underlying266
  a139 := Tryz.isAgg266
  z139 := Tryz.sizeOf266
  v139 := Tryz.zeroValue266
  g3 := by kernel_rfl
  g4 := by kernel_rfl }
end Go.Proofs
namespace Go.Proofs.YtldhbjmillfjgabGreatDoor
open Go.RowKit

/-- The library's own word for a sound text is ours. -/
theorem valid_scan (n : Nat) : ∀ (l : List UInt8), l.length ≤ n → Lib.validGoD n l = (scan l).2 := by
  induction n with
  | zero =>
    intro l hl
    have : l = [] := List.eq_nil_of_length_eq_zero (by omega)
    subst this
    rfl
  | succ n ih =>
    intro l hl
    unfold Lib.validGoD
    by_cases hne : l = []
    · subst hne; rfl
    · rw [if_neg hne]
      have hd : Lib.decodeL l = dec l := by
        have := decode_dec ⟨l.toArray⟩ 0
        rw [List.drop_zero] at this
        rw [← this]
        unfold Lib.decodeL
        congr 1
        apply ByteArray.ext
        simp
      rw [hd]
      by_cases hb : badB (dec l) = true
      · rw [scan_bad hne hb, if_pos (badB_true hb)]
      · have hb' : badB (dec l) = false := Bool.eq_false_iff.2 hb
        rw [scan_good hne hb', if_neg (by intro h; exact hb (by unfold badB; simp [h])), ih]
        have h1 := dec_ge1 l
        rw [List.length_drop]
        omega

theorem ValidString_any (s : ByteArray) (w : World) (hs : s.size ≤ 9223372036854775807) (hT : Lib.Utf8Tabs 2 3 w) :
    Calls Tryz.prog 122 #[.string s] w fun e w' => e = .returned (.bool (scan s.data.toList).2) ∧ Below w.heap.size w w' := by
  have := Any.utf8_ValidString Tryz.lays196 s w hs hT
  rwa [show Lib.validD s.data.toList = (scan s.data.toList).2 from valid_scan _ _ (Nat.le_refl _)] at this
end Go.Proofs.YtldhbjmillfjgabGreatDoor

namespace Go.Proofs.YtldhbjmillfjgabGreatDoor
open Go.RowKit Go.Extern.Stop Go.Stop Go.Extern

theorem as_valueOf (t : Addr) (w : World) : (ReflectliteValue.unpack (.iface 152 (.pointer (some t)))).run Tryz.prog w
    = .ok (.agg #[.pointer (some ⟨4, 152, none⟩), .pointer (some ⟨w.heap.size, 0, none⟩), .int .u64 150]) (w.alloc (.cells #[.pointer (some t)] 152)) := by kernel_rfl
theorem as_type (a : Addr) (w : World) : (ReflectliteValue.methodAny (ReflectliteValue.valueError "reflectlite.Value.Type" 0) (fun t _ _ _ => ReflectliteType.toType t) #[.agg #[.pointer (some ⟨4, 152, none⟩), .pointer (some a), .int .u64 150]]).run Tryz.prog w
    = .ok (.iface 270 (.agg #[.pointer (some ⟨4, 152, none⟩)])) w := by kernel_rfl
theorem as_methodKind (h : Value) (w : World) : (Go.method 427 270 (.agg #[h]) "Kind").run Tryz.prog w = .ok (219, h) w := by kernel_rfl
theorem as_kindP (w : World) : ((ReflectliteType.abiMethod fun t => (fun a : Nat => Value.int IntKind.u8 (a : Int)) <$> Rtype.kind t) #[.pointer (some ⟨4, 152, none⟩)]).run Tryz.prog w = .ok (.int .u8 22) w := by kernel_rfl
theorem as_kindE (w : World) : ((ReflectliteType.abiMethod fun t => (fun a : Nat => Value.int IntKind.u8 (a : Int)) <$> Rtype.kind t) #[.pointer (some ⟨4, 26, none⟩)]).run Tryz.prog w = .ok (.int .u8 2) w := by kernel_rfl

theorem as_rlm (z : Sem Value) (f : TypeId → Addr → Nat → Nat → Sem Value) (v : Value) :
    ReflectliteValue.method z f #[v] = (do match ← ReflectliteValue.parts v with | none => z | some (t, a, fl) => f t a fl (fl % 32)) := rfl
theorem as_partsP (a : Addr) (w : World) : (ReflectliteValue.parts (.agg #[.pointer (some ⟨4, 152, none⟩), .pointer (some a), .int .u64 150])).run Tryz.prog w = .ok (some (152, a, 150)) w := by kernel_rfl
theorem as_isNil (a p : Addr) (W : World) (ha : W.cell? a = some (.pointer (some p))) :
    (ReflectliteValue.method (ReflectliteValue.valueError "reflectlite.Value.IsNil" 0) ReflectliteValue.isNil #[.agg #[.pointer (some ⟨4, 152, none⟩), .pointer (some a), .int .u64 150]]).run Tryz.prog W = .ok (.bool false) W := by
  rw [as_rlm]
  simp only [Sem.run_bind, as_partsP, Result.andThen]
  simp [ReflectliteValue.isNil, loadVar, isAgg, underlying, Tryz.underlying152, ha, Result.andThen]
theorem as_methodElem (h : Value) (w : World) : (Go.method 427 270 (.agg #[h]) "Elem").run Tryz.prog w = .ok (233, .agg #[h]) w := by kernel_rfl
theorem as_methodImplements (h : Value) (w : World) : (Go.method 427 270 (.agg #[h]) "Implements").run Tryz.prog w = .ok (234, .agg #[h]) w := by kernel_rfl
theorem as_methodAssignableTo (h : Value) (w : World) : (Go.method 427 270 (.agg #[h]) "AssignableTo").run Tryz.prog w = .ok (231, .agg #[h]) w := by kernel_rfl
theorem as_elem (w : World) : (ReflectliteType.method ReflectliteType.elem #[.agg #[.pointer (some ⟨4, 152, none⟩)]]).run Tryz.prog w = .ok (.iface 270 (.agg #[.pointer (some ⟨4, 26, none⟩)])) w := by kernel_rfl
theorem as_implements (w : World) : (ReflectliteType.relation "Implements" ReflectliteType.implements_ #[.agg #[.pointer (some ⟨4, 26, none⟩)], .iface 270 (.agg #[.pointer (some ⟨4, 33, none⟩)])]).run Tryz.prog w = .ok (.bool true) w := by kernel_rfl
theorem as_typeOfE (v : Value) (w : World) : (ReflectliteType.typeOf #[.iface 26 v]).run Tryz.prog w = .ok (.iface 270 (.agg #[.pointer (some ⟨4, 26, none⟩)])) w := by kernel_rfl
theorem as_typeOfA (v : Value) (w : World) : (ReflectliteType.typeOf #[.iface 233 v]).run Tryz.prog w = .ok (.iface 270 (.agg #[.pointer (some ⟨4, 233, none⟩)])) w := by kernel_rfl
theorem as_assignE (w : World) : (ReflectliteType.relation "AssignableTo" ReflectliteType.assignableTo #[.agg #[.pointer (some ⟨4, 26, none⟩)], .iface 270 (.agg #[.pointer (some ⟨4, 26, none⟩)])]).run Tryz.prog w = .ok (.bool true) w := by kernel_rfl
theorem as_assignA (w : World) : (ReflectliteType.relation "AssignableTo" ReflectliteType.assignableTo #[.agg #[.pointer (some ⟨4, 233, none⟩)], .iface 270 (.agg #[.pointer (some ⟨4, 26, none⟩)])]).run Tryz.prog w = .ok (.bool false) w := by kernel_rfl
theorem as_valueOfE (n : Int) (w : World) : (ReflectliteValue.unpack (.iface 26 (.int .i64 n))).run Tryz.prog w
    = .ok (.agg #[.pointer (some ⟨4, 26, none⟩), .pointer (some ⟨w.heap.size, 0, none⟩), .int .u64 130]) (w.alloc (.cells #[.int .i64 n] 26)) := by kernel_rfl
theorem as_elemOf (w : World) : (Rtype.elem? 152).run Tryz.prog w = .ok (some 26) w := by kernel_rfl
theorem as_mk (p : Addr) (w : World) : (ReflectliteValue.mk 26 p ReflectliteValue.flagAddr).run Tryz.prog w = .ok (.agg #[.pointer (some ⟨4, 26, none⟩), .pointer (some p), .int .u64 386]) w := by kernel_rfl
theorem as_elemV (a p : Addr) (W : World) (ha : W.cell? a = some (.pointer (some p))) :
    (ReflectliteValue.method (ReflectliteValue.valueError "reflectlite.Value.Elem" 0) ReflectliteValue.elem #[.agg #[.pointer (some ⟨4, 152, none⟩), .pointer (some a), .int .u64 150]]).run Tryz.prog W
      = .ok (.agg #[.pointer (some ⟨4, 26, none⟩), .pointer (some p), .int .u64 386]) W := by
  rw [as_rlm]
  simp only [Sem.run_bind, as_partsP, Result.andThen]
  simp [ReflectliteValue.elem, loadVar, isAgg, underlying, Tryz.underlying152, ha, Result.andThen, as_elemOf, as_mk]
theorem as_rls (v x : Value) : ReflectliteValue.set #[v, x] = (do
    let (some (dst, a, fl), some (src, b, _)) := (← ReflectliteValue.parts v, ← ReflectliteValue.parts x)
      | unsupported (.noEntry "extern/(internal/reflectlite.Value).Set.zeroValue")
    if fl / ReflectliteValue.flagAddr % 2 == 0 then unsupported (.noEntry "extern/(internal/reflectlite.Value).Set.unaddressable")
    let val ← loadVar src b
    if ← Rtype.directlyAssignable dst src then storeVar dst a val
    else if ← Rtype.implements dst src then
      if (← Rtype.kind src) == 20 then
        match val with
        | .nilIface => unsupported (.noEntry "extern/reflectlite: a nil value of one interface type handed on as a value of another")
        | _ => storeVar dst a val
      else storeVar dst a (.iface src val)
    else panicString ("reflectlite.Set: value of type " ++ (← Rtype.spelt src) ++ " is not assignable to type " ++ (← Rtype.spelt dst))
    pure (.tuple #[])) := rfl
theorem as_partsD (a : Addr) (w : World) : (ReflectliteValue.parts (.agg #[.pointer (some ⟨4, 26, none⟩), .pointer (some a), .int .u64 386])).run Tryz.prog w = .ok (some (26, a, 386)) w := by kernel_rfl
theorem as_partsE (a : Addr) (w : World) : (ReflectliteValue.parts (.agg #[.pointer (some ⟨4, 26, none⟩), .pointer (some a), .int .u64 130])).run Tryz.prog w = .ok (some (26, a, 130)) w := by kernel_rfl
theorem as_direct (w : World) : (Rtype.directlyAssignable 26 26).run Tryz.prog w = .ok true w := by kernel_rfl
theorem as_set (ta b : Addr) (n : Int) (old : Value) (W : World) (hb : W.cell? b = some (.int .i64 n)) (ht : W.cell? ta = some old) (hf : W.frozen? ta = false) :
    (ReflectliteValue.set #[.agg #[.pointer (some ⟨4, 26, none⟩), .pointer (some ta), .int .u64 386], .agg #[.pointer (some ⟨4, 26, none⟩), .pointer (some b), .int .u64 130]]).run Tryz.prog W
      = .ok (.tuple #[]) (W.setCell ta (.int .i64 n)) := by
  rw [as_rls]
  simp only [Sem.run_bind, as_partsD, as_partsE, Result.andThen]
  simp [ReflectliteValue.flagAddr, loadVar, isAgg, underlying, Tryz.underlying26, hb, Result.andThen, as_direct, storeVar, Value.cells, storeCells, Addr.add]
  rw [run_store Tryz.prog W ta _ _ (by rfl)]
  simp [ht, hf]
theorem as_noAs (v : Value) (xT : TypeId) (w : World) : (Instr.typeAssert (.iface 233 v) xT 275 true).run Tryz.prog w = .ok (.tuple #[.nilIface, .bool false]) w := run_typeAssert_lacksB Tryz.underlying275 (by kernel_rfl) (by kernel_rfl) v xT w
theorem as_hasUnwrap (v : Value) (xT : TypeId) (w : World) : (Instr.typeAssert (.iface 233 v) xT 236 true).run Tryz.prog w = .ok (.tuple #[.iface 233 v, .bool true]) w := run_typeAssert_hasB Tryz.underlying236 (by kernel_rfl) v xT w
theorem as_unwrapAhead (a : Addr) (w : World) : (nilAhead 427 233 (.pointer (some a)) "Unwrap").run Tryz.prog w = .ok (some false) w := by kernel_rfl
theorem as_methodUnwrap (a : Addr) (w : World) : (Go.method 427 233 (.pointer (some a)) "Unwrap").run Tryz.prog w = .ok (229, .pointer (some a)) w := by kernel_rfl

/-- What the walks of errors.As want of the library's variable. -/
def asLaid (w : World) : Prop := w.cell? ⟨0, 0, none⟩ = some (.iface 270 (.agg #[.pointer (some ⟨4, 33, none⟩)]))

/-- errors.as at the number itself: the target's variable is set. -/
def target (q : Nat) : Value := .agg #[.pointer (some ⟨4, 152, none⟩), .pointer (some ⟨q, 0, none⟩), .int .u64 150]

end Go.Proofs.YtldhbjmillfjgabGreatDoor

namespace Go.Proofs.YtldhbjmillfjgabGreatDoor
open Go.RowKit Go.Extern.Stop Go.Stop Go.Extern

theorem set_below {w : World} {t : Nat} {n : Int} {old : Value} (ht : w.cell? ⟨t, 0, none⟩ = some old) (o1 o2 : Obj) :
    (((w.setCell ⟨t, 0, none⟩ (.int .i64 n)).alloc o1).alloc o2).cell? ⟨t, 0, none⟩ = some (.int .i64 n) ∧ Below t w (((w.setCell ⟨t, 0, none⟩ (.int .i64 n)).alloc o1).alloc o2) := by
  have htl := World.block_lt_of_cell? w _ ht
  have hz : (w.setCell ⟨t, 0, none⟩ (.int .i64 n)).heap.size = w.heap.size := by simp
  have h1 : t < (w.setCell ⟨t, 0, none⟩ (.int .i64 n)).heap.size := by rw [hz]; exact htl
  refine ⟨?_, ?_⟩
  · rw [World.cell?_alloc_lt _ _ ⟨t, 0, none⟩ (by rw [World.size_alloc]; exact Nat.lt_succ_of_lt h1), World.cell?_alloc_lt _ _ ⟨t, 0, none⟩ h1]
    exact World.cell?_setCell_same _ _ _ ht
  · exact ((((Below.refl t w).setCell (p := ⟨t, 0, none⟩) (Nat.le_refl _) _)).alloc (Nat.le_of_lt h1) _).alloc (by rw [World.size_alloc]; exact Nat.le_succ_of_le (Nat.le_of_lt h1)) _

set_option maxRecDepth 100000 in
set_option maxHeartbeats 4000000 in
theorem as_number (n : Int) (t q : Nat) (old : Value) (w : World) (hq : w.cell? ⟨q, 0, none⟩ = some (.pointer (some ⟨t, 0, none⟩))) (ht : w.cell? ⟨t, 0, none⟩ = some old) (hf : w.frozen? ⟨t, 0, none⟩ = false) :
    Calls Tryz.prog 136 #[.iface 26 (.int .i64 n), .iface 152 (.pointer (some ⟨t, 0, none⟩)), target q, .iface 270 (.agg #[.pointer (some ⟨4, 26, none⟩)])] w
      fun e w' => e = .returned (.bool true) ∧ w'.cell? ⟨t, 0, none⟩ = some (.int .i64 n) ∧ Below t w w' := by
  have hTO := @run_callFunc_extern Tryz.prog 170 _ ReflectliteType.typeOf Tryz.func170 (by kernel_rfl) (by kernel_rfl) (by kernel_rfl) (by kernel_rfl)
  have hAT := @run_callFunc_extern Tryz.prog 231 _ (ReflectliteType.relation "AssignableTo" ReflectliteType.assignableTo) Tryz.func231 (by kernel_rfl) (by kernel_rfl) (by kernel_rfl) (by kernel_rfl)
  have hVE := @run_callFunc_extern Tryz.prog 171 _ (ReflectliteValue.method (ReflectliteValue.valueError "reflectlite.Value.Elem" 0) ReflectliteValue.elem) Tryz.func171 (by kernel_rfl) (by kernel_rfl) (by kernel_rfl) (by kernel_rfl)
  have hVS := @run_callFunc_extern Tryz.prog 172 _ ReflectliteValue.set Tryz.func172 (by kernel_rfl) (by kernel_rfl) (by kernel_rfl) (by kernel_rfl)
  have hVO := @run_callFunc_extern Tryz.prog 133 _ (fun args => ReflectliteValue.unpack (args.getD 0 (.tuple #[]))) Tryz.func133 (by kernel_rfl) (by kernel_rfl) (by kernel_rfl) (by kernel_rfl)
  have tE := as_typeOfE
  have tA := as_typeOfA
  have mA := as_methodAssignableTo
  have aE := as_assignE
  have aA := as_assignA
  have vE := as_valueOfE
  have nA := as_noAs
  have hU := as_hasUnwrap
  have uA := as_unwrapAhead
  have mU := as_methodUnwrap
  have htl := World.block_lt_of_cell? w _ ht
  have hql := World.block_lt_of_cell? w _ hq
  have hq2 : (w.alloc (.cells #[.pointer (some ⟨4, 152, none⟩), .pointer (some ⟨q, 0, none⟩), .int .u64 150] 221)).cell? ⟨q, 0, none⟩ = some (.pointer (some ⟨t, 0, none⟩)) := by
    rw [World.cell?_alloc_lt _ _ ⟨q, 0, none⟩ hql]; exact hq
  have el := as_elemV ⟨q, 0, none⟩ ⟨t, 0, none⟩ (w.alloc (.cells #[.pointer (some ⟨4, 152, none⟩), .pointer (some ⟨q, 0, none⟩), .int .u64 150] 221)) hq2
  have st := as_set ⟨t, 0, none⟩ ⟨w.heap.size + 1, 0, none⟩ n old ((w.alloc (.cells #[.pointer (some ⟨4, 152, none⟩), .pointer (some ⟨q, 0, none⟩), .int .u64 150] 221)).alloc (.cells #[.int .i64 n] 26))
    (by rw [World.cell?_alloc_at _ _ _ _ (by simp)]; rfl)
    (by rw [World.cell?_alloc_lt _ _ ⟨t, 0, none⟩ (by rw [World.size_alloc]; exact Nat.lt_succ_of_lt htl), World.cell?_alloc_lt _ _ ⟨t, 0, none⟩ htl]; exact ht)
    (by rw [World.frozen?_alloc_old _ _ ⟨t, 0, none⟩ (by rw [World.size_alloc]; exact Nat.ne_of_lt (Nat.lt_succ_of_lt htl)), World.frozen?_alloc_old _ _ ⟨t, 0, none⟩ (Nat.ne_of_lt htl)]; exact hf)
  have fin := fun o1 o2 => @set_below w t n old ht o1 o2
  have HF : Hid (∀ o1 o2, _ ∧ _) := fin
  clear fin
  clear hq ht hf hq2
  unfold target
  go_enter Tryz.func136, Tryz.ntmps136
  go_wp2
  refine wp_loop_rounds 1 ?_
  rw [rounds_succ]
  go_wp2
  go_ret
  exact ⟨rfl, HF.out _ _⟩

end Go.Proofs.YtldhbjmillfjgabGreatDoor

namespace Go.Proofs.YtldhbjmillfjgabGreatDoor
open Go.RowKit Go.Extern.Stop Go.Stop Go.Extern

set_option maxHeartbeats 400000 in
theorem Tell_nil (w : World) : Calls Tryz.prog 23 #[.nilIface] w fun e w' => e = .returned (.int .i64 0) ∧ w' = w := by
  go_enter Tryz.func23, Tryz.ntmps23
  go_wp2
  go_ret
  exact ⟨rfl, rfl⟩

theorem asLaid_below {w w' : World} (h : asLaid w) (hb : Below w.heap.size w w') : asLaid w' := by
  unfold asLaid
  rw [hb.cell (p := ⟨0, 0, none⟩) (World.block_lt_of_cell? w _ h)]
  exact h
end Go.Proofs.YtldhbjmillfjgabGreatDoor

namespace Go.Proofs.YtldhbjmillfjgabGreatDoor
open Go.RowKit Go.Extern.Stop Go.Stop Go.Extern

set_option maxRecDepth 100000 in
set_option maxHeartbeats 4000000 in
theorem As_number (n : Int) (t : Nat) (old : Value) (w : World) (hg : asLaid w) (ht : w.cell? ⟨t, 0, none⟩ = some old) (hf : w.frozen? ⟨t, 0, none⟩ = false) :
    Calls Tryz.prog 80 #[.iface 26 (.int .i64 n), .iface 152 (.pointer (some ⟨t, 0, none⟩))] w
      fun e w' => e = .returned (.bool true) ∧ w'.cell? ⟨t, 0, none⟩ = some (.int .i64 n) ∧ Below t w w' := by
  have hVO := @run_callFunc_extern Tryz.prog 133 _ (fun args => ReflectliteValue.unpack (args.getD 0 (.tuple #[]))) Tryz.func133 (by kernel_rfl) (by kernel_rfl) (by kernel_rfl) (by kernel_rfl)
  have hTy := @run_callFunc_extern Tryz.prog 134 _ (ReflectliteValue.methodAny (ReflectliteValue.valueError "reflectlite.Value.Type" 0) (fun t _ _ _ => ReflectliteType.toType t)) Tryz.func134 (by kernel_rfl) (by kernel_rfl) (by kernel_rfl) (by kernel_rfl)
  have hIN := @run_callFunc_extern Tryz.prog 135 _ (ReflectliteValue.method (ReflectliteValue.valueError "reflectlite.Value.IsNil" 0) ReflectliteValue.isNil) Tryz.func135 (by kernel_rfl) (by kernel_rfl) (by kernel_rfl) (by kernel_rfl)
  have hKd := @run_callFunc_extern Tryz.prog 219 _ (ReflectliteType.abiMethod fun t => do pure (.int .u8 (← Rtype.kind t))) Tryz.func219 (by kernel_rfl) (by kernel_rfl) (by kernel_rfl) (by kernel_rfl)
  have hEl := @run_callFunc_extern Tryz.prog 233 _ (ReflectliteType.method ReflectliteType.elem) Tryz.func233 (by kernel_rfl) (by kernel_rfl) (by kernel_rfl) (by kernel_rfl)
  have hIm := @run_callFunc_extern Tryz.prog 234 _ (ReflectliteType.relation "Implements" ReflectliteType.implements_) Tryz.func234 (by kernel_rfl) (by kernel_rfl) (by kernel_rfl) (by kernel_rfl)
  have f6 := as_valueOf
  have f7 := as_type
  have mK := as_methodKind
  have mE := as_methodElem
  have mI := as_methodImplements
  have k92 := as_kindP
  have k23 := as_kindE
  have e92 := as_elem
  have i23 := as_implements
  have htl := World.block_lt_of_cell? w _ ht
  have hgl := World.block_lt_of_cell? w _ hg
  obtain ⟨o1, ho1⟩ : ∃ o, o = Obj.cells #[.pointer (some ⟨t, 0, none⟩)] 152 := ⟨_, rfl⟩
  obtain ⟨o2, ho2⟩ : ∃ o, o = Obj.cells #[.pointer (some ⟨4, 152, none⟩), .pointer (some ⟨w.heap.size, 0, none⟩), .int .u64 150] 221 := ⟨_, rfl⟩
  have hn8 := as_isNil ⟨w.heap.size, 0, none⟩ ⟨t, 0, none⟩ ((w.alloc o1).alloc o2) (by rw [World.cell?_alloc_lt _ _ ⟨w.heap.size, 0, none⟩ (by rw [World.size_alloc]; exact Nat.lt_succ_self _), ho1]; simp [go_sem])
  have hg2 : ((w.alloc o1).alloc o2).cell? ⟨0, 0, none⟩ = some (.iface 270 (.agg #[.pointer (some ⟨4, 33, none⟩)])) := by
    rw [World.cell?_alloc_lt _ _ ⟨0, 0, none⟩ (by rw [World.size_alloc]; exact Nat.lt_succ_of_lt hgl), World.cell?_alloc_lt _ _ ⟨0, 0, none⟩ hgl]; exact hg
  have hb2 : Below w.heap.size w ((w.alloc o1).alloc o2) := ((Below.refl _ _).alloc (Nat.le_refl _) _).alloc (by rw [World.size_alloc]; exact Nat.le_succ _) _
  have cA := as_number n t w.heap.size old ((w.alloc o1).alloc o2)
    (by rw [World.cell?_alloc_lt _ _ ⟨w.heap.size, 0, none⟩ (by rw [World.size_alloc]; exact Nat.lt_succ_self _), ho1]; simp [go_sem])
    (by rw [hb2.cell (p := ⟨t, 0, none⟩) htl]; exact ht)
    (by rw [hb2.frozen (p := ⟨t, 0, none⟩) htl]; exact hf)
  unfold target at cA
  subst ho1 ho2
  have HB : Hid (Below t w _) := hb2.mono (Nat.le_of_lt htl)
  clear ht hf hg hb2
  go_enter Tryz.func80, Tryz.ntmps80
  go_wp2_with (first | (go_at_call 136; refine cA.mono ?_; rintro e wx ⟨rfl, hc, hbx⟩) | fail)
  go_ret
  exact ⟨rfl, hc, HB.out.trans hbx⟩

set_option maxRecDepth 100000 in
set_option maxHeartbeats 1000000 in
theorem Tell_number (n : Int) (w : World) (hg : asLaid w) :
    Calls Tryz.prog 23 #[.iface 26 (.int .i64 n)] w fun e w' => e = .returned (.int .i64 n) ∧ Below w.heap.size w w' := by
  have hgl := World.block_lt_of_cell? w _ hg
  have hb1 : Below w.heap.size w (w.alloc (.cells #[.int .i64 0] 26)) := (Below.refl _ _).alloc (Nat.le_refl _) _
  have cA := As_number n w.heap.size (.int .i64 0) (w.alloc (.cells #[.int .i64 0] 26)) (by unfold asLaid; rw [hb1.cell (p := ⟨0, 0, none⟩) hgl]; exact hg)
    (by simp [go_sem]) (by simp [go_sem])
  clear hg
  go_enter Tryz.func23, Tryz.ntmps23
  go_wp2_with (first | (go_at_call 80; refine cA.mono ?_; rintro e wx ⟨rfl, hc, hbx⟩) | fail)
  go_ret
  exact ⟨rfl, hb1.trans hbx⟩

/-- An error number, or none. -/
def errV (n : Int) : Value := if n = 0 then .nilIface else .iface 26 (.int .i64 n)

end Go.Proofs.YtldhbjmillfjgabGreatDoor

namespace Go.Proofs.YtldhbjmillfjgabGreatDoor
open Go.RowKit
set_option linter.unusedVariables false

def oneB (p : Pt) : Bool := if p.drop = 0 ∧ p.put = [] then decide (0 < p.keep) else if p.keep = 0 ∧ p.put = [] then decide (0 < p.drop) else decide (p.keep = 0 ∧ p.drop = 0)
def chk1 : List Pt → Int
  | [] => 0
  | p :: ps => if oneB p then (if (scan p.put).2 then chk1 ps else 3) else 1
def chk2 : List Pt → Int → Int
  | [], n => if n = 0 then 0 else 2
  | p :: ps, n => if n < p.keep + p.drop then 2 else chk2 ps (n - (p.keep + p.drop))
def chkE (ps : List Pt) (n : Int) : Int := if chk1 ps = 0 then chk2 ps n else chk1 ps

set_option maxHeartbeats 1000000 in
theorem isOne_any (p : Pt) (w : World) : Calls Tryz.prog 121 #[partV p] w fun e w' => e = .returned (.bool (oneB p)) ∧ Below w.heap.size w w' := by
  obtain ⟨k, d, q⟩ := p
  have cK := isKeep_any ⟨k, d, q⟩
  have cD := isDrop_any ⟨k, d, q⟩
  unfold oneB
  unfold partV at *
  simp only at cK cD ⊢
  by_cases hq : q = []
  · subst hq
    by_cases hd : d = 0
    · subst hd
      go_enter Tryz.func121, Tryz.ntmps121
      go_wp2_with (first | (go_at_call 83; refine (cK _).mono ?_; rintro e w1 ⟨rfl, hb1⟩) | fail)
      go_ret
      exact ⟨by simp, ((Below.refl _ _).alloc (Nat.le_refl _) _).trans (hb1.mono (by simp))⟩
    · have hdb : (d == 0) = false := beq_eq_false_iff_ne.2 hd
      by_cases hk : k = 0
      · subst hk
        go_enter Tryz.func121, Tryz.ntmps121
        go_wp2_with (first | (go_at_call 165; refine (cD _).mono ?_; rintro e w1 ⟨rfl, hb1⟩) | fail)
        go_ret
        exact ⟨by simp, ((Below.refl _ _).alloc (Nat.le_refl _) _).trans (hb1.mono (by simp))⟩
      · have hkb : (k == 0) = false := beq_eq_false_iff_ne.2 hk
        go_enter Tryz.func121, Tryz.ntmps121
        go_wp2
        go_ret
        exact ⟨by simp, (Below.refl _ _).alloc (Nat.le_refl _) _⟩
  · have ho : (if d = 0 ∧ q = [] then decide (0 < k) else if k = 0 ∧ q = [] then decide (0 < d) else decide (k = 0 ∧ d = 0)) = decide (k = 0 ∧ d = 0) := by simp [hq]
    rw [ho]
    clear ho
    have HD : Hid (decide (k = 0 ∧ d = 0) = (k == 0 && d == 0)) := by show _ = _; by_cases h1 : k = 0 <;> by_cases h2 : d = 0 <;> simp [h1, h2]
    rw [HD.out]
    by_cases hd : d = 0
    · subst hd
      by_cases hk : k = 0
      · subst hk
        go_enter Tryz.func121, Tryz.ntmps121
        go_wp2
        go_ret
        exact ⟨rfl, (Below.refl _ _).alloc (Nat.le_refl _) _⟩
      · have hkb : (k == 0) = false := beq_eq_false_iff_ne.2 hk
        go_enter Tryz.func121, Tryz.ntmps121
        go_wp2
        go_ret
        exact ⟨rfl, (Below.refl _ _).alloc (Nat.le_refl _) _⟩
    · have hdb : (d == 0) = false := beq_eq_false_iff_ne.2 hd
      by_cases hk : k = 0
      · subst hk
        go_enter Tryz.func121, Tryz.ntmps121
        go_wp2
        go_ret
        exact ⟨rfl, (Below.refl _ _).alloc (Nat.le_refl _) _⟩
      · have hkb : (k == 0) = false := beq_eq_false_iff_ne.2 hk
        go_enter Tryz.func121, Tryz.ntmps121
        go_wp2
        go_ret
        exact ⟨by rw [hkb]; rfl, (Below.refl _ _).alloc (Nat.le_refl _) _⟩

def wfP (p : Pt) : Prop := -9223372036854775808 ≤ p.keep ∧ p.keep < 9223372036854775808 ∧ -9223372036854775808 ≤ p.drop ∧ p.drop < 9223372036854775808 ∧ p.put.length < 1000000000000

theorem one_sound {p : Pt} (h : oneB p = true) : soundP p ∧ (p.keep = 0 ∨ p.drop = 0) := by
  unfold oneB at h
  unfold soundP
  split at h
  · rename_i h1
    have := of_decide_eq_true h
    exact ⟨⟨by omega, by omega⟩, .inr h1.1⟩
  · split at h
    · rename_i h1
      have := of_decide_eq_true h
      exact ⟨⟨by omega, by omega⟩, .inl h1.1⟩
    · have := of_decide_eq_true h
      exact ⟨⟨by omega, by omega⟩, .inl this.1⟩

theorem chk1_ones {ps : List Pt} (h : chk1 ps = 0) : ∀ p ∈ ps, oneB p = true ∧ (scan p.put).2 = true := by
  induction ps with
  | nil => simp
  | cons p ps ih =>
    unfold chk1 at h
    split at h
    · rename_i h1
      split at h
      · rename_i h2
        intro q hq
        rcases List.mem_cons.1 hq with rfl | hq
        · exact ⟨h1, h2⟩
        · exact ih h q hq
      · cases h
    · cases h

set_option maxRecDepth 100000 in
set_option maxHeartbeats 4000000 in
theorem Check_any (v : Value) (ps : List Pt) (N : Int) (w : World) (hT : Lib.Utf8Tabs 2 3 w) (hr : opAt w v ps) (hwf : ∀ p ∈ ps, wfP p) (hN : -9223372036854775808 ≤ N ∧ N < 9223372036854775808) (hl : ps.length < 10000000) :
    Calls Tryz.prog 68 #[v, .int .i64 N] w fun e w' => e = .returned (errV (chkE ps N)) ∧ Below w.heap.size w w' := by
  obtain ⟨p, c, rfl, r1, r2, r3⟩ := hr
  obtain ⟨n, hn⟩ : ∃ n, n = ps.length := ⟨_, rfl⟩
  rw [← hn] at r1 hl ⊢
  have HN : Hid (n = ps.length) := hn
  clear hn
  have R3 : Hid (ps ≠ [] → ∃ b o, p = some ⟨b, o, none⟩ ∧ b < w.heap.size ∧ ∀ i q, ps[i]? = some q →
    w.cell? ⟨b, o + i * 3, none⟩ = some (.int .i64 q.keep) ∧ w.cell? ⟨b, o + i * 3 + 1, none⟩ = some (.int .i64 q.drop) ∧ w.cell? ⟨b, o + i * 3 + 2, none⟩ = some (.string ⟨q.put.toArray⟩)) := r3
  have HWF : Hid (∀ p ∈ ps, wfP p) := hwf
  have HT : Hid (Lib.Utf8Tabs 2 3 w) := hT
  obtain ⟨hN0, hN1⟩ := hN
  clear r3 hwf hT
  go_enter Tryz.func68, Tryz.ntmps68
  go_wp2
  go_loopw [11] (fun i wr => ∃ (k : Nat), k ≤ n ∧ i = .int .i64 k ∧ chk1 ps = chk1 (ps.drop k) ∧ Below w.heap.size w wr) (fun i _ => n - (intOf i).toNat)
  case atStart => exact ⟨0, Nat.zero_le _, rfl, rfl, Below.refl _ _⟩
  case round =>
    obtain ⟨k, hk, rfl, hch, hwr⟩ := hrel
    by_cases hlt : k < n
    · have hkr : k < ps.length := by rw [← HN.out]; exact hlt
      have hne : ps ≠ [] := by intro e; rw [e] at hkr; exact absurd hkr (Nat.not_lt_zero _)
      obtain ⟨b, o, rfl, hbw, hcell⟩ := R3.out hne
      obtain ⟨c0, c1, c2⟩ := hcell k ps[k] (List.getElem?_eq_getElem hkr)
      have g0 := (hwr.cell (p := ⟨b, o + k * 3, none⟩) hbw).trans c0
      have g1 := (hwr.cell (p := ⟨b, o + k * 3 + 1, none⟩) hbw).trans c1
      have g2 := (hwr.cell (p := ⟨b, o + k * 3 + 2, none⟩) hbw).trans c2
      rw [List.drop_eq_getElem_cons hkr, chk1] at hch
      have hwq := HWF.out ps[k] (List.getElem_mem _)
      generalize ps[k] = q at *
      have hsize := hwr.size
      have HWR : Hid (Below w.heap.size w wr) := hwr
      have hb0 : Below wr.heap.size wr (wr.alloc (.cells #[.int .i64 q.keep, .int .i64 q.drop, .string ⟨q.put.toArray⟩] 50)) := (Below.refl _ _).alloc (Nat.le_refl _) _
      have HB0 : Hid (Below w.heap.size w (wr.alloc (.cells #[.int .i64 q.keep, .int .i64 q.drop, .string ⟨q.put.toArray⟩] 50))) := hwr.trans (hb0.mono hsize)
      have x2 : (wr.alloc (.cells #[.int .i64 q.keep, .int .i64 q.drop, .string ⟨q.put.toArray⟩] 50)).cell? ⟨wr.heap.size, 2, none⟩ = some (.string ⟨q.put.toArray⟩) := by simp [go_sem]
      have X2 : Hid _ := x2
      have cO := isOne_any q
      unfold partV at cO
      have cV : Hid (∀ wx, Below w.heap.size w wx → Calls Tryz.prog 122 #[.string ⟨q.put.toArray⟩] wx fun e w' => e = .returned (.bool (scan q.put).2) ∧ Below wx.heap.size wx w') := fun wx hb =>
        ValidString_any ⟨q.put.toArray⟩ wx (by have := hwq.2.2.2.2; simp [ByteArray.size]; omega) (Go.Proofs.Utf8Tabs_below HT.out hb)
      by_cases h1 : oneB q = true
      · rw [if_pos h1] at hch
        rw [h1] at cO
        by_cases h2 : (scan q.put).2 = true
        · rw [if_pos h2] at hch
          rw [h2] at cV
          have HCH : Hid (chk1 ps = chk1 (ps.drop (k + 1))) := hch
          clear hcell c0 c1 c2 hch hwq hwr hb0 x2 HWF h1 h2
          go_wp2_with (first | (go_at_call 121; refine (cO _).mono ?_; rintro e w1 ⟨rfl, hb1⟩; have HB1 : Hid (Below w.heap.size w w1) := HB0.out.trans (hb1.mono HB0.out.size); have hc2 := (hb1.cell (p := ⟨wr.heap.size, 2, none⟩) (by simp)).trans X2.out; clear hb1) | (go_at_call 122; refine (cV.out _ HB1.out).mono ?_; rintro e w2 ⟨rfl, hb2⟩; have HB2 : Hid (Below w.heap.size w w2) := HB1.out.trans (hb2.mono HB1.out.size); clear hb2) | fail)
          go_roundw
          case rel => exact ⟨k + 1, by omega, by go_num, HCH.out, HB2.out⟩
          case measure => simp [intOf]; omega
        · have h2 : (scan q.put).2 = false := Bool.eq_false_iff.2 h2
          rw [h2] at hch cV
          have HCH : Hid (chk1 ps = 3) := by show chk1 ps = 3; simpa using hch
          clear hcell c0 c1 c2 hch hwq hwr hb0 x2 HWF h1 h2
          go_wp2_with (first | (go_at_call 121; refine (cO _).mono ?_; rintro e w1 ⟨rfl, hb1⟩; have HB1 : Hid (Below w.heap.size w w1) := HB0.out.trans (hb1.mono HB0.out.size); have hc2 := (hb1.cell (p := ⟨wr.heap.size, 2, none⟩) (by simp)).trans X2.out; clear hb1) | (go_at_call 122; refine (cV.out _ HB1.out).mono ?_; rintro e w2 ⟨rfl, hb2⟩; have HB2 : Hid (Below w.heap.size w w2) := HB1.out.trans (hb2.mono HB1.out.size); clear hb2) | fail)
          go_ret
          refine ⟨?_, HB2.out⟩
          unfold chkE
          rw [HCH.out]
          rfl
      · have h1 : oneB q = false := Bool.eq_false_iff.2 h1
        rw [h1] at hch cO
        have HCH : Hid (chk1 ps = 1) := by show chk1 ps = 1; simpa using hch
        clear hcell c0 c1 c2 hch hwq hwr hb0 x2 HWF h1
        go_wp2_with (first | (go_at_call 121; refine (cO _).mono ?_; rintro e w1 ⟨rfl, hb1⟩; have HB1 : Hid (Below w.heap.size w w1) := HB0.out.trans (hb1.mono HB0.out.size); clear hb1) | fail)
        go_ret
        refine ⟨?_, HB1.out⟩
        unfold chkE
        rw [HCH.out]
        rfl
    · have e : ps.drop k = [] := List.drop_of_length_le (by rw [← HN.out]; omega)
      rw [e] at hch
      have H0 : Hid (chk1 ps = 0) := hch
      have HWR : Hid (Below w.heap.size w wr) := hwr
      have HON : Hid (∀ p ∈ ps, soundP p ∧ (p.keep = 0 ∨ p.drop = 0)) := fun p hp => one_sound (chk1_ones hch p hp).1
      clear e hch hwr
      go_wp2
      go_loopw [1, 27] (fun m i wr => ∃ (k : Nat) (M : Int), k ≤ n ∧ i = .int .i64 k ∧ m = .int .i64 M ∧ -9223372036854775808 ≤ M ∧ M < 9223372036854775808 ∧ chk2 ps N = chk2 (ps.drop k) M ∧ Below w.heap.size w wr) (fun _ i _ => n - (intOf i).toNat)
      case atStart => exact ⟨0, N, Nat.zero_le _, rfl, rfl, hN0, hN1, rfl, HWR.out⟩
      case round =>
        obtain ⟨k, M, hk, rfl, rfl, hM0, hM1, hch, hwr⟩ := hrel
        by_cases hlt : k < n
        · have hkr : k < ps.length := by rw [← HN.out]; exact hlt
          have hne : ps ≠ [] := by intro e; rw [e] at hkr; exact absurd hkr (Nat.not_lt_zero _)
          obtain ⟨b, o, rfl, hbw, hcell⟩ := R3.out hne
          obtain ⟨c0, c1, c2⟩ := hcell k ps[k] (List.getElem?_eq_getElem hkr)
          have g0 := (hwr.cell (p := ⟨b, o + k * 3, none⟩) hbw).trans c0
          have g1 := (hwr.cell (p := ⟨b, o + k * 3 + 1, none⟩) hbw).trans c1
          have g2 := (hwr.cell (p := ⟨b, o + k * 3 + 2, none⟩) hbw).trans c2
          rw [List.drop_eq_getElem_cons hkr, chk2] at hch
          have hwq := HWF.out ps[k] (List.getElem_mem _)
          have hon := HON.out ps[k] (List.getElem_mem _)
          generalize ps[k] = q at *
          obtain ⟨⟨s0, s1⟩, s2⟩ := hon
          have hsum0 : 0 ≤ q.keep + q.drop := by omega
          have hsum1 : q.keep + q.drop < 9223372036854775808 := by have := hwq.2.1; have := hwq.2.2.2.1; omega
          have hw1 : IntKind.i64.wrap (q.keep + q.drop) = q.keep + q.drop := by rw [IntKind.wrap_i64]; omega
          have HB0 : Hid (Below w.heap.size w (wr.alloc (.cells #[.int .i64 q.keep, .int .i64 q.drop, .string ⟨q.put.toArray⟩] 50))) := hwr.alloc hwr.size _
          by_cases h1 : M < q.keep + q.drop
          · rw [if_pos h1] at hch
            have HCH : Hid (chk2 ps N = 2) := hch
            clear hcell c0 c1 c2 hch hwq hwr HWF s2
            go_wp2
            go_ret
            refine ⟨?_, HB0.out⟩
            unfold chkE
            rw [if_pos H0.out, HCH.out]
            rfl
          · rw [if_neg h1] at hch
            have HCH : Hid (chk2 ps N = chk2 (ps.drop (k + 1)) (M - (q.keep + q.drop))) := hch
            have hw2 : IntKind.i64.wrap (M - (q.keep + q.drop)) = M - (q.keep + q.drop) := by rw [IntKind.wrap_i64]; omega
            clear hcell c0 c1 c2 hch hwq hwr HWF s2
            go_wp2
            go_roundw
            case rel => exact ⟨k + 1, M - (q.keep + q.drop), by omega, by go_num, by first | rfl | go_num, by omega, by omega, HCH.out, HB0.out⟩
            case measure => simp [intOf]; omega
        · have e : ps.drop k = [] := List.drop_of_length_le (by rw [← HN.out]; omega)
          rw [e, chk2] at hch
          have HX : Hid (Below w.heap.size w wr) := hwr
          by_cases h0 : M = 0
          · rw [if_pos h0] at hch
            subst h0
            have HCH : Hid (chk2 ps N = 0) := hch
            clear e hch hwr
            go_wp2
            go_ret
            refine ⟨?_, HX.out⟩
            unfold chkE
            rw [if_pos H0.out, HCH.out]
            rfl
          · rw [if_neg h0] at hch
            have hmb : (M == 0) = false := beq_eq_false_iff_ne.2 h0
            have HCH : Hid (chk2 ps N = 2) := hch
            clear e hch hwr
            go_wp2
            go_ret
            refine ⟨?_, HX.out⟩
            unfold chkE
            rw [if_pos H0.out, HCH.out]
            rfl
end Go.Proofs.YtldhbjmillfjgabGreatDoor

namespace Go.Proofs.YtldhbjmillfjgabGreatDoor
set_option linter.unusedVariables false

def lengthP (p : Pt) : Int := p.keep + p.drop + p.put.length
/-- A part that is one thing, and not nothing. -/
def oneP (p : Pt) : Prop := (0 < p.keep ∧ p.drop = 0 ∧ p.put = []) ∨ (p.keep = 0 ∧ 0 < p.drop ∧ p.put = []) ∨ (p.keep = 0 ∧ p.drop = 0 ∧ p.put ≠ [])
theorem length_pos {p : Pt} (h : oneP p) : 0 < lengthP p := by
  unfold lengthP
  rcases h with ⟨h1, h2, h3⟩ | ⟨h1, h2, h3⟩ | ⟨h1, h2, h3⟩
  · rw [h2, h3]; simp; omega
  · rw [h1, h3]; simp; omega
  · have := List.length_pos_iff.2 h3; omega
end Go.Proofs.YtldhbjmillfjgabGreatDoor

namespace Go.Proofs.YtldhbjmillfjgabGreatDoor
set_option linter.unusedVariables false

def unitK (d : Bool) (k : Nat) : Pt := if d then ⟨0, k, []⟩ else ⟨k, 0, []⟩
theorem one_cases {p : Pt} (h : oneP p) : (∃ u, u ≠ [] ∧ p = ⟨0, 0, u⟩) ∨ ∃ d n, p = unitK d (n + 1) := by
  obtain ⟨K, D, U⟩ := p
  rcases h with ⟨h1, h2, h3⟩ | ⟨h1, h2, h3⟩ | ⟨h1, h2, h3⟩
  · obtain rfl : D = 0 := h2
    obtain rfl : U = [] := h3
    replace h1 : 0 < K := h1
    refine .inr ⟨false, K.toNat - 1, ?_⟩
    have : K = ((K.toNat - 1 + 1 : Nat) : Int) := by omega
    show (⟨K, 0, []⟩ : Pt) = ⟨((K.toNat - 1 + 1 : Nat) : Int), 0, []⟩
    rw [← this]
  · obtain rfl : K = 0 := h1
    obtain rfl : U = [] := h3
    replace h2 : 0 < D := h2
    refine .inr ⟨true, D.toNat - 1, ?_⟩
    have : D = ((D.toNat - 1 + 1 : Nat) : Int) := by omega
    show (⟨0, D, []⟩ : Pt) = ⟨0, ((D.toNat - 1 + 1 : Nat) : Int), []⟩
    rw [← this]
  · obtain rfl : K = 0 := h1
    obtain rfl : D = 0 := h2
    exact .inl ⟨U, h3, rfl⟩
end Go.Proofs.YtldhbjmillfjgabGreatDoor

namespace Go.Proofs.YtldhbjmillfjgabGreatDoor
set_option linter.unusedVariables false

structure OneS (s : NSt) : Prop where
  out : ∀ p ∈ s.out, oneP p
  drop : 0 ≤ s.drop
theorem tell_one {s : NSt} (h : OneS s) : ∀ p ∈ tellP s, oneP p := by
  intro p hp
  unfold tellP at hp
  rcases List.mem_append.1 hp with hp | hp
  · exact h.out p hp
  · rcases List.mem_append.1 hp with hp | hp
    · split at hp
      · simp at hp
      · rename_i hne
        rw [List.mem_singleton.1 hp]
        exact .inr (.inr ⟨rfl, rfl, hne⟩)
    · split at hp
      · simp at hp
      · rename_i hne
        rw [List.mem_singleton.1 hp]
        have := h.drop
        exact .inr (.inl ⟨rfl, by show 0 < s.drop; omega, rfl⟩)
theorem push_one {l : List Pt} (h : ∀ p ∈ l, oneP p) {k : Int} (hk : 0 < k) : ∀ p ∈ pushKeep l k, oneP p := by
  intro p hp
  unfold pushKeep at hp
  have hnew : oneP (⟨k, 0, []⟩ : Pt) := .inl ⟨hk, rfl, rfl⟩
  cases hq : l.getLast? with
  | none =>
    rw [hq] at hp
    simp only [List.mem_append, List.mem_singleton] at hp
    rcases hp with hp | rfl
    · exact h p hp
    · exact hnew
  | some q =>
    rw [hq] at hp
    have hql : q ∈ l := List.mem_of_getLast? hq
    simp only at hp
    split at hp
    · rename_i h0
      simp only [List.mem_append, List.mem_singleton] at hp
      rcases hp with hp | rfl
      · exact h p (List.dropLast_subset l hp)
      · rcases h q hql with ⟨h1, h2, h3⟩ | ⟨h1, _, _⟩ | ⟨h1, _, _⟩
        · exact .inl ⟨by show 0 < q.keep + k; omega, h2, h3⟩
        · omega
        · omega
    · simp only [List.mem_append, List.mem_singleton] at hp
      rcases hp with hp | rfl
      · exact h p hp
      · exact hnew
theorem add_one {s : NSt} (h : OneS s) (p : Pt) (hk : 0 ≤ p.keep) (hd : 0 ≤ p.drop) : OneS (addP s p) := by
  unfold addP
  have h' : OneS ⟨s.out, s.put ++ p.put, s.drop + p.drop⟩ := ⟨h.out, by have := h.drop; show 0 ≤ s.drop + p.drop; omega⟩
  split
  · exact h'
  · rename_i hk0
    exact ⟨push_one (tell_one h') (by omega), by show (0 : Int) ≤ 0; omega⟩
/-- How long it is, is kept. -/
def longP (ps : List Pt) : Int := (ps.map lenP).sum
def longS (s : NSt) : Int := longP s.out + s.drop
theorem long_append (a b : List Pt) : longP (a ++ b) = longP a + longP b := by simp [longP]
theorem tell_long (s : NSt) : longP (tellP s) = longS s := by
  unfold tellP longS
  rw [long_append, long_append]
  by_cases hp : s.put = [] <;> by_cases hd : s.drop = 0 <;> simp [longP, lenP, hp, hd]
theorem push_long (l : List Pt) (k : Int) : longP (pushKeep l k) = longP l + k := by
  unfold pushKeep
  cases hq : l.getLast? with
  | none => simp [longP, lenP]
  | some q =>
    simp only
    split
    · have e : l = l.dropLast ++ [q] := by
        have hne : l ≠ [] := by rintro rfl; simp at hq
        have := List.dropLast_concat_getLast hne
        rw [List.getLast?_eq_some_getLast hne] at hq
        rw [Option.some.inj hq] at this
        exact this.symm
      conv => rhs; rw [e]
      rw [long_append, long_append]
      simp [longP, lenP]
      omega
    · rw [long_append]; simp [longP, lenP]
theorem add_long (s : NSt) (p : Pt) : longS (addP s p) = longS s + lenP p := by
  unfold addP
  split
  · rename_i h
    simp [longS, lenP, h]
    omega
  · show longP (pushKeep _ _) + 0 = _
    rw [push_long, tell_long]
    simp [longS, lenP]
    omega
end Go.Proofs.YtldhbjmillfjgabGreatDoor

namespace Go.Proofs.YtldhbjmillfjgabGreatDoor
open Go.RowKit
set_option linter.unusedVariables false
attribute [local go_sem] Oper.semAt_some

/-- What pick picks. -/
def pk (a m : Int) : Int := IntKind.u64.wrap a % m
theorem pk_bd (a m : Int) (h : 0 < m) : 0 ≤ pk a m ∧ pk a m < m := ⟨Int.emod_nonneg _ (by omega), Int.emod_lt_of_pos _ h⟩
set_option maxHeartbeats 1000000 in
theorem pick_any (a m : Int) (ha : -9223372036854775808 ≤ a ∧ a < 9223372036854775808) (h0 : 0 < m) (hm : m < 100) (w : World) :
    Calls Tryz.prog 16 #[.int .i64 a, .int .i64 m] w fun e w' => e = .returned (.int .i64 (pk a m)) ∧ Below w.heap.size w w' := by
  obtain ⟨a1, a2⟩ := ha
  have hne : m ≠ 0 := by omega
  have e1 : IntKind.u64.wrap m = m := by rw [IntKind.wrap_u64]; omega
  go_enter Tryz.func16, Tryz.ntmps16
  go_wp2
  go_ret
  have h1 : 0 ≤ IntKind.u64.wrap a := by rw [IntKind.wrap_u64]; omega
  have h2 : (IntKind.u64.wrap a).tmod m = IntKind.u64.wrap a % m := Int.tmod_eq_emod_of_nonneg h1
  have h3 := Int.emod_nonneg (IntKind.u64.wrap a) hne
  have h4 := Int.emod_lt_of_pos (IntKind.u64.wrap a) h0
  have h5 : wrap64 ((IntKind.u64.wrap a).tmod m) = pk a m := by rw [h2]; unfold wrap64 pk; omega
  exact ⟨by rw [← h5]; rfl, Below.refl _ _⟩
theorem cells_newN (w : World) (n : Nat) (hn : w.heap.size = n) (l : List Value) (t : TypeId) : ∀ j u, l[j]? = some u → (w.alloc (.cells l.toArray t)).cell? ((⟨n, 0, none⟩ : Addr).add j) = some u := by
  subst hn
  exact cells_new w l t
theorem cellOnF {A B : World} {b : Nat} (h : B.heap[b]? = A.heap[b]?) (o : Nat) : B.cell? ⟨b, o, none⟩ = A.cell? ⟨b, o, none⟩ := by
  simp [World.cell?, h]
theorem alloc_size {w w2 : World} {o : Obj} (h : Below (w.alloc o).heap.size (w.alloc o) w2) : w.heap.size + 1 ≤ w2.heap.size := by
  have := h.size
  rw [World.size_alloc] at this
  exact this

theorem grown_cell {w w' : World} {β o : Nat} {v x : Value} (hg : w.grownBy w' v.ownBlock) (hlt : β < w.heap.size) (hne : ∀ k, v.ownBlock = some k → k < β) (h : w.cell? ⟨β, o, none⟩ = some x) : w'.cell? ⟨β, o, none⟩ = some x :=
  (cellOnF (hg.block β hlt fun e => absurd (hne _ e.symm) (Nat.lt_irrefl _)) o).trans h

/-- A part that is not great. -/
def smallQ (N : Int) (q : Pt) : Prop := 0 ≤ q.keep ∧ q.keep ≤ N ∧ 0 ≤ q.drop ∧ q.drop ≤ N ∧ q.put.length ≤ 150
theorem small_snoc {N : Int} {qs : List Pt} {q : Pt} (h : ∀ p ∈ qs, smallQ N p) (hq : smallQ N q) : ∀ p ∈ qs ++ [q], smallQ N p := by
  intro p hp
  rcases List.mem_append.1 hp with hp | hp
  · exact h p hp
  · rw [List.mem_singleton.1 hp]; exact hq
def fitI (w : World) (N : Int) (n k : Nat) (v : Value) (M : Int) (wr : World) : Prop :=
  ∃ qs : List Pt, wr.ownsRow w.heap.size 50 3 v qs.length (cellsP qs) ∧ qs.length ≤ 2 * k ∧ (∀ q ∈ qs, smallQ N q) ∧ 0 ≤ M ∧ M ≤ N ∧ k ≤ n ∧ k ≤ 30 ∧ Below w.heap.size w wr

set_option maxRecDepth 100000 in
set_option maxHeartbeats 8000000 in
theorem fit_any (v : Value) (ps : List Pt) (N : Int) (w : World) (hT : Lib.Utf8Tabs 2 3 w) (hr : opAt w v ps) (hwf : ∀ p ∈ ps, p.put.length ≤ 150 → wfP p) (hN0 : 0 ≤ N) (hN1 : N ≤ 100000) :
    Calls Tryz.prog 18 #[v, .int .i64 N] w fun e w' => ∃ v' qs, e = .returned v' ∧ w'.ownsRow w.heap.size 50 3 v' qs.length (cellsP qs) ∧ qs.length ≤ 61 ∧ (∀ q ∈ qs, smallQ N q) ∧ Below w.heap.size w w' := by
  obtain ⟨p, c, rfl, r1, r2, r3⟩ := hr
  obtain ⟨n, hn⟩ : ∃ n, n = ps.length := ⟨_, rfl⟩
  rw [← hn] at r1 ⊢
  have HN : Hid (n = ps.length) := hn
  clear hn
  have R3 : Hid (ps ≠ [] → ∃ b o, p = some ⟨b, o, none⟩ ∧ b < w.heap.size ∧ ∀ i q, ps[i]? = some q →
    w.cell? ⟨b, o + i * 3, none⟩ = some (.int .i64 q.keep) ∧ w.cell? ⟨b, o + i * 3 + 1, none⟩ = some (.int .i64 q.drop) ∧ w.cell? ⟨b, o + i * 3 + 2, none⟩ = some (.string ⟨q.put.toArray⟩)) := r3
  have HWF : Hid (∀ p ∈ ps, p.put.length ≤ 150 → wfP p) := hwf
  have HT : Hid (Lib.Utf8Tabs 2 3 w) := hT
  obtain ⟨i0, hi, hz0, hz1, hz2⟩ := info_parts info_part
  clear r3 hwf hT
  unfold maxLen at r2
  go_enter Tryz.func18, Tryz.ntmps18
  go_wp2
  go_loopw [5, 1, 6] (fun v5 m i wr => ∃ (k : Nat) (M : Int), i = .int .i64 k ∧ m = .int .i64 M ∧ fitI w N n k v5 M wr) (fun _ _ i _ => 30 - (intOf i).toNat)
  case atStart => exact ⟨0, N, rfl, rfl, [], World.ownsRow_nil _ _ _ _, Nat.zero_le _, by simp, hN0, Int.le_refl _, Nat.zero_le _, Nat.zero_le _, Below.refl _ _⟩
  case round =>
    obtain ⟨k, M, rfl, rfl, qs, hown, hql, hqs, hM0, hM1, hkn, hk30, hwr⟩ := hrel
    obtain ⟨pv, cv, rfl⟩ := own_slice hown
    have HQS : Hid (∀ q ∈ qs, smallQ N q) := hqs
    have HOW : Hid (wr.ownsRow w.heap.size 50 3 (.slice pv qs.length cv) qs.length (cellsP qs)) := hown
    have HWR : Hid (Below w.heap.size w wr) := hwr
    have hws := hwr.size
    have HLT : Hid (∀ k, (Value.slice pv qs.length cv).ownBlock = some k → k < wr.heap.size) := fun k hk => (hown.lt k hk).2
    clear hown hqs hwr
    by_cases hlt : k < n ∧ k < 30
    · obtain ⟨hlt1, hlt2⟩ := hlt
      have hkr : k < ps.length := by rw [← HN.out]; exact hlt1
      have hne : ps ≠ [] := by intro e; rw [e] at hkr; exact absurd hkr (Nat.not_lt_zero _)
      obtain ⟨b, o, rfl, hbw, hcell⟩ := R3.out hne
      obtain ⟨c0, c1, c2⟩ := hcell k ps[k] (List.getElem?_eq_getElem hkr)
      have g0 := (HWR.out.cell (p := ⟨b, o + k * 3, none⟩) hbw).trans c0
      have g1 := (HWR.out.cell (p := ⟨b, o + k * 3 + 1, none⟩) hbw).trans c1
      have g2 := (HWR.out.cell (p := ⟨b, o + k * 3 + 2, none⟩) hbw).trans c2
      have hwq := HWF.out ps[k] (List.getElem_mem _)
      generalize ps[k] = q at *
      obtain ⟨K, D, U⟩ := q
      simp only at g0 g1 g2 hwq
      have hj1 : (k : Int) < (n : Int) := by omega
      have hj2 : (k : Int) < 30 := by omega
      have hUz : (ByteArray.mk U.toArray).size = U.length := by simp [ByteArray.size]
      have HB0 : Hid (Below w.heap.size w (wr.alloc (.cells #[.int .i64 K, .int .i64 D, .string ⟨U.toArray⟩] 50))) := HWR.out.alloc hws _
      have ho0 : Hid ((wr.alloc (.cells #[.int .i64 K, .int .i64 D, .string ⟨U.toArray⟩] 50)).ownsRow w.heap.size 50 3 (.slice pv qs.length cv) qs.length (cellsP qs)) := HOW.out.alloc _
      have X0 : Hid ((wr.alloc (.cells #[.int .i64 K, .int .i64 D, .string ⟨U.toArray⟩] 50)).heap[wr.heap.size]? = some (.cells #[.int .i64 K, .int .i64 D, .string ⟨U.toArray⟩] 50 (0, 0))) := heap_alloc_new _ _
      clear hcell c0 c1 c2 hne hkr
      by_cases hbig : 150 < U.length
      · have hbig' : (150 : Int) < (U.length : Int) := by omega
        clear hwq
        go_wp2
        go_roundw
        case rel => exact ⟨k + 1, M, by go_num, rfl, qs, ho0.out, by omega, HQS.out, hM0, hM1, by omega, by omega, HB0.out⟩
        case measure => simp [intOf]; omega
      · have hbig' : ¬ (150 : Int) < (U.length : Int) := by omega
        obtain ⟨wk1, wk2, wd1, wd2, _⟩ := hwq (by omega)
        have cC := Count_any ⟨U.toArray⟩ (by rw [hUz]; omega) (wr.alloc (.cells #[.int .i64 K, .int .i64 D, .string ⟨U.toArray⟩] 50)) (Go.Proofs.Utf8Tabs_below HT.out HB0.out)
        have hl0 : wr.heap.size < (wr.alloc (.cells #[.int .i64 K, .int .i64 D, .string ⟨U.toArray⟩] 50)).heap.size := by simp
        obtain ⟨K1, hK1⟩ : ∃ K1, pk K 12 = K1 := ⟨_, rfl⟩
        obtain ⟨K2, hK2⟩ : ∃ K2, pk D 7 = K2 := ⟨_, rfl⟩
        have hk1 := pk_bd K 12 (by omega)
        have hk2 := pk_bd D 7 (by omega)
        have CP1 : Hid (∀ wx, Calls Tryz.prog 16 #[.int .i64 K, .int .i64 12] wx fun e w' => e = .returned (.int .i64 K1) ∧ Below wx.heap.size wx w') := fun wx => by rw [← hK1]; exact pick_any K 12 ⟨wk1, wk2⟩ (by omega) (by omega) wx
        have CP2 : Hid (∀ wx, Calls Tryz.prog 16 #[.int .i64 D, .int .i64 7] wx fun e w' => e = .returned (.int .i64 K2) ∧ Below wx.heap.size wx w') := fun wx => by rw [← hK2]; exact pick_any D 7 ⟨wd1, wd2⟩ (by omega) (by omega) wx
        rw [hK1] at hk1
        rw [hK2] at hk2
        obtain ⟨hk10, hk11⟩ := hk1
        obtain ⟨hk20, hk21⟩ := hk2
        have y2 : (wr.alloc (.cells #[.int .i64 K, .int .i64 D, .string ⟨U.toArray⟩] 50)).cell? ⟨wr.heap.size, 2, none⟩ = some (.string ⟨U.toArray⟩) := Lib.cell_of_heap X0.out 2
        have y1 : (wr.alloc (.cells #[.int .i64 K, .int .i64 D, .string ⟨U.toArray⟩] 50)).cell? ⟨wr.heap.size, 1, none⟩ = some (.int .i64 D) := Lib.cell_of_heap X0.out 1
        have y0 : (wr.alloc (.cells #[.int .i64 K, .int .i64 D, .string ⟨U.toArray⟩] 50)).cell? ⟨wr.heap.size, 0, none⟩ = some (.int .i64 K) := Lib.cell_of_heap X0.out 0
        clear wk1 wk2 wd1 wd2 HWR hK1 hK2 hwq
        have hpk : (¬ 0 < K1) ∨ (0 < K1 ∧ ¬ K1 ≤ M) ∨ (0 < K1 ∧ K1 ≤ M) := by omega
        by_cases hU : U = []
        · have hUe : U.isEmpty = true := by rw [hU]; rfl
          have hsc : (scan U).2 = true := by rw [hU]; rfl
          have HC : Hid (Calls Tryz.prog 59 #[.string ⟨U.toArray⟩] (wr.alloc (.cells #[.int .i64 K, .int .i64 D, .string ⟨U.toArray⟩] 50)) fun e w' => ∃ n1 n2 n3 n4, e = .returned (.tuple #[.agg #[.int .i64 n1, .int .i64 n2, .int .i64 n3, .int .i64 n4], .nilIface]) ∧ Below (wr.alloc (.cells #[.int .i64 K, .int .i64 D, .string ⟨U.toArray⟩] 50)).heap.size (wr.alloc (.cells #[.int .i64 K, .int .i64 D, .string ⟨U.toArray⟩] 50)) w') := Calls.mono cC fun e w' h => by
            obtain ⟨v, x, rfl, hb, ⟨_, rfl, rfl⟩ | ⟨h0, _⟩⟩ := h
            · exact ⟨_, _, _, _, rfl, hb⟩
            · rw [show (ByteArray.mk U.toArray).data.toList = U from rfl, hsc] at h0; cases h0
          clear cC hsc hU
          rcases hpk with hp | ⟨hp, hp'⟩ | ⟨hp, hp'⟩
          ·
            have hpk2 : (¬ 0 < K2) ∨ (0 < K2 ∧ ¬ K2 ≤ M) ∨ (0 < K2 ∧ K2 ≤ M) := by omega
            rcases hpk2 with hr | ⟨hr, hr'⟩ | ⟨hr, hr'⟩
            ·
              go_wp2_with (first
                | (go_at_call 59; refine Calls.mono HC.out ?_; rintro e w2 ⟨n1, n2, n3, n4, rfl, hb2⟩; have HB2 : Hid (Below w.heap.size w w2) := HB0.out.trans (hb2.mono HB0.out.size); have HO2 : Hid (w2.ownsRow w.heap.size 50 3 (.slice pv qs.length cv) qs.length (cellsP qs)) := own_below ho0.out hb2; have z2 := (hb2.cell (p := ⟨wr.heap.size, 2, none⟩) hl0).trans y2; have z1 := (hb2.cell (p := ⟨wr.heap.size, 1, none⟩) hl0).trans y1; have z0 := (hb2.cell (p := ⟨wr.heap.size, 0, none⟩) hl0).trans y0; have hba : Below w2.heap.size w2 (w2.alloc (.cells #[.int .i64 n1, .int .i64 n2, .int .i64 n3, .int .i64 n4] 25)) := (Below.refl _ w2).alloc (Nat.le_refl _) _; have t2 := cell_on hba z2; have t1 := cell_on hba z1; have t0 := cell_on hba z0; have hl2 := alloc_size hb2; have hs2 := HB2.out.size; have HO3 : Hid ((w2.alloc (.cells #[.int .i64 n1, .int .i64 n2, .int .i64 n3, .int .i64 n4] 25)).ownsRow w.heap.size 50 3 (.slice pv qs.length cv) qs.length (cellsP qs)) := HO2.out.alloc _; have HB3 : Hid (Below w.heap.size w (w2.alloc (.cells #[.int .i64 n1, .int .i64 n2, .int .i64 n3, .int .i64 n4] 25))) := HB2.out.alloc HB2.out.size _; clear hb2 hba)
                | (have _ := HO4; go_at_call 16; refine (CP2.out _).mono ?_; rintro e w6 ⟨rfl, hb6⟩; have HB6 : Hid (Below w.heap.size w w6) := HB4.out.trans (hb6.mono HB4.out.size); have HO6 : Hid (w6.ownsRow w.heap.size 50 3 (.slice pv qs.length cv) qs.length (cellsP qs)) := own_below HO4.out hb6; have p2 := cell_on hb6 q2; have hs6 := HB6.out.size; clear hb6)
                | (go_at_call 16; refine (CP1.out _).mono ?_; rintro e w4 ⟨rfl, hb4⟩; have HB4 : Hid (Below w.heap.size w w4) := HB3.out.trans (hb4.mono HB3.out.size); have HO4 : Hid (w4.ownsRow w.heap.size 50 3 (.slice pv qs.length cv) qs.length (cellsP qs)) := own_below HO3.out hb4; have q2 := cell_on hb4 t2; have q1 := cell_on hb4 t1; have hs4 := HB4.out.size; have hs24 := hb4.size; rw [World.size_alloc] at hs24; clear hb4)
                | fail)
              go_roundw
              case rel =>
                refine ⟨k + 1, M, by go_num, by first | rfl | go_num, qs, ?_, by first | omega | (simp; omega), HQS.out, by omega, by omega, by omega, by omega, HB6.out⟩
                exact HO6.out
              case measure => simp [intOf]; omega
            ·
              go_wp2_with (first
                | (go_at_call 59; refine Calls.mono HC.out ?_; rintro e w2 ⟨n1, n2, n3, n4, rfl, hb2⟩; have HB2 : Hid (Below w.heap.size w w2) := HB0.out.trans (hb2.mono HB0.out.size); have HO2 : Hid (w2.ownsRow w.heap.size 50 3 (.slice pv qs.length cv) qs.length (cellsP qs)) := own_below ho0.out hb2; have z2 := (hb2.cell (p := ⟨wr.heap.size, 2, none⟩) hl0).trans y2; have z1 := (hb2.cell (p := ⟨wr.heap.size, 1, none⟩) hl0).trans y1; have z0 := (hb2.cell (p := ⟨wr.heap.size, 0, none⟩) hl0).trans y0; have hba : Below w2.heap.size w2 (w2.alloc (.cells #[.int .i64 n1, .int .i64 n2, .int .i64 n3, .int .i64 n4] 25)) := (Below.refl _ w2).alloc (Nat.le_refl _) _; have t2 := cell_on hba z2; have t1 := cell_on hba z1; have t0 := cell_on hba z0; have hl2 := alloc_size hb2; have hs2 := HB2.out.size; have HO3 : Hid ((w2.alloc (.cells #[.int .i64 n1, .int .i64 n2, .int .i64 n3, .int .i64 n4] 25)).ownsRow w.heap.size 50 3 (.slice pv qs.length cv) qs.length (cellsP qs)) := HO2.out.alloc _; have HB3 : Hid (Below w.heap.size w (w2.alloc (.cells #[.int .i64 n1, .int .i64 n2, .int .i64 n3, .int .i64 n4] 25))) := HB2.out.alloc HB2.out.size _; clear hb2 hba)
                | (have _ := HO4; go_at_call 16; refine (CP2.out _).mono ?_; rintro e w6 ⟨rfl, hb6⟩; have HB6 : Hid (Below w.heap.size w w6) := HB4.out.trans (hb6.mono HB4.out.size); have HO6 : Hid (w6.ownsRow w.heap.size 50 3 (.slice pv qs.length cv) qs.length (cellsP qs)) := own_below HO4.out hb6; have p2 := cell_on hb6 q2; have hs6 := HB6.out.size; clear hb6)
                | (go_at_call 16; refine (CP1.out _).mono ?_; rintro e w4 ⟨rfl, hb4⟩; have HB4 : Hid (Below w.heap.size w w4) := HB3.out.trans (hb4.mono HB3.out.size); have HO4 : Hid (w4.ownsRow w.heap.size 50 3 (.slice pv qs.length cv) qs.length (cellsP qs)) := own_below HO3.out hb4; have q2 := cell_on hb4 t2; have q1 := cell_on hb4 t1; have hs4 := HB4.out.size; have hs24 := hb4.size; rw [World.size_alloc] at hs24; clear hb4)
                | fail)
              go_roundw
              case rel =>
                refine ⟨k + 1, M, by go_num, by first | rfl | go_num, qs, ?_, by first | omega | (simp; omega), HQS.out, by omega, by omega, by omega, by omega, HB6.out⟩
                exact HO6.out
              case measure => simp [intOf]; omega
            ·
              have hw2 : IntKind.i64.wrap (M - K2) = M - K2 := by rw [IntKind.wrap_i64]; omega
              go_wp2_with (first
                | (go_at_call 59; refine Calls.mono HC.out ?_; rintro e w2 ⟨n1, n2, n3, n4, rfl, hb2⟩; have HB2 : Hid (Below w.heap.size w w2) := HB0.out.trans (hb2.mono HB0.out.size); have HO2 : Hid (w2.ownsRow w.heap.size 50 3 (.slice pv qs.length cv) qs.length (cellsP qs)) := own_below ho0.out hb2; have z2 := (hb2.cell (p := ⟨wr.heap.size, 2, none⟩) hl0).trans y2; have z1 := (hb2.cell (p := ⟨wr.heap.size, 1, none⟩) hl0).trans y1; have z0 := (hb2.cell (p := ⟨wr.heap.size, 0, none⟩) hl0).trans y0; have hba : Below w2.heap.size w2 (w2.alloc (.cells #[.int .i64 n1, .int .i64 n2, .int .i64 n3, .int .i64 n4] 25)) := (Below.refl _ w2).alloc (Nat.le_refl _) _; have t2 := cell_on hba z2; have t1 := cell_on hba z1; have t0 := cell_on hba z0; have hl2 := alloc_size hb2; have hs2 := HB2.out.size; have HO3 : Hid ((w2.alloc (.cells #[.int .i64 n1, .int .i64 n2, .int .i64 n3, .int .i64 n4] 25)).ownsRow w.heap.size 50 3 (.slice pv qs.length cv) qs.length (cellsP qs)) := HO2.out.alloc _; have HB3 : Hid (Below w.heap.size w (w2.alloc (.cells #[.int .i64 n1, .int .i64 n2, .int .i64 n3, .int .i64 n4] 25))) := HB2.out.alloc HB2.out.size _; clear hb2 hba)
                | (have _ := HO4; go_at_call 16; refine (CP2.out _).mono ?_; rintro e w6 ⟨rfl, hb6⟩; have HB6 : Hid (Below w.heap.size w w6) := HB4.out.trans (hb6.mono HB4.out.size); have HO6 : Hid (w6.ownsRow w.heap.size 50 3 (.slice pv qs.length cv) qs.length (cellsP qs)) := own_below HO4.out hb6; have p2 := cell_on hb6 q2; have hs6 := HB6.out.size; clear hb6)
                | (go_at_call 16; refine (CP1.out _).mono ?_; rintro e w4 ⟨rfl, hb4⟩; have HB4 : Hid (Below w.heap.size w w4) := HB3.out.trans (hb4.mono HB3.out.size); have HO4 : Hid (w4.ownsRow w.heap.size 50 3 (.slice pv qs.length cv) qs.length (cellsP qs)) := own_below HO3.out hb4; have q2 := cell_on hb4 t2; have q1 := cell_on hb4 t1; have hs4 := HB4.out.size; have hs24 := hb4.size; rw [World.size_alloc] at hs24; clear hb4)
                | (have _ := HO6; at_builtin; refine wpList_append_own _ rfl _ _ 23 rfl w.heap.size 50 i0 (.agg #[.int .i64 0, .int .i64 0, .string ⟨#[]⟩]) 3 32 Tryz.underlying23 hi hz0 hz1 hz2 rfl (by decide) _ _ _ rfl (HO6.out.alloc _) ⟨w6.heap.size, 0, none⟩ 1 1 (partCells ⟨0, K2, []⟩) rfl rfl (cells_newN _ _ (by first | rfl | simp) _ _) (partCells_one _) (by unfold maxLen; omega) (by omega) (by first | omega | (simp; omega)) ?_)
                | fail)
              intro v'' w'' hown'' hg'' _
              obtain ⟨p'', c'', rfl⟩ := own_slice hown''
              have HB7 : Hid (Below w.heap.size w w'') := (HB6.out.alloc HB6.out.size _).grown hg'' (by simp; omega) fun k hk => (HO6.out.lt k hk).1
              have HO7 : Hid (w''.ownsRow w.heap.size 50 3 (.slice p'' (qs.length + 1) c'') (qs.length + 1) (cellsP qs ++ partCells ⟨0, K2, []⟩)) := hown''
              clear hown'' hg''
              go_wp2
              go_roundw
              case rel =>
                refine ⟨k + 1, M - K2, by go_num, by first | rfl | go_num, (qs) ++ [⟨0, K2, []⟩], ?_, by first | omega | (simp; omega), small_snoc (HQS.out) ⟨Int.le_refl _, hN0, by show 0 ≤ K2; omega, by show K2 ≤ N; omega, by simp⟩, by omega, by omega, by omega, by omega, HB7.out⟩
                rw [cellsP_snoc, List.length_append]; exact HO7.out
              case measure => simp [intOf]; omega
          ·
            have hpk2 : (¬ 0 < K2) ∨ (0 < K2 ∧ ¬ K2 ≤ M) ∨ (0 < K2 ∧ K2 ≤ M) := by omega
            rcases hpk2 with hr | ⟨hr, hr'⟩ | ⟨hr, hr'⟩
            ·
              go_wp2_with (first
                | (go_at_call 59; refine Calls.mono HC.out ?_; rintro e w2 ⟨n1, n2, n3, n4, rfl, hb2⟩; have HB2 : Hid (Below w.heap.size w w2) := HB0.out.trans (hb2.mono HB0.out.size); have HO2 : Hid (w2.ownsRow w.heap.size 50 3 (.slice pv qs.length cv) qs.length (cellsP qs)) := own_below ho0.out hb2; have z2 := (hb2.cell (p := ⟨wr.heap.size, 2, none⟩) hl0).trans y2; have z1 := (hb2.cell (p := ⟨wr.heap.size, 1, none⟩) hl0).trans y1; have z0 := (hb2.cell (p := ⟨wr.heap.size, 0, none⟩) hl0).trans y0; have hba : Below w2.heap.size w2 (w2.alloc (.cells #[.int .i64 n1, .int .i64 n2, .int .i64 n3, .int .i64 n4] 25)) := (Below.refl _ w2).alloc (Nat.le_refl _) _; have t2 := cell_on hba z2; have t1 := cell_on hba z1; have t0 := cell_on hba z0; have hl2 := alloc_size hb2; have hs2 := HB2.out.size; have HO3 : Hid ((w2.alloc (.cells #[.int .i64 n1, .int .i64 n2, .int .i64 n3, .int .i64 n4] 25)).ownsRow w.heap.size 50 3 (.slice pv qs.length cv) qs.length (cellsP qs)) := HO2.out.alloc _; have HB3 : Hid (Below w.heap.size w (w2.alloc (.cells #[.int .i64 n1, .int .i64 n2, .int .i64 n3, .int .i64 n4] 25))) := HB2.out.alloc HB2.out.size _; clear hb2 hba)
                | (have _ := HO4; go_at_call 16; refine (CP2.out _).mono ?_; rintro e w6 ⟨rfl, hb6⟩; have HB6 : Hid (Below w.heap.size w w6) := HB4.out.trans (hb6.mono HB4.out.size); have HO6 : Hid (w6.ownsRow w.heap.size 50 3 (.slice pv qs.length cv) qs.length (cellsP qs)) := own_below HO4.out hb6; have p2 := cell_on hb6 q2; have hs6 := HB6.out.size; clear hb6)
                | (go_at_call 16; refine (CP1.out _).mono ?_; rintro e w4 ⟨rfl, hb4⟩; have HB4 : Hid (Below w.heap.size w w4) := HB3.out.trans (hb4.mono HB3.out.size); have HO4 : Hid (w4.ownsRow w.heap.size 50 3 (.slice pv qs.length cv) qs.length (cellsP qs)) := own_below HO3.out hb4; have q2 := cell_on hb4 t2; have q1 := cell_on hb4 t1; have hs4 := HB4.out.size; have hs24 := hb4.size; rw [World.size_alloc] at hs24; clear hb4)
                | fail)
              go_roundw
              case rel =>
                refine ⟨k + 1, M, by go_num, by first | rfl | go_num, qs, ?_, by first | omega | (simp; omega), HQS.out, by omega, by omega, by omega, by omega, HB6.out⟩
                exact HO6.out
              case measure => simp [intOf]; omega
            ·
              go_wp2_with (first
                | (go_at_call 59; refine Calls.mono HC.out ?_; rintro e w2 ⟨n1, n2, n3, n4, rfl, hb2⟩; have HB2 : Hid (Below w.heap.size w w2) := HB0.out.trans (hb2.mono HB0.out.size); have HO2 : Hid (w2.ownsRow w.heap.size 50 3 (.slice pv qs.length cv) qs.length (cellsP qs)) := own_below ho0.out hb2; have z2 := (hb2.cell (p := ⟨wr.heap.size, 2, none⟩) hl0).trans y2; have z1 := (hb2.cell (p := ⟨wr.heap.size, 1, none⟩) hl0).trans y1; have z0 := (hb2.cell (p := ⟨wr.heap.size, 0, none⟩) hl0).trans y0; have hba : Below w2.heap.size w2 (w2.alloc (.cells #[.int .i64 n1, .int .i64 n2, .int .i64 n3, .int .i64 n4] 25)) := (Below.refl _ w2).alloc (Nat.le_refl _) _; have t2 := cell_on hba z2; have t1 := cell_on hba z1; have t0 := cell_on hba z0; have hl2 := alloc_size hb2; have hs2 := HB2.out.size; have HO3 : Hid ((w2.alloc (.cells #[.int .i64 n1, .int .i64 n2, .int .i64 n3, .int .i64 n4] 25)).ownsRow w.heap.size 50 3 (.slice pv qs.length cv) qs.length (cellsP qs)) := HO2.out.alloc _; have HB3 : Hid (Below w.heap.size w (w2.alloc (.cells #[.int .i64 n1, .int .i64 n2, .int .i64 n3, .int .i64 n4] 25))) := HB2.out.alloc HB2.out.size _; clear hb2 hba)
                | (have _ := HO4; go_at_call 16; refine (CP2.out _).mono ?_; rintro e w6 ⟨rfl, hb6⟩; have HB6 : Hid (Below w.heap.size w w6) := HB4.out.trans (hb6.mono HB4.out.size); have HO6 : Hid (w6.ownsRow w.heap.size 50 3 (.slice pv qs.length cv) qs.length (cellsP qs)) := own_below HO4.out hb6; have p2 := cell_on hb6 q2; have hs6 := HB6.out.size; clear hb6)
                | (go_at_call 16; refine (CP1.out _).mono ?_; rintro e w4 ⟨rfl, hb4⟩; have HB4 : Hid (Below w.heap.size w w4) := HB3.out.trans (hb4.mono HB3.out.size); have HO4 : Hid (w4.ownsRow w.heap.size 50 3 (.slice pv qs.length cv) qs.length (cellsP qs)) := own_below HO3.out hb4; have q2 := cell_on hb4 t2; have q1 := cell_on hb4 t1; have hs4 := HB4.out.size; have hs24 := hb4.size; rw [World.size_alloc] at hs24; clear hb4)
                | fail)
              go_roundw
              case rel =>
                refine ⟨k + 1, M, by go_num, by first | rfl | go_num, qs, ?_, by first | omega | (simp; omega), HQS.out, by omega, by omega, by omega, by omega, HB6.out⟩
                exact HO6.out
              case measure => simp [intOf]; omega
            ·
              have hw2 : IntKind.i64.wrap (M - K2) = M - K2 := by rw [IntKind.wrap_i64]; omega
              go_wp2_with (first
                | (go_at_call 59; refine Calls.mono HC.out ?_; rintro e w2 ⟨n1, n2, n3, n4, rfl, hb2⟩; have HB2 : Hid (Below w.heap.size w w2) := HB0.out.trans (hb2.mono HB0.out.size); have HO2 : Hid (w2.ownsRow w.heap.size 50 3 (.slice pv qs.length cv) qs.length (cellsP qs)) := own_below ho0.out hb2; have z2 := (hb2.cell (p := ⟨wr.heap.size, 2, none⟩) hl0).trans y2; have z1 := (hb2.cell (p := ⟨wr.heap.size, 1, none⟩) hl0).trans y1; have z0 := (hb2.cell (p := ⟨wr.heap.size, 0, none⟩) hl0).trans y0; have hba : Below w2.heap.size w2 (w2.alloc (.cells #[.int .i64 n1, .int .i64 n2, .int .i64 n3, .int .i64 n4] 25)) := (Below.refl _ w2).alloc (Nat.le_refl _) _; have t2 := cell_on hba z2; have t1 := cell_on hba z1; have t0 := cell_on hba z0; have hl2 := alloc_size hb2; have hs2 := HB2.out.size; have HO3 : Hid ((w2.alloc (.cells #[.int .i64 n1, .int .i64 n2, .int .i64 n3, .int .i64 n4] 25)).ownsRow w.heap.size 50 3 (.slice pv qs.length cv) qs.length (cellsP qs)) := HO2.out.alloc _; have HB3 : Hid (Below w.heap.size w (w2.alloc (.cells #[.int .i64 n1, .int .i64 n2, .int .i64 n3, .int .i64 n4] 25))) := HB2.out.alloc HB2.out.size _; clear hb2 hba)
                | (have _ := HO4; go_at_call 16; refine (CP2.out _).mono ?_; rintro e w6 ⟨rfl, hb6⟩; have HB6 : Hid (Below w.heap.size w w6) := HB4.out.trans (hb6.mono HB4.out.size); have HO6 : Hid (w6.ownsRow w.heap.size 50 3 (.slice pv qs.length cv) qs.length (cellsP qs)) := own_below HO4.out hb6; have p2 := cell_on hb6 q2; have hs6 := HB6.out.size; clear hb6)
                | (go_at_call 16; refine (CP1.out _).mono ?_; rintro e w4 ⟨rfl, hb4⟩; have HB4 : Hid (Below w.heap.size w w4) := HB3.out.trans (hb4.mono HB3.out.size); have HO4 : Hid (w4.ownsRow w.heap.size 50 3 (.slice pv qs.length cv) qs.length (cellsP qs)) := own_below HO3.out hb4; have q2 := cell_on hb4 t2; have q1 := cell_on hb4 t1; have hs4 := HB4.out.size; have hs24 := hb4.size; rw [World.size_alloc] at hs24; clear hb4)
                | (have _ := HO6; at_builtin; refine wpList_append_own _ rfl _ _ 23 rfl w.heap.size 50 i0 (.agg #[.int .i64 0, .int .i64 0, .string ⟨#[]⟩]) 3 32 Tryz.underlying23 hi hz0 hz1 hz2 rfl (by decide) _ _ _ rfl (HO6.out.alloc _) ⟨w6.heap.size, 0, none⟩ 1 1 (partCells ⟨0, K2, []⟩) rfl rfl (cells_newN _ _ (by first | rfl | simp) _ _) (partCells_one _) (by unfold maxLen; omega) (by omega) (by first | omega | (simp; omega)) ?_)
                | fail)
              intro v'' w'' hown'' hg'' _
              obtain ⟨p'', c'', rfl⟩ := own_slice hown''
              have HB7 : Hid (Below w.heap.size w w'') := (HB6.out.alloc HB6.out.size _).grown hg'' (by simp; omega) fun k hk => (HO6.out.lt k hk).1
              have HO7 : Hid (w''.ownsRow w.heap.size 50 3 (.slice p'' (qs.length + 1) c'') (qs.length + 1) (cellsP qs ++ partCells ⟨0, K2, []⟩)) := hown''
              clear hown'' hg''
              go_wp2
              go_roundw
              case rel =>
                refine ⟨k + 1, M - K2, by go_num, by first | rfl | go_num, (qs) ++ [⟨0, K2, []⟩], ?_, by first | omega | (simp; omega), small_snoc (HQS.out) ⟨Int.le_refl _, hN0, by show 0 ≤ K2; omega, by show K2 ≤ N; omega, by simp⟩, by omega, by omega, by omega, by omega, HB7.out⟩
                rw [cellsP_snoc, List.length_append]; exact HO7.out
              case measure => simp [intOf]; omega
          ·
            have hpk2 : (¬ 0 < K2) ∨ (0 < K2 ∧ ¬ K2 ≤ M - K1) ∨ (0 < K2 ∧ K2 ≤ M - K1) := by omega
            rcases hpk2 with hr | ⟨hr, hr'⟩ | ⟨hr, hr'⟩
            ·
              have hw1 : IntKind.i64.wrap (M - K1) = M - K1 := by rw [IntKind.wrap_i64]; omega
              go_wp2_with (first
                | (go_at_call 59; refine Calls.mono HC.out ?_; rintro e w2 ⟨n1, n2, n3, n4, rfl, hb2⟩; have HB2 : Hid (Below w.heap.size w w2) := HB0.out.trans (hb2.mono HB0.out.size); have HO2 : Hid (w2.ownsRow w.heap.size 50 3 (.slice pv qs.length cv) qs.length (cellsP qs)) := own_below ho0.out hb2; have z2 := (hb2.cell (p := ⟨wr.heap.size, 2, none⟩) hl0).trans y2; have z1 := (hb2.cell (p := ⟨wr.heap.size, 1, none⟩) hl0).trans y1; have z0 := (hb2.cell (p := ⟨wr.heap.size, 0, none⟩) hl0).trans y0; have hba : Below w2.heap.size w2 (w2.alloc (.cells #[.int .i64 n1, .int .i64 n2, .int .i64 n3, .int .i64 n4] 25)) := (Below.refl _ w2).alloc (Nat.le_refl _) _; have t2 := cell_on hba z2; have t1 := cell_on hba z1; have t0 := cell_on hba z0; have hl2 := alloc_size hb2; have hs2 := HB2.out.size; have HO3 : Hid ((w2.alloc (.cells #[.int .i64 n1, .int .i64 n2, .int .i64 n3, .int .i64 n4] 25)).ownsRow w.heap.size 50 3 (.slice pv qs.length cv) qs.length (cellsP qs)) := HO2.out.alloc _; have HB3 : Hid (Below w.heap.size w (w2.alloc (.cells #[.int .i64 n1, .int .i64 n2, .int .i64 n3, .int .i64 n4] 25))) := HB2.out.alloc HB2.out.size _; clear hb2 hba)
                | (go_at_call 16; refine (CP1.out _).mono ?_; rintro e w4 ⟨rfl, hb4⟩; have HB4 : Hid (Below w.heap.size w w4) := HB3.out.trans (hb4.mono HB3.out.size); have HO4 : Hid (w4.ownsRow w.heap.size 50 3 (.slice pv qs.length cv) qs.length (cellsP qs)) := own_below HO3.out hb4; have q2 := cell_on hb4 t2; have q1 := cell_on hb4 t1; have hs4 := HB4.out.size; have hs24 := hb4.size; rw [World.size_alloc] at hs24; clear hb4)
                | (at_builtin; refine wpList_append_own _ rfl _ _ 23 rfl w.heap.size 50 i0 (.agg #[.int .i64 0, .int .i64 0, .string ⟨#[]⟩]) 3 32 Tryz.underlying23 hi hz0 hz1 hz2 rfl (by decide) _ _ _ rfl (HO4.out.alloc _) ⟨w4.heap.size, 0, none⟩ 1 1 (partCells ⟨K1, 0, []⟩) rfl rfl (cells_newN _ _ (by first | rfl | simp) _ _) (partCells_one _) (by unfold maxLen; omega) (by omega) (by first | omega | (simp; omega)) ?_)
                | fail)
              intro v' w' hown' hg' _
              obtain ⟨p', c', rfl⟩ := own_slice hown'
              have HB5 : Hid (Below w.heap.size w w') := (HB4.out.alloc HB4.out.size _).grown hg' (by simp; omega) fun k hk => (HO4.out.lt k hk).1
              have HO5 : Hid (w'.ownsRow w.heap.size 50 3 (.slice p' (qs.length + 1) c') (qs.length + 1) (cellsP qs ++ partCells ⟨K1, 0, []⟩)) := hown'
              have r2' := grown_cell hg' (by rw [World.size_alloc]; omega) HLT.out (cell_on ((Below.refl _ w4).alloc (Nat.le_refl _) _) q2)
              have r1' := grown_cell hg' (by rw [World.size_alloc]; omega) HLT.out (cell_on ((Below.refl _ w4).alloc (Nat.le_refl _) _) q1)
              have hs5 := HB5.out.size
              clear hown' hg'
              go_wp2_with (first
                | (have _ := HO5; go_at_call 16; refine (CP2.out _).mono ?_; rintro e w6 ⟨rfl, hb6⟩; have HB6 : Hid (Below w.heap.size w w6) := HB5.out.trans (hb6.mono HB5.out.size); have HO6 : Hid (w6.ownsRow w.heap.size 50 3 (.slice p' (qs.length + 1) c') (qs.length + 1) (cellsP qs ++ partCells ⟨K1, 0, []⟩)) := own_below HO5.out hb6; have p2 := cell_on hb6 r2'; have hs6 := HB6.out.size; clear hb6)
                | fail)
              go_roundw
              case rel =>
                refine ⟨k + 1, M - K1, by go_num, by first | rfl | go_num, qs ++ [⟨K1, 0, []⟩], ?_, by first | omega | (simp; omega), small_snoc HQS.out ⟨by show 0 ≤ K1; omega, by show K1 ≤ N; omega, Int.le_refl _, hN0, by simp⟩, by omega, by omega, by omega, by omega, HB6.out⟩
                rw [cellsP_snoc, List.length_append]; exact HO6.out
              case measure => simp [intOf]; omega
            ·
              have hw1 : IntKind.i64.wrap (M - K1) = M - K1 := by rw [IntKind.wrap_i64]; omega
              go_wp2_with (first
                | (go_at_call 59; refine Calls.mono HC.out ?_; rintro e w2 ⟨n1, n2, n3, n4, rfl, hb2⟩; have HB2 : Hid (Below w.heap.size w w2) := HB0.out.trans (hb2.mono HB0.out.size); have HO2 : Hid (w2.ownsRow w.heap.size 50 3 (.slice pv qs.length cv) qs.length (cellsP qs)) := own_below ho0.out hb2; have z2 := (hb2.cell (p := ⟨wr.heap.size, 2, none⟩) hl0).trans y2; have z1 := (hb2.cell (p := ⟨wr.heap.size, 1, none⟩) hl0).trans y1; have z0 := (hb2.cell (p := ⟨wr.heap.size, 0, none⟩) hl0).trans y0; have hba : Below w2.heap.size w2 (w2.alloc (.cells #[.int .i64 n1, .int .i64 n2, .int .i64 n3, .int .i64 n4] 25)) := (Below.refl _ w2).alloc (Nat.le_refl _) _; have t2 := cell_on hba z2; have t1 := cell_on hba z1; have t0 := cell_on hba z0; have hl2 := alloc_size hb2; have hs2 := HB2.out.size; have HO3 : Hid ((w2.alloc (.cells #[.int .i64 n1, .int .i64 n2, .int .i64 n3, .int .i64 n4] 25)).ownsRow w.heap.size 50 3 (.slice pv qs.length cv) qs.length (cellsP qs)) := HO2.out.alloc _; have HB3 : Hid (Below w.heap.size w (w2.alloc (.cells #[.int .i64 n1, .int .i64 n2, .int .i64 n3, .int .i64 n4] 25))) := HB2.out.alloc HB2.out.size _; clear hb2 hba)
                | (go_at_call 16; refine (CP1.out _).mono ?_; rintro e w4 ⟨rfl, hb4⟩; have HB4 : Hid (Below w.heap.size w w4) := HB3.out.trans (hb4.mono HB3.out.size); have HO4 : Hid (w4.ownsRow w.heap.size 50 3 (.slice pv qs.length cv) qs.length (cellsP qs)) := own_below HO3.out hb4; have q2 := cell_on hb4 t2; have q1 := cell_on hb4 t1; have hs4 := HB4.out.size; have hs24 := hb4.size; rw [World.size_alloc] at hs24; clear hb4)
                | (at_builtin; refine wpList_append_own _ rfl _ _ 23 rfl w.heap.size 50 i0 (.agg #[.int .i64 0, .int .i64 0, .string ⟨#[]⟩]) 3 32 Tryz.underlying23 hi hz0 hz1 hz2 rfl (by decide) _ _ _ rfl (HO4.out.alloc _) ⟨w4.heap.size, 0, none⟩ 1 1 (partCells ⟨K1, 0, []⟩) rfl rfl (cells_newN _ _ (by first | rfl | simp) _ _) (partCells_one _) (by unfold maxLen; omega) (by omega) (by first | omega | (simp; omega)) ?_)
                | fail)
              intro v' w' hown' hg' _
              obtain ⟨p', c', rfl⟩ := own_slice hown'
              have HB5 : Hid (Below w.heap.size w w') := (HB4.out.alloc HB4.out.size _).grown hg' (by simp; omega) fun k hk => (HO4.out.lt k hk).1
              have HO5 : Hid (w'.ownsRow w.heap.size 50 3 (.slice p' (qs.length + 1) c') (qs.length + 1) (cellsP qs ++ partCells ⟨K1, 0, []⟩)) := hown'
              have r2' := grown_cell hg' (by rw [World.size_alloc]; omega) HLT.out (cell_on ((Below.refl _ w4).alloc (Nat.le_refl _) _) q2)
              have r1' := grown_cell hg' (by rw [World.size_alloc]; omega) HLT.out (cell_on ((Below.refl _ w4).alloc (Nat.le_refl _) _) q1)
              have hs5 := HB5.out.size
              clear hown' hg'
              go_wp2_with (first
                | (have _ := HO5; go_at_call 16; refine (CP2.out _).mono ?_; rintro e w6 ⟨rfl, hb6⟩; have HB6 : Hid (Below w.heap.size w w6) := HB5.out.trans (hb6.mono HB5.out.size); have HO6 : Hid (w6.ownsRow w.heap.size 50 3 (.slice p' (qs.length + 1) c') (qs.length + 1) (cellsP qs ++ partCells ⟨K1, 0, []⟩)) := own_below HO5.out hb6; have p2 := cell_on hb6 r2'; have hs6 := HB6.out.size; clear hb6)
                | fail)
              go_roundw
              case rel =>
                refine ⟨k + 1, M - K1, by go_num, by first | rfl | go_num, qs ++ [⟨K1, 0, []⟩], ?_, by first | omega | (simp; omega), small_snoc HQS.out ⟨by show 0 ≤ K1; omega, by show K1 ≤ N; omega, Int.le_refl _, hN0, by simp⟩, by omega, by omega, by omega, by omega, HB6.out⟩
                rw [cellsP_snoc, List.length_append]; exact HO6.out
              case measure => simp [intOf]; omega
            ·
              have hw1 : IntKind.i64.wrap (M - K1) = M - K1 := by rw [IntKind.wrap_i64]; omega
              go_wp2_with (first
                | (go_at_call 59; refine Calls.mono HC.out ?_; rintro e w2 ⟨n1, n2, n3, n4, rfl, hb2⟩; have HB2 : Hid (Below w.heap.size w w2) := HB0.out.trans (hb2.mono HB0.out.size); have HO2 : Hid (w2.ownsRow w.heap.size 50 3 (.slice pv qs.length cv) qs.length (cellsP qs)) := own_below ho0.out hb2; have z2 := (hb2.cell (p := ⟨wr.heap.size, 2, none⟩) hl0).trans y2; have z1 := (hb2.cell (p := ⟨wr.heap.size, 1, none⟩) hl0).trans y1; have z0 := (hb2.cell (p := ⟨wr.heap.size, 0, none⟩) hl0).trans y0; have hba : Below w2.heap.size w2 (w2.alloc (.cells #[.int .i64 n1, .int .i64 n2, .int .i64 n3, .int .i64 n4] 25)) := (Below.refl _ w2).alloc (Nat.le_refl _) _; have t2 := cell_on hba z2; have t1 := cell_on hba z1; have t0 := cell_on hba z0; have hl2 := alloc_size hb2; have hs2 := HB2.out.size; have HO3 : Hid ((w2.alloc (.cells #[.int .i64 n1, .int .i64 n2, .int .i64 n3, .int .i64 n4] 25)).ownsRow w.heap.size 50 3 (.slice pv qs.length cv) qs.length (cellsP qs)) := HO2.out.alloc _; have HB3 : Hid (Below w.heap.size w (w2.alloc (.cells #[.int .i64 n1, .int .i64 n2, .int .i64 n3, .int .i64 n4] 25))) := HB2.out.alloc HB2.out.size _; clear hb2 hba)
                | (go_at_call 16; refine (CP1.out _).mono ?_; rintro e w4 ⟨rfl, hb4⟩; have HB4 : Hid (Below w.heap.size w w4) := HB3.out.trans (hb4.mono HB3.out.size); have HO4 : Hid (w4.ownsRow w.heap.size 50 3 (.slice pv qs.length cv) qs.length (cellsP qs)) := own_below HO3.out hb4; have q2 := cell_on hb4 t2; have q1 := cell_on hb4 t1; have hs4 := HB4.out.size; have hs24 := hb4.size; rw [World.size_alloc] at hs24; clear hb4)
                | (at_builtin; refine wpList_append_own _ rfl _ _ 23 rfl w.heap.size 50 i0 (.agg #[.int .i64 0, .int .i64 0, .string ⟨#[]⟩]) 3 32 Tryz.underlying23 hi hz0 hz1 hz2 rfl (by decide) _ _ _ rfl (HO4.out.alloc _) ⟨w4.heap.size, 0, none⟩ 1 1 (partCells ⟨K1, 0, []⟩) rfl rfl (cells_newN _ _ (by first | rfl | simp) _ _) (partCells_one _) (by unfold maxLen; omega) (by omega) (by first | omega | (simp; omega)) ?_)
                | fail)
              intro v' w' hown' hg' _
              obtain ⟨p', c', rfl⟩ := own_slice hown'
              have HB5 : Hid (Below w.heap.size w w') := (HB4.out.alloc HB4.out.size _).grown hg' (by simp; omega) fun k hk => (HO4.out.lt k hk).1
              have HO5 : Hid (w'.ownsRow w.heap.size 50 3 (.slice p' (qs.length + 1) c') (qs.length + 1) (cellsP qs ++ partCells ⟨K1, 0, []⟩)) := hown'
              have r2' := grown_cell hg' (by rw [World.size_alloc]; omega) HLT.out (cell_on ((Below.refl _ w4).alloc (Nat.le_refl _) _) q2)
              have r1' := grown_cell hg' (by rw [World.size_alloc]; omega) HLT.out (cell_on ((Below.refl _ w4).alloc (Nat.le_refl _) _) q1)
              have hs5 := HB5.out.size
              clear hown' hg'
              have hw2 : IntKind.i64.wrap (M - K1 - K2) = M - K1 - K2 := by rw [IntKind.wrap_i64]; omega
              go_wp2_with (first
                | (have _ := HO5; go_at_call 16; refine (CP2.out _).mono ?_; rintro e w6 ⟨rfl, hb6⟩; have HB6 : Hid (Below w.heap.size w w6) := HB5.out.trans (hb6.mono HB5.out.size); have HO6 : Hid (w6.ownsRow w.heap.size 50 3 (.slice p' (qs.length + 1) c') (qs.length + 1) (cellsP qs ++ partCells ⟨K1, 0, []⟩)) := own_below HO5.out hb6; have p2 := cell_on hb6 r2'; have hs6 := HB6.out.size; clear hb6)
                | (have _ := HO6; at_builtin; refine wpList_append_own _ rfl _ _ 23 rfl w.heap.size 50 i0 (.agg #[.int .i64 0, .int .i64 0, .string ⟨#[]⟩]) 3 32 Tryz.underlying23 hi hz0 hz1 hz2 rfl (by decide) _ _ _ rfl (HO6.out.alloc _) ⟨w6.heap.size, 0, none⟩ 1 1 (partCells ⟨0, K2, []⟩) rfl rfl (cells_newN _ _ (by first | rfl | simp) _ _) (partCells_one _) (by unfold maxLen; omega) (by omega) (by first | omega | (simp; omega)) ?_)
                | fail)
              intro v'' w'' hown'' hg'' _
              obtain ⟨p'', c'', rfl⟩ := own_slice hown''
              have HB7 : Hid (Below w.heap.size w w'') := (HB6.out.alloc HB6.out.size _).grown hg'' (by simp; omega) fun k hk => (HO6.out.lt k hk).1
              have HO7 : Hid (w''.ownsRow w.heap.size 50 3 (.slice p'' ((qs.length + 1) + 1) c'') ((qs.length + 1) + 1) (cellsP qs ++ (partCells ⟨K1, 0, []⟩ ++ partCells ⟨0, K2, []⟩))) := hown''
              clear hown'' hg''
              go_wp2
              go_roundw
              case rel =>
                refine ⟨k + 1, M - K1 - K2, by go_num, by first | rfl | go_num, (qs ++ [⟨K1, 0, []⟩]) ++ [⟨0, K2, []⟩], ?_, by first | omega | (simp; omega), small_snoc (small_snoc HQS.out ⟨by show 0 ≤ K1; omega, by show K1 ≤ N; omega, Int.le_refl _, hN0, by simp⟩) ⟨Int.le_refl _, hN0, by show 0 ≤ K2; omega, by show K2 ≤ N; omega, by simp⟩, by omega, by omega, by omega, by omega, HB7.out⟩
                have e1 : cellsP (qs ++ [(⟨K1, 0, []⟩ : Pt)] ++ [(⟨0, K2, []⟩ : Pt)]) = cellsP qs ++ (partCells ⟨K1, 0, []⟩ ++ partCells ⟨0, K2, []⟩) := by rw [cellsP_snoc, cellsP_snoc, List.append_assoc]
                have e2 : (qs ++ [(⟨K1, 0, []⟩ : Pt)] ++ [(⟨0, K2, []⟩ : Pt)]).length = qs.length + 1 + 1 := by simp
                rw [e1, e2]; exact HO7.out
              case measure => simp [intOf]; omega
        · have hUe : U.isEmpty = false := by cases U with | nil => exact absurd rfl hU | cons x U => rfl
          by_cases hsc : (scan U).2 = true
          · have HC : Hid (Calls Tryz.prog 59 #[.string ⟨U.toArray⟩] (wr.alloc (.cells #[.int .i64 K, .int .i64 D, .string ⟨U.toArray⟩] 50)) fun e w' => ∃ n1 n2 n3 n4, e = .returned (.tuple #[.agg #[.int .i64 n1, .int .i64 n2, .int .i64 n3, .int .i64 n4], .nilIface]) ∧ Below (wr.alloc (.cells #[.int .i64 K, .int .i64 D, .string ⟨U.toArray⟩] 50)).heap.size (wr.alloc (.cells #[.int .i64 K, .int .i64 D, .string ⟨U.toArray⟩] 50)) w') := Calls.mono cC fun e w' h => by
              obtain ⟨v, x, rfl, hb, ⟨_, rfl, rfl⟩ | ⟨h0, _⟩⟩ := h
              · exact ⟨_, _, _, _, rfl, hb⟩
              · rw [show (ByteArray.mk U.toArray).data.toList = U from rfl, hsc] at h0; cases h0
            clear cC hsc hU hpk
            go_wp2_with (first
              | (go_at_call 59; refine Calls.mono HC.out ?_; rintro e w2 ⟨n1, n2, n3, n4, rfl, hb2⟩; have HB2 : Hid (Below w.heap.size w w2) := HB0.out.trans (hb2.mono HB0.out.size); have HO2 : Hid (w2.ownsRow w.heap.size 50 3 (.slice pv qs.length cv) qs.length (cellsP qs)) := own_below ho0.out hb2; have z2 := (hb2.cell (p := ⟨wr.heap.size, 2, none⟩) hl0).trans y2; have z1 := (hb2.cell (p := ⟨wr.heap.size, 1, none⟩) hl0).trans y1; have z0 := (hb2.cell (p := ⟨wr.heap.size, 0, none⟩) hl0).trans y0; have hba : Below w2.heap.size w2 (w2.alloc (.cells #[.int .i64 n1, .int .i64 n2, .int .i64 n3, .int .i64 n4] 25)) := (Below.refl _ w2).alloc (Nat.le_refl _) _; have t2 := cell_on hba z2; have t1 := cell_on hba z1; have t0 := cell_on hba z0; have hl2 := alloc_size hb2; have hs2 := HB2.out.size; have HO3 : Hid ((w2.alloc (.cells #[.int .i64 n1, .int .i64 n2, .int .i64 n3, .int .i64 n4] 25)).ownsRow w.heap.size 50 3 (.slice pv qs.length cv) qs.length (cellsP qs)) := HO2.out.alloc _; have HB3 : Hid (Below w.heap.size w (w2.alloc (.cells #[.int .i64 n1, .int .i64 n2, .int .i64 n3, .int .i64 n4] 25))) := HB2.out.alloc HB2.out.size _; clear hb2 hba)
              | (at_builtin; refine wpList_append_own _ rfl _ _ 23 rfl w.heap.size 50 i0 (.agg #[.int .i64 0, .int .i64 0, .string ⟨#[]⟩]) 3 32 Tryz.underlying23 hi hz0 hz1 hz2 rfl (by decide) _ _ _ rfl (HO3.out.alloc _) ⟨w2.heap.size + 1, 0, none⟩ 1 1 (partCells ⟨0, 0, U⟩) rfl rfl (cells_newN _ _ (by first | rfl | simp) _ _) (partCells_one _) (by unfold maxLen; omega) (by omega) (by first | omega | (simp; omega)) ?_)
              | fail)
            intro v' w' hown' hg' _
            obtain ⟨p', c', rfl⟩ := own_slice hown'
            have HBW' : Hid (Below w.heap.size w w') := (HB3.out.alloc HB3.out.size _).grown hg' (by simp; omega) fun k hk => (HO3.out.lt k hk).1
            have HO' : Hid (w'.ownsRow w.heap.size 50 3 (.slice p' (qs.length + 1) c') (qs.length + 1) (cellsP qs ++ partCells ⟨0, 0, U⟩)) := hown'
            clear hown' hg'
            go_wp2
            go_roundw
            case rel =>
              refine ⟨k + 1, M, by go_num, rfl, qs ++ [⟨0, 0, U⟩], ?_, by simp; omega, small_snoc HQS.out ⟨Int.le_refl _, hN0, Int.le_refl _, hN0, by show U.length ≤ 150; omega⟩, hM0, hM1, by omega, by omega, HBW'.out⟩
              rw [cellsP_snoc, List.length_append]; exact HO'.out
            case measure => simp [intOf]; omega
          · have hsc : (scan U).2 = false := Bool.eq_false_iff.2 hsc
            have HC : Hid (Calls Tryz.prog 59 #[.string ⟨U.toArray⟩] (wr.alloc (.cells #[.int .i64 K, .int .i64 D, .string ⟨U.toArray⟩] 50)) fun e w' => ∃ n1 n2 n3 n4 bx, e = .returned (.tuple #[.agg #[.int .i64 n1, .int .i64 n2, .int .i64 n3, .int .i64 n4], .iface 233 (.pointer (some ⟨bx, 0, none⟩))]) ∧ Below (wr.alloc (.cells #[.int .i64 K, .int .i64 D, .string ⟨U.toArray⟩] 50)).heap.size (wr.alloc (.cells #[.int .i64 K, .int .i64 D, .string ⟨U.toArray⟩] 50)) w') := Calls.mono cC fun e w' h => by
              obtain ⟨v, x, rfl, hb, ⟨h0, _⟩ | ⟨_, rfl, bx, rfl, _⟩⟩ := h
              · rw [show (ByteArray.mk U.toArray).data.toList = U from rfl, hsc] at h0; cases h0
              · exact ⟨_, _, _, _, bx, rfl, hb⟩
            clear cC hsc hU
            have hpk2 : (¬ 0 < K2) ∨ (0 < K2 ∧ ¬ K2 ≤ M) ∨ (0 < K2 ∧ K2 ≤ M) := by omega
            rcases hpk with hp | ⟨hp, hp'⟩ | ⟨hp, hp'⟩ <;> rcases hpk2 with hr | ⟨hr, hr'⟩ | ⟨hr, hr'⟩ <;>
            · go_wp2_with (first
                | (go_at_call 59; refine Calls.mono HC.out ?_; rintro e w2 ⟨n1, n2, n3, n4, bx, rfl, hb2⟩; have HB2 : Hid (Below w.heap.size w w2) := HB0.out.trans (hb2.mono HB0.out.size); have HO2 : Hid (w2.ownsRow w.heap.size 50 3 (.slice pv qs.length cv) qs.length (cellsP qs)) := own_below ho0.out hb2; have z2 := (hb2.cell (p := ⟨wr.heap.size, 2, none⟩) hl0).trans y2; have z1 := (hb2.cell (p := ⟨wr.heap.size, 1, none⟩) hl0).trans y1; have z0 := (hb2.cell (p := ⟨wr.heap.size, 0, none⟩) hl0).trans y0; have hba : Below w2.heap.size w2 (w2.alloc (.cells #[.int .i64 n1, .int .i64 n2, .int .i64 n3, .int .i64 n4] 25)) := (Below.refl _ w2).alloc (Nat.le_refl _) _; have t2 := cell_on hba z2; have t1 := cell_on hba z1; have t0 := cell_on hba z0; have hl2 := alloc_size hb2; have hs2 := HB2.out.size; have HO3 : Hid ((w2.alloc (.cells #[.int .i64 n1, .int .i64 n2, .int .i64 n3, .int .i64 n4] 25)).ownsRow w.heap.size 50 3 (.slice pv qs.length cv) qs.length (cellsP qs)) := HO2.out.alloc _; have HB3 : Hid (Below w.heap.size w (w2.alloc (.cells #[.int .i64 n1, .int .i64 n2, .int .i64 n3, .int .i64 n4] 25))) := HB2.out.alloc HB2.out.size _; clear hb2 hba)
                | (have _ := HO4; go_at_call 16; refine (CP2.out _).mono ?_; rintro e w6 ⟨rfl, hb6⟩; have HB6 : Hid (Below w.heap.size w w6) := HB4.out.trans (hb6.mono HB4.out.size); have HO6 : Hid (w6.ownsRow w.heap.size 50 3 (.slice pv qs.length cv) qs.length (cellsP qs)) := own_below HO4.out hb6; have p2 := cell_on hb6 q2; have hs6 := HB6.out.size; clear hb6)
                | (go_at_call 16; refine (CP1.out _).mono ?_; rintro e w4 ⟨rfl, hb4⟩; have HB4 : Hid (Below w.heap.size w w4) := HB3.out.trans (hb4.mono HB3.out.size); have HO4 : Hid (w4.ownsRow w.heap.size 50 3 (.slice pv qs.length cv) qs.length (cellsP qs)) := own_below HO3.out hb4; have q2 := cell_on hb4 t2; have q1 := cell_on hb4 t1; have hs4 := HB4.out.size; have hs24 := hb4.size; rw [World.size_alloc] at hs24; clear hb4)
                | fail)
              go_roundw
              case rel => exact ⟨k + 1, M, by go_num, rfl, qs, HO6.out, by omega, HQS.out, hM0, hM1, by omega, by omega, HB6.out⟩
              case measure => simp [intOf]; omega
    · have hexit : k = n ∨ (k < n ∧ k = 30) := by omega
      have hql61 : qs.length ≤ 60 := by omega
      by_cases hMp : 0 < M
      · rcases hexit with rfl | ⟨h1, rfl⟩
        · have hex : ¬ (k : Int) < (k : Int) := by omega
          go_wp2_with (first
            | (at_builtin; refine wpList_append_own _ rfl _ _ 23 rfl w.heap.size 50 i0 (.agg #[.int .i64 0, .int .i64 0, .string ⟨#[]⟩]) 3 32 Tryz.underlying23 hi hz0 hz1 hz2 rfl (by decide) _ _ _ rfl (HOW.out.alloc _) ⟨wr.heap.size, 0, none⟩ 1 1 (partCells ⟨M, 0, []⟩) rfl rfl (cells_newN _ _ (by first | rfl | simp) _ _) (partCells_one _) (by unfold maxLen; omega) (by omega) (by first | omega | (simp; omega)) ?_)
            | fail)
          intro v' w' hown' hg' _
          obtain ⟨p', c', rfl⟩ := own_slice hown'
          have HBW' : Hid (Below w.heap.size w w') := (HWR.out.alloc HWR.out.size _).grown hg' (by simp; omega) fun k hk => (HOW.out.lt k hk).1
          have HO' : Hid (w'.ownsRow w.heap.size 50 3 (.slice p' (qs.length + 1) c') (qs.length + 1) (cellsP qs ++ partCells ⟨M, 0, []⟩)) := hown'
          clear hown' hg'
          go_wp2
          go_ret
          refine ⟨_, qs ++ [⟨M, 0, []⟩], rfl, ?_, by simp; omega, small_snoc HQS.out ⟨hM0, hM1, Int.le_refl _, hN0, by simp⟩, HBW'.out⟩
          rw [cellsP_snoc, List.length_append]; exact HO'.out
        · have hex : (30 : Int) < (n : Int) := by omega
          go_wp2_with (first
            | (at_builtin; refine wpList_append_own _ rfl _ _ 23 rfl w.heap.size 50 i0 (.agg #[.int .i64 0, .int .i64 0, .string ⟨#[]⟩]) 3 32 Tryz.underlying23 hi hz0 hz1 hz2 rfl (by decide) _ _ _ rfl (HOW.out.alloc _) ⟨wr.heap.size, 0, none⟩ 1 1 (partCells ⟨M, 0, []⟩) rfl rfl (cells_newN _ _ (by first | rfl | simp) _ _) (partCells_one _) (by unfold maxLen; omega) (by omega) (by first | omega | (simp; omega)) ?_)
            | fail)
          intro v' w' hown' hg' _
          obtain ⟨p', c', rfl⟩ := own_slice hown'
          have HBW' : Hid (Below w.heap.size w w') := (HWR.out.alloc HWR.out.size _).grown hg' (by simp; omega) fun k hk => (HOW.out.lt k hk).1
          have HO' : Hid (w'.ownsRow w.heap.size 50 3 (.slice p' (qs.length + 1) c') (qs.length + 1) (cellsP qs ++ partCells ⟨M, 0, []⟩)) := hown'
          clear hown' hg'
          go_wp2
          go_ret
          refine ⟨_, qs ++ [⟨M, 0, []⟩], rfl, ?_, by simp; omega, small_snoc HQS.out ⟨hM0, hM1, Int.le_refl _, hN0, by simp⟩, HBW'.out⟩
          rw [cellsP_snoc, List.length_append]; exact HO'.out
      · rcases hexit with rfl | ⟨h1, rfl⟩
        · have hex : ¬ (k : Int) < (k : Int) := by omega
          go_wp2
          go_ret
          first | exact ⟨_, qs, rfl, HOW.out, by omega, HQS.out, HWR.out⟩ | exact ⟨_, rfl, qs, HOW.out, by omega, HQS.out, HWR.out⟩
        · have hex : (30 : Int) < (n : Int) := by omega
          go_wp2
          go_ret
          first | exact ⟨_, qs, rfl, HOW.out, by omega, HQS.out, HWR.out⟩ | exact ⟨_, rfl, qs, HOW.out, by omega, HQS.out, HWR.out⟩
end Go.Proofs.YtldhbjmillfjgabGreatDoor

namespace Go.Proofs
open Go.Shelf
def Tryz.laysM316_ren : Go.Shelf.Ren := ⟨fun | 316 => 140 | n => n, fun | 9 => 9 | 3 => 3 | 4 => 4 | 37 => 130 | 0 => 0 | 127 => 232 | 5 => 5 | n => n, fun | n => n⟩
theorem Tryz.laysM316 : Go.Proofs.LaysM.n316 Tryz.prog Tryz.laysM316_ren := {
  mixed := by kernel_rfl
  f316 := Tryz.func140.trans (congrArg some (by kernel_rfl))
  t0 := Tryz.underlying0
  a0 := Tryz.isAgg0
  z0 := Tryz.sizeOf0
  v0 := Tryz.zeroValue0
  t3 := Tryz.underlying3
  a3 := Tryz.isAgg3
  z3 := Tryz.sizeOf3
  v3 := Tryz.zeroValue3
  t4 := Tryz.underlying4
  a4 := Tryz.isAgg4
  z4 := Tryz.sizeOf4
  v4 := Tryz.zeroValue4
  t9 := Tryz.underlying9
  a9 := Tryz.isAgg9
  z9 := Tryz.sizeOf9
  v9 := Tryz.zeroValue9
  t37 := Tryz.underlying130
  a37 := Tryz.isAgg130
  z37 := Tryz.sizeOf130
  v37 := Tryz.zeroValue130
  t127 := Tryz.underlying232
  a127 := Tryz.isAgg232
  z127 := Tryz.sizeOf232
  v127 := Tryz.zeroValue232
  t5 := Tryz.underlying5
  a5 := Tryz.isAgg5
  z5 := Tryz.sizeOf5
  v5 := Tryz.zeroValue5
  i0 := by kernel_rfl
  i3 := by kernel_rfl
  i4 := by kernel_rfl
  i5 := by kernel_rfl
  i9 := by kernel_rfl
  i37 := by kernel_rfl
  i127 := by kernel_rfl }
open Go.RowKit in
theorem Tryz.stringslite_Clone (s : ByteArray) (w : World) (hlim : s.size ≤ 281474976710656) :
    Calls Tryz.prog 140 #[.string s] w fun e w' => e = .returned (.string s) ∧ Below w.heap.size w w' := Any.stringslite_Clone Tryz.laysM316 s w hlim
end Go.Proofs

namespace Go.Proofs.YtldhbjmillfjgabGreatDoor
open Go.RowKit
set_option linter.unusedVariables false
attribute [local go_sem] Oper.semAt_some

theorem clone_any (u : List UInt8) (hu : u.length ≤ 10000000) (w : World) : Calls Tryz.prog 88 #[.string ⟨u.toArray⟩] w fun e w' => e = .returned (.string ⟨u.toArray⟩) ∧ Below w.heap.size w w' := by
  have c := Tryz.stringslite_Clone ⟨u.toArray⟩ w (by simp [ByteArray.size]; omega)
  have C : Hid _ := c
  clear c
  go_enter Tryz.func88, Tryz.ntmps88
  go_wp2_with (first | (go_at_call 140; refine Calls.mono C.out ?_; rintro e w1 ⟨rfl, hb1⟩) | fail)
  go_ret
  exact ⟨rfl, hb1⟩

theorem sum_pos {l : List Pt} (hl : ∀ q ∈ l, 0 ≤ lenP q) : 0 ≤ longP l := by
  induction l with
  | nil => simp [longP]
  | cons p l ih =>
    have := hl p (by simp)
    have := ih fun x hx => hl x (by simp [hx])
    simp only [longP, List.map_cons, List.sum_cons] at this ⊢
    omega
theorem chk2_long : ∀ {ps : List Pt} {N : Int}, (∀ q ∈ ps, 0 ≤ lenP q) → chk2 ps N = 0 → longP ps = N
  | [], N, _, h => by
    unfold chk2 at h
    split at h
    · rename_i e; simp [longP, e]
    · cases h
  | p :: ps, N, hl, h => by
    unfold chk2 at h
    split at h
    · cases h
    · have := chk2_long (fun q hq => hl q (by simp [hq])) h
      have e : longP (p :: ps) = lenP p + longP ps := by simp [longP]
      rw [e, this]; unfold lenP; omega
theorem chkE_parts {ps : List Pt} {N : Int} (h : chkE ps N = 0) : (∀ p ∈ ps, oneB p = true ∧ (scan p.put).2 = true) ∧ longP ps = N ∧ ∀ q ∈ ps, 0 ≤ lenP q := by
  unfold chkE at h
  split at h
  · rename_i h1
    have h2 := chk1_ones h1
    have h3 : ∀ q ∈ ps, 0 ≤ lenP q := fun q hq => by
      have := (one_sound (h2 q hq).1).1
      unfold soundP at this; unfold lenP; omega
    exact ⟨h2, chk2_long h3 h, h3⟩
  · rename_i h1; exact absurd h h1
theorem stp_grown {W W' : World} {s b : Nat} {u v a h : Int} {row : Option Nat} (k : stp W s b u v a h) (hg : W.grownBy W' row) (hr : ∀ j, row = some j → s + 5 ≤ j) : stp W' s b u v a h := by
  have l0 := World.block_lt_of_cell? W _ k.r
  have l1 := World.block_lt_of_cell? W _ k.u
  have l2 := World.block_lt_of_cell? W _ k.v
  have l3 := World.block_lt_of_cell? W _ k.a
  have l4 := World.block_lt_of_cell? W _ k.h
  have nb : ∀ j, j < s + 5 → some j ≠ row := fun j hj e => by have := hr j e.symm; omega
  have e0 := hg.block s l0 (nb s (by omega))
  have e1 := hg.block (s + 1) l1 (nb (s + 1) (by omega))
  have e2 := hg.block (s + 2) l2 (nb (s + 2) (by omega))
  have e3 := hg.block (s + 3) l3 (nb (s + 3) (by omega))
  have e4 := hg.block (s + 4) l4 (nb (s + 4) (by omega))
  exact ⟨(cellOn e0 0).trans k.r, (cellOn e1 0).trans k.u, (cellOn e2 0).trans k.v, (cellOn e3 0).trans k.a, (frozenOn e3 0).trans k.af, (cellOn e4 0).trans k.h, (frozenOn e4 0).trans k.hf⟩
theorem sz_le {w w2 : World} {o : Obj} (h : (w.alloc o).heap.size ≤ w2.heap.size) : w.heap.size + 1 ≤ w2.heap.size := by
  rw [World.size_alloc] at h
  exact h
theorem oneB_shapes {q : Pt} (h : oneB q = true) : (0 < q.keep ∧ q.drop = 0 ∧ q.put = []) ∨ (q.keep = 0 ∧ 0 < q.drop ∧ q.put = []) ∨ (q.keep = 0 ∧ q.drop = 0 ∧ q.put ≠ []) := by
  unfold oneB at h
  split at h
  · rename_i h1; exact .inl ⟨of_decide_eq_true h, h1.1, h1.2⟩
  · split at h
    · rename_i h1 h2; exact .inr (.inl ⟨h2.1, of_decide_eq_true h, h2.2⟩)
    · rename_i h1 h2
      have h3 := of_decide_eq_true h
      exact .inr (.inr ⟨h3.1, h3.2, fun e => h1 ⟨h3.2, e⟩⟩)
end Go.Proofs.YtldhbjmillfjgabGreatDoor

namespace Go.Proofs.YtldhbjmillfjgabGreatDoor
open Go.RowKit
set_option linter.unusedVariables false
attribute [local go_sem] Oper.semAt_some

def unitOk (u : Int) : Prop := u = 1 ∨ u = 2 ∨ u = 3
theorem isUnit_bad (u : Int) (hu : ¬ unitOk u) (w : World) : Calls Tryz.prog 192 #[.int .i64 u] w fun e w' => e = .returned (.bool false) ∧ w' = w := by
  have k1 : (u == 1) = false := beq_eq_false_iff_ne.2 fun e => hu (.inl e)
  have k2 : (u == 2) = false := beq_eq_false_iff_ne.2 fun e => hu (.inr (.inl e))
  have k3 : (u == 3) = false := beq_eq_false_iff_ne.2 fun e => hu (.inr (.inr e))
  clear hu
  go_enter Tryz.func192, Tryz.ntmps192
  go_wp2
  go_ret
  exact ⟨rfl, rfl⟩
set_option maxRecDepth 100000 in
set_option maxHeartbeats 1000000 in
theorem ahead_bad (b : Nat) (u at_ : Int) (hu : ¬ unitOk u) (w : World) :
    Calls Tryz.prog 163 #[.pointer (some ⟨b, 0, none⟩), .int .i64 u, .int .i64 at_] w fun e w' => e = .returned (.tuple #[cntV [], errV 1]) ∧ Below w.heap.size w w' := by
  have cN := fun wx => isUnit_bad u hu wx
  have hb2 : Below w.heap.size w (((w.alloc (.cells #[.int .i64 u] 3)).alloc (.cells #[.int .i64 at_] 3)).alloc (.cells #[.int .i64 0, .int .i64 0, .int .i64 0, .int .i64 0] 25)) := (((Below.refl _ w).alloc (Nat.le_refl _) _).alloc (by simp) _).alloc (by simp; omega) _
  have HB2 : Hid _ := hb2
  have hV : errV 1 = .iface 26 (.int .i64 1) := rfl
  have hC : cntV [] = .agg #[.int .i64 0, .int .i64 0, .int .i64 0, .int .i64 0] := rfl
  rw [hV, hC]
  clear hu hb2 hV hC
  go_enter Tryz.func163, Tryz.ntmps163
  go_wp2_with (first
    | (go_at_call 192; refine (cN _).mono ?_; rintro e w1 ⟨rfl, hw1⟩; obtain rfl := hw1.symm)
    | fail)
  refine bodyPost_ret (v := .tuple #[.agg #[.int .i64 0, .int .i64 0, .int .i64 0, .int .i64 0], .iface 26 (.int .i64 1)]) (by simp [results, Tryz.results163, go_sem]) rfl ⟨rfl, HB2.out⟩
set_option maxHeartbeats 1000000 in
theorem unitError_bad (b : Nat) (u : Int) (hu : ¬ unitOk u) (w : World) :
    Calls Tryz.prog 162 #[.pointer (some ⟨b, 0, none⟩), .int .i64 u] w fun e w' => e = .returned (errV 1) ∧ Below w.heap.size w w' := by
  have cA : Hid _ := ahead_bad b u 0 hu w
  have hV : errV 1 = .iface 26 (.int .i64 1) := rfl
  have hC : cntV [] = .agg #[.int .i64 0, .int .i64 0, .int .i64 0, .int .i64 0] := rfl
  rw [hV] at cA ⊢
  rw [hC] at cA
  clear hu hV hC
  go_enter Tryz.func162, Tryz.ntmps162
  go_wp2_with (first
    | (go_at_call 163; refine Calls.mono cA.out ?_; rintro e w1 ⟨rfl, hb1⟩)
    | fail)
  go_ret
  exact ⟨rfl, hb1.alloc hb1.size _⟩
set_option maxHeartbeats 1000000 in
theorem convert_to (b : Nat) (u v at_ : Int) (hv : ¬ unitOk v) (w : World) :
    Calls Tryz.prog 119 #[.pointer (some ⟨b, 0, none⟩), .int .i64 u, .int .i64 v, .int .i64 at_] w fun e w' => e = .returned (.tuple #[.int .i64 0, errV 1]) ∧ Below w.heap.size w w' := by
  have cU : Hid _ := unitError_bad b v hv w
  have hV : errV 1 = .iface 26 (.int .i64 1) := rfl
  rw [hV] at cU ⊢
  clear hv hV
  go_enter Tryz.func119, Tryz.ntmps119
  go_wp2_with (first
    | (go_at_call 162; refine Calls.mono cU.out ?_; rintro e w1 ⟨rfl, hb1⟩)
    | fail)
  go_ret2
  exact ⟨rfl, hb1⟩
set_option maxHeartbeats 1000000 in
theorem convert_from (b : Nat) (rs : List Nat) (u v at_ : Int) (hv : unitOk v) (hu : ¬ unitOk u) (w : World) (hT : Lib.Utf8Tabs 2 3 w) (h : isRope w b rs) (hz : C1 rs ≤ 100000000) :
    Calls Tryz.prog 119 #[.pointer (some ⟨b, 0, none⟩), .int .i64 u, .int .i64 v, .int .i64 at_] w fun e w' => e = .returned (.tuple #[.int .i64 0, errV 1]) ∧ Below w.heap.size w w' := by
  have cU : Hid _ := unitError_good b rs v hv w hT h hz
  have cA : Hid (∀ wx, Calls Tryz.prog 163 #[.pointer (some ⟨b, 0, none⟩), .int .i64 u, .int .i64 at_] wx fun e w' => e = .returned (.tuple #[.agg #[.int .i64 0, .int .i64 0, .int .i64 0, .int .i64 0], .iface 26 (.int .i64 1)]) ∧ Below wx.heap.size wx w') := fun wx => ahead_bad b u at_ hu wx
  have hV : errV 1 = .iface 26 (.int .i64 1) := rfl
  rw [hV]
  clear hv hu hV hT h hz
  go_enter Tryz.func119, Tryz.ntmps119
  go_wp2_with (first
    | (go_at_call 162; refine Calls.mono cU.out ?_; rintro e w1 ⟨rfl, hb1⟩; have HB1 : Hid (Below w.heap.size w w1) := hb1; clear hb1)
    | (go_at_call 163; refine (cA.out _).mono ?_; rintro e w2 ⟨rfl, hb2⟩; have HB2 : Hid (Below w.heap.size w w2) := HB1.out.trans (hb2.mono HB1.out.size); clear hb2)
    | fail)
  go_ret2
  exact ⟨rfl, HB2.out.alloc HB2.out.size _⟩
set_option maxHeartbeats 1000000 in
theorem convert_ord (b : Nat) (rs : List Nat) (u v at_ : Int) (hu : unitOk u) (hv : unitOk v) (hl0 : 0 ≤ at_) (hl1 : at_ ≤ by_ u rs) (w : World) (hT : Lib.Utf8Tabs 2 3 w) (h : isRope w b rs) (hz : C1 rs ≤ 100000000) (X : List Nat) (hX : find (reachesBy u at_) [] rs = X) (hfine : by_ u X ≠ at_) :
    Calls Tryz.prog 119 #[.pointer (some ⟨b, 0, none⟩), .int .i64 u, .int .i64 v, .int .i64 at_] w fun e w' => e = .returned (.tuple #[.int .i64 0, errV 10]) ∧ Below w.heap.size w w' := by
  have cU : Hid _ := unitError_good b rs v hv w hT h hz
  have cA : Hid (∀ wx, Below w.heap.size w wx → Calls Tryz.prog 163 #[.pointer (some ⟨b, 0, none⟩), .int .i64 u, .int .i64 at_] wx fun e w' => e = .returned (.tuple #[.agg #[.int .i64 0, .int .i64 0, .int .i64 0, .int .i64 0], .iface 26 (.int .i64 10)]) ∧ Below wx.heap.size wx w') := fun wx hb => by
    have := ahead_any b rs u at_ hu hl0 hl1 wx (Go.Proofs.Utf8Tabs_below hT hb) (isRope_below h hb) hz
    rw [hX, if_neg hfine] at this
    exact this
  have hV : errV 10 = .iface 26 (.int .i64 10) := rfl
  rw [hV]
  clear hT h hu hz hv hl0 hl1 hX hfine hV
  go_enter Tryz.func119, Tryz.ntmps119
  go_wp2_with (first
    | (go_at_call 162; refine Calls.mono cU.out ?_; rintro e w1 ⟨rfl, hb1⟩; have HB1 : Hid (Below w.heap.size w w1) := hb1; clear hb1)
    | (go_at_call 163; refine (cA.out _ HB1.out).mono ?_; rintro e w2 ⟨rfl, hb2⟩; have HB2 : Hid (Below w.heap.size w w2) := HB1.out.trans (hb2.mono HB1.out.size); clear hb2)
    | fail)
  go_ret2
  exact ⟨rfl, HB2.out.alloc HB2.out.size _⟩
end Go.Proofs.YtldhbjmillfjgabGreatDoor

namespace Go.Proofs.YtldhbjmillfjgabGreatDoor
set_option linter.unusedVariables false

/-- A part in another unit. -/
def unit1 (n : Int) (q : Pt) : Pt := if 0 < q.keep then ⟨n, 0, []⟩ else if 0 < q.drop then ⟨0, n, []⟩ else ⟨0, 0, q.put⟩
/-- How much is ahead of a place, as runes. -/
def upTo (rs : List Nat) (u a : Int) : List Nat := find (reachesBy u a) [] rs
def onEdge (rs : List Nat) (u a : Int) : Bool := decide (by_ u (upTo rs u a) = a)
/-- The parts in another unit, and whether all end between two runes. -/
def turnZ (rs : List Nat) (u v : Int) : Int → List Pt → List Pt × Bool
  | _, [] => ([], true)
  | a, q :: qs => if onEdge rs u (a + lenP q) then
      (unit1 (by_ v (upTo rs u (a + lenP q)) - by_ v (upTo rs u a)) q :: (turnZ rs u v (a + lenP q) qs).1, (turnZ rs u v (a + lenP q) qs).2)
    else ([], false)
theorem C2_one (r : Nat) : 1 ≤ C2 [r] := by
  unfold C2 sum2 wide
  simp only [List.map_cons, List.map_nil, List.sum_cons, List.sum_nil, Int.add_zero]
  unfold cH
  split <;> omega
theorem by_one {u : Int} (hu : unitOk u) (r : Nat) : 1 ≤ by_ u [r] := by
  unfold by_
  rcases hu with rfl | rfl | rfl
  · rw [if_pos rfl, C1_len]
    have := List.length_pos_iff.2 (enc_ne r)
    have e : encs [r] = enc r := by simp [encs]
    rw [e]; omega
  · rw [if_neg (by decide), if_pos rfl]
    exact C2_one r
  · rw [if_neg (by decide), if_neg (by decide), if_pos rfl]
    show (1 : Int) ≤ ((1 : Nat) : Int); omega
/-- More runes, more of each unit. -/
theorem by_mono {u : Int} (hu : unitOk u) : ∀ (rs : List Nat) (i j : Nat), i < j → j ≤ rs.length → by_ u (rs.take i) < by_ u (rs.take j)
  | rs, i, j, h, hj => by
    have e : rs.take j = rs.take i ++ (rs.drop i).take (j - i) := by rw [← List.take_add]; congr 1; omega
    rw [e, by_append]
    have hne : (rs.drop i).take (j - i) ≠ [] := fun e => by
      have := congrArg List.length e
      rw [List.length_take, List.length_drop, List.length_nil] at this
      omega
    cases hx : (rs.drop i).take (j - i) with
    | nil => exact absurd hx hne
    | cons r x =>
      have e2 : r :: x = [r] ++ x := rfl
      rw [e2, by_append]
      have := by_one hu r
      have := by_pos u x
      omega
/-- What is ahead of a place: as few runes as reach it. -/
theorem find_least (u a : Int) : ∀ (rs pre : List Nat), a ≤ by_ u (pre ++ rs) → ∃ k, k ≤ rs.length ∧ find (reachesBy u a) pre rs = pre ++ rs.take k ∧ a ≤ by_ u (pre ++ rs.take k) ∧ ∀ i, i < k → by_ u (pre ++ rs.take i) < a
  | [], pre, h => by
    refine ⟨0, Nat.le_refl _, ?_, by simpa using h, fun i hi => absurd hi (Nat.not_lt_zero _)⟩
    have : reachesBy u a pre = true := decide_eq_true (by simpa using h)
    unfold find
    rw [if_pos this]; simp
  | r :: rs, pre, h => by
    by_cases h0 : a ≤ by_ u pre
    · refine ⟨0, Nat.zero_le _, ?_, by simpa using h0, fun i hi => absurd hi (Nat.not_lt_zero _)⟩
      have : reachesBy u a pre = true := decide_eq_true h0
      unfold find
      rw [if_pos this]; simp
    · obtain ⟨k, k1, k2, k3, k4⟩ := find_least u a rs (pre ++ [r]) (by simpa using h)
      have e : ∀ i, pre ++ (r :: rs).take (i + 1) = (pre ++ [r]) ++ rs.take i := fun i => by simp
      refine ⟨k + 1, by simp; omega, ?_, by rw [e]; exact k3, fun i hi => ?_⟩
      · rw [e, ← k2]
        have hf : reachesBy u a pre = false := decide_eq_false h0
        conv => lhs; unfold find
        rw [hf, if_neg (by decide), seek]
        conv => rhs; unfold find
        split
        · rfl
        · simp
      · cases i with
        | zero => rw [List.take_zero, List.append_nil]; omega
        | succ i => rw [e]; exact k4 i (by omega)
/-- What is ahead, as the first runes. -/
theorem upTo_least (rs : List Nat) (u a : Int) (h : a ≤ by_ u rs) : ∃ k, k ≤ rs.length ∧ upTo rs u a = rs.take k ∧ a ≤ by_ u (rs.take k) ∧ ∀ i, i < k → by_ u (rs.take i) < a := by
  obtain ⟨k, h1, h2, h3, h4⟩ := find_least u a rs [] (by simpa using h)
  exact ⟨k, h1, by unfold upTo; simpa using h2, by simpa using h3, fun i hi => by simpa using h4 i hi⟩
/-- The first of the places at which it is just so much; there is one where what is ahead is so much. -/
theorem edge_first {u : Int} (hu : unitOk u) {rs : List Nat} {a : Int} (h : a ≤ by_ u rs) :
    (onEdge rs u a = true → ∃ k, k ≤ rs.length ∧ upTo rs u a = rs.take k ∧ by_ u (rs.take k) = a ∧ ∀ i, i < k → by_ u (rs.take i) ≠ a) ∧
    (onEdge rs u a = false → ∀ i, i ≤ rs.length → by_ u (rs.take i) ≠ a) := by
  obtain ⟨k, h1, h2, h3, h4⟩ := upTo_least rs u a h
  unfold onEdge
  rw [h2]
  refine ⟨fun e => ⟨k, h1, h2 ▸ rfl, of_decide_eq_true e, fun i hi => by have := h4 i hi; omega⟩, fun e i hi e2 => ?_⟩
  have hne : by_ u (rs.take k) ≠ a := of_decide_eq_false e
  by_cases hik : i < k
  · have := h4 i hik; omega
  · by_cases hke : k = i
    · subst hke; exact hne e2
    · have := by_mono hu rs k i (by omega) hi
      omega
theorem upTo_le {u v : Int} (rs : List Nat) {a : Int} (h : a ≤ by_ u rs) : by_ v (upTo rs u a) ≤ by_ v rs := by
  obtain ⟨k, h1, h2, _, _⟩ := upTo_least rs u a h
  rw [h2]
  have e : rs = rs.take k ++ rs.drop k := (List.take_append_drop k rs).symm
  have : by_ v rs = by_ v (rs.take k) + by_ v (rs.drop k) := by rw [← by_append, List.take_append_drop]
  have := by_pos v (rs.drop k)
  omega
theorem upTo_mono {u v : Int} (rs : List Nat) {a b : Int} (hab : a ≤ b) (h : b ≤ by_ u rs) : by_ v (upTo rs u a) ≤ by_ v (upTo rs u b) := by
  obtain ⟨k, k1, k2, k3, k4⟩ := upTo_least rs u a (by omega)
  obtain ⟨j, j1, j2, j3, j4⟩ := upTo_least rs u b h
  rw [k2, j2]
  have hkj : k ≤ j := by
    by_cases hh : k ≤ j
    · exact hh
    · have := k4 j (by omega); omega
  have e : rs.take j = rs.take k ++ (rs.drop k).take (j - k) := by rw [← List.take_add]; congr 1; omega
  rw [e, by_append]
  have := by_pos v ((rs.drop k).take (j - k))
  omega
theorem upTo_zero (rs : List Nat) (u : Int) : upTo rs u 0 = [] := find_zero u rs
end Go.Proofs.YtldhbjmillfjgabGreatDoor

namespace Go.Proofs.YtldhbjmillfjgabGreatDoor
open Go.RowKit
set_option linter.unusedVariables false
attribute [local go_sem] Oper.semAt_some

set_option maxRecDepth 100000 in
set_option maxHeartbeats 2000000 in
theorem steps1_err (s b : Nat) (rs : List Nat) (u v a h n : Int) (W : World) (k : stp W s b u v a h) (hu : unitOk u) (hv : unitOk v) (h0 : 0 ≤ a + n) (h1 : a + n ≤ by_ u rs) (hfine : by_ u (upTo rs u (a + n)) ≠ a + n)
    (hz : C1 rs ≤ 100000000) (hbig : by_ u rs ≤ 300000000)
    (hK : ∀ W', Below s W W' → Lib.Utf8Tabs 2 3 W' ∧ isRope W' b rs) :
    Calls Tryz.prog 164 #[.int .i64 n, .pointer (some ⟨s + 3, 0, none⟩), .pointer (some ⟨s, 0, none⟩), .pointer (some ⟨s + 1, 0, none⟩), .pointer (some ⟨s + 2, 0, none⟩), .pointer (some ⟨s + 4, 0, none⟩)] W fun e w' =>
      e = .returned (.tuple #[.int .i64 0, .iface 26 (.int .i64 10)]) ∧ Below s W w' := by
  have l3 := World.block_lt_of_cell? W _ k.a
  obtain ⟨k1, k2, k3, k4, k5, k6, k7⟩ := k
  have hw1 : IntKind.i64.wrap (a + n) = a + n := by rw [IntKind.wrap_i64]; omega
  have hb1 : Below s W (W.setCell ⟨s + 3, 0, none⟩ (.int .i64 (a + n))) := (Below.refl s W).setCell (p := ⟨s + 3, 0, none⟩) (Nat.le_add_right _ _) _
  obtain ⟨hT1, hR1⟩ := hK _ hb1
  have cC : Hid (Calls Tryz.prog 119 #[.pointer (some ⟨b, 0, none⟩), .int .i64 u, .int .i64 v, .int .i64 (a + n)] (W.setCell ⟨s + 3, 0, none⟩ (.int .i64 (a + n))) fun e w' => e = .returned (.tuple #[.int .i64 0, .iface 26 (.int .i64 10)]) ∧ Below (W.setCell ⟨s + 3, 0, none⟩ (.int .i64 (a + n))).heap.size (W.setCell ⟨s + 3, 0, none⟩ (.int .i64 (a + n))) w') := convert_ord b rs u v (a + n) hu hv h0 h1 (W.setCell ⟨s + 3, 0, none⟩ (.int .i64 (a + n))) hT1 hR1 hz _ rfl hfine
  have HB1 : Hid (Below s W (W.setCell ⟨s + 3, 0, none⟩ (.int .i64 (a + n)))) := hb1
  clear hfine hu hv h0 h1 hz hK hT1 hR1 hb1 hbig
  go_enter Tryz.func164, Tryz.ntmps164
  go_wp2_with (first
    | (go_at_call 119; refine Calls.mono cC.out ?_; rintro e w2 ⟨rfl, hb2⟩; have HB2 : Hid (Below s W w2) := HB1.out.trans (hb2.mono (by simp; omega)); clear hb2)
    | fail)
  go_ret2
  exact ⟨rfl, HB2.out⟩

/-- What comes of parts in another unit; none, where one ends within a rune. -/
def turnO (rs : List Nat) (u v : Int) (qs : List Pt) : List Pt := if (turnZ rs u v 0 qs).2 then (turnZ rs u v 0 qs).1 else []
def turnX (rs : List Nat) (u v : Int) (qs : List Pt) : Int := if (turnZ rs u v 0 qs).2 then 0 else 10
/-- Where the loop stands. -/
def brZ (ws : World) (b : Nat) (rs : List Nat) (u v : Int) (qs : List Pt) (k : Nat) (val : Value) (wr : World) : Prop :=
  ∃ L : List Pt, L.length = k ∧ turnZ rs u v 0 qs = (L ++ (turnZ rs u v (longP (qs.take k)) (qs.drop k)).1, (turnZ rs u v (longP (qs.take k)) (qs.drop k)).2) ∧
  k ≤ qs.length ∧ wr.ownsRow (ws.heap.size + 5) 50 3 val k (cellsP L) ∧ stp wr ws.heap.size b u v (longP (qs.take k)) (by_ v (upTo rs u (longP (qs.take k)))) ∧ Below ws.heap.size ws wr ∧ ws.heap.size + 5 ≤ wr.heap.size

set_option maxRecDepth 100000 in
set_option maxHeartbeats 8000000 in
theorem turnz_chk (b : Nat) (rs : List Nat) (u v : Int) (qs : List Pt) (val : Value) (w : World) (hu : unitOk u) (hv : unitOk v) (hT : Lib.Utf8Tabs 2 3 w) (hR : isRope w b rs) (hr : opAt w val qs) (hwf : ∀ q ∈ qs, wfP q) (hl : qs.length ≤ 1000) (hpl : ∀ q ∈ qs, q.put.length ≤ 10000000) (hz : C1 rs ≤ 1000000) (hbu : by_ u rs ≤ 10000000) (hbv : by_ v rs ≤ 10000000) (hc : chkE qs (by_ u rs) = 0) (hbw : b < w.heap.size) :
    Calls Tryz.prog 64 #[.pointer (some ⟨b, 0, none⟩), .int .i64 u, .int .i64 v, val] w fun e w' => ∃ v', e = .returned (.tuple #[v', errV (turnX rs u v qs)]) ∧ opAt w' v' (turnO rs u v qs) ∧ Below w.heap.size w w' := by
  obtain ⟨hp1, hp2, hp3⟩ := chkE_parts hc
  have cV : Hid (Calls Tryz.prog 119 #[.pointer (some ⟨b, 0, none⟩), .int .i64 u, .int .i64 v, .int .i64 0] w fun e w' => e = .returned (.tuple #[.int .i64 0, .nilIface]) ∧ Below w.heap.size w w') := by
    have := convert_any b rs u v 0 hu hv (Int.le_refl _) (by_pos u rs) w hT hR (by omega) [] (find_zero u rs) (by_nil u)
    rw [by_nil] at this
    exact this
  have cN : Hid (∀ wx, Below w.heap.size w wx → Calls Tryz.prog 20 #[.pointer (some ⟨b, 0, none⟩)] wx fun e w' => e = .returned (cntV rs) ∧ Below wx.heap.size wx w') := fun wx hb => ropecounts_any b rs wx (isRope_below hR hb)
  have cI : Hid (∀ wx, Calls Tryz.prog 19 #[cntV rs, .int .i64 u] wx fun e w' => e = .returned (.int .i64 (by_ u rs)) ∧ Below wx.heap.size wx w') := fun wx => In_any u rs wx
  have hup := by_pos u rs
  have cK : Hid (∀ wx, Below w.heap.size w wx → Calls Tryz.prog 68 #[val, .int .i64 (by_ u rs)] wx fun e w' => e = .returned .nilIface ∧ Below wx.heap.size wx w') := fun wx hb => by
    have := Check_any val qs (by_ u rs) wx (Go.Proofs.Utf8Tabs_below hT hb) (opAt_below hr hb (Nat.le_refl _)) hwf (by omega) (by omega)
    rw [hc] at this
    exact this
  have cS : Hid (∀ wx, Calls Tryz.prog 120 #[.pointer (some ⟨b, 0, none⟩), .int .i64 u, .int .i64 v] wx fun e w' => e = .returned (stepsV wx.heap.size) ∧ stp w' wx.heap.size b u v 0 0 ∧ Below wx.heap.size wx w' ∧ w'.heap.size = wx.heap.size + 5) := fun wx => bsteps_any b u v wx
  have HRW : Hid (isRope w b rs) := hR
  have HTW : Hid (Lib.Utf8Tabs 2 3 w) := hT
  have HOP : Hid (opAt w val qs) := hr
  have HP1 : Hid (∀ p ∈ qs, oneB p = true ∧ (scan p.put).2 = true) := hp1
  have HP2 : Hid (longP qs = by_ u rs) := hp2
  have HP3 : Hid (∀ q ∈ qs, 0 ≤ lenP q) := hp3
  have HPL : Hid (∀ q ∈ qs, q.put.length ≤ 10000000) := hpl
  have HU : Hid (unitOk u) := hu
  have HV : Hid (unitOk v) := hv
  have HZ : Hid (C1 rs ≤ 1000000) := hz
  have HBV : Hid (by_ v rs ≤ 10000000) := hbv
  obtain ⟨p, c, rfl, r1, r2, r3⟩ := hr
  obtain ⟨n, hn⟩ : ∃ n, qs.length = n := ⟨_, rfl⟩
  have HN : Hid (qs.length = n) := hn
  rw [hn] at r1 hl cK ⊢
  obtain ⟨i0, hi, hz0, hz1, hz2⟩ := info_parts info_part
  obtain ⟨RL, hRL⟩ : ∃ RL : Int, by_ u rs = RL := ⟨_, rfl⟩
  rw [hRL] at cI cK hbu hup
  have HRL : Hid (by_ u rs = RL) := hRL
  unfold cntV at cN cI
  unfold stepsV at cS
  clear hT hR hwf hp1 hp2 hp3 hpl hc hn r3 hRL hu hv hz hbv
  unfold maxLen at r2
  go_enter Tryz.func64, Tryz.ntmps64
  go_wp2_with (first
    | (go_at_call 119; refine Calls.mono cV.out ?_; rintro e w1 ⟨rfl, hb1⟩; have HB1 : Hid (Below w.heap.size w w1) := hb1; clear hb1)
    | (go_at_call 20; refine (cN.out _ HB1.out).mono ?_; rintro e w2 ⟨rfl, hb2⟩; have HB2 : Hid (Below w.heap.size w w2) := HB1.out.trans (hb2.mono HB1.out.size); clear hb2)
    | (go_at_call 19; refine (cI.out _).mono ?_; rintro e w3 ⟨rfl, hb3⟩; have HB3 : Hid (Below w.heap.size w w3) := HB2.out.trans (hb3.mono HB2.out.size); clear hb3)
    | (go_at_call 68; refine (cK.out _ HB3.out).mono ?_; rintro e w4 ⟨rfl, hb4⟩; have HB4 : Hid (Below w.heap.size w w4) := HB3.out.trans (hb4.mono HB3.out.size); clear hb4)
    | (go_at_call 120; refine (cS.out _).mono ?_; rintro e w5 ⟨rfl, hs5, hb5, hz5⟩; have HB5 : Hid (Below w4.heap.size w4 w5) := hb5; have HS5 : Hid (stp w5 w4.heap.size b u v 0 0) := hs5; clear hs5 hb5)
    | (at_make; refine wpList_make_own _ rfl _ _ 23 rfl (w4.heap.size + 5) 50 i0 (.agg #[.int .i64 0, .int .i64 0, .string ⟨#[]⟩]) 3 Tryz.underlying23 hi hz0 hz1 .i64 .i64 n n rfl rfl rfl (by rw [hz2]; omega) (by unfold maxLen; omega) (by omega) ?_)
    | fail)
  intro w6 hown6 hg6
  have HO6 : Hid (w6.ownsRow (w4.heap.size + 5) 50 3 (.slice (some ⟨w4.heap.size + 5, 0, none⟩) 0 n) 0 []) := hown6
  have HB6 : Hid (Below w4.heap.size w4 w6) := HB5.out.grown hg6 HB5.out.size fun k hk => by cases hk
  have HS6 : Hid (stp w6 w4.heap.size b u v 0 0) := stp_grown HS5.out hg6 fun k hk => by cases hk
  have hs6 := hg6.size
  rw [hz5] at hs6
  clear hown6 hg6 cV cN cI cK cS HB1 HB2 HB3 HB5 HS5
  go_wp2
  go_loopw [14, 47] (fun v14 i wr => ∃ (k : Nat), i = .int .i64 k ∧ brZ w4 b rs u v qs k v14 wr) (fun _ i _ => n - (intOf i).toNat)
  case atStart =>
    have e1 : longP (qs.take 0) = 0 := by simp [longP]
    refine ⟨0, rfl, [], rfl, ?_, Nat.zero_le _, HO6.out, ?_, HB6.out, hs6⟩
    · rw [e1]; rfl
    · rw [e1, upTo_zero, by_nil]
      exact HS6.out
  case round =>
    obtain ⟨k, rfl, L, hLk, htz, hk, hown, hst, hbw', hsz0⟩ := hrel
    obtain ⟨pv, cv, rfl⟩ := own_slice hown
    clear HO6 HB6 HS6
    by_cases hlt : k < n
    · have hkr : k < qs.length := by rw [HN.out]; exact hlt
      have hne : qs ≠ [] := by intro e; rw [e] at hkr; exact absurd hkr (Nat.not_lt_zero _)
      have HBW0 : Hid (Below w.heap.size w wr) := HB4.out.trans (hbw'.mono HB4.out.size)
      obtain ⟨p0, c0, hvv, _, _, hcell⟩ := HOP.out
      obtain ⟨b0, o, rfl, hb0, hcell⟩ := hcell hne
      obtain ⟨f0, f1, f2⟩ := hcell k qs[k] (List.getElem?_eq_getElem hkr)
      have g0 := (HBW0.out.cell (p := ⟨b0, o + k * 3, none⟩) hb0).trans f0
      have g1 := (HBW0.out.cell (p := ⟨b0, o + k * 3 + 1, none⟩) hb0).trans f1
      have g2 := (HBW0.out.cell (p := ⟨b0, o + k * 3 + 2, none⟩) hb0).trans f2
      obtain rfl : p = some ⟨b0, o, none⟩ := by injection hvv
      clear hvv hcell f0 f1 f2 hne
      have hqm : qs[k] ∈ qs := List.getElem_mem _
      have hsnd := (one_sound (HP1.out _ hqm).1).1
      have hplq := HPL.out _ hqm
      have hts : qs.take (k + 1) = qs.take k ++ [qs[k]] := List.take_succ_eq_append_getElem hkr
      have hA1' : longP (qs.take (k + 1)) = longP (qs.take k) + lenP qs[k] := by rw [hts, long_append]; simp [longP]
      have hA0 : 0 ≤ longP (qs.take k) := sum_pos fun q hq => HP3.out q (List.mem_of_mem_take hq)
      have hAN : longP (qs.take (k + 1)) ≤ RL := by
        have e2 : longP qs = longP (qs.take (k + 1)) + longP (qs.drop (k + 1)) := by rw [← long_append, List.take_append_drop]
        have := sum_pos fun q hq => HP3.out q (List.mem_of_mem_drop (i := k + 1) hq)
        have := HP2.out; have := HRL.out
        omega
      have hdk : qs.drop k = qs[k] :: qs.drop (k + 1) := List.drop_eq_getElem_cons hkr
      rw [hdk] at htz
      have HQD : Hid (∀ a, turnZ rs u v a (qs.drop (k + 1)) = turnZ rs u v a (qs.drop (k + 1))) := fun _ => rfl
      generalize qs[k] = q at *
      obtain ⟨K, D, U⟩ := q
      obtain ⟨A, hA⟩ : ∃ A, longP (qs.take k) = A := ⟨_, rfl⟩
      rw [hA] at hst hA1' hA0 htz
      have hld : lenP ⟨K, D, U⟩ = K + D := rfl
      rw [hld] at hA1'
      have HOW : Hid ((wr.alloc (.cells #[.int .i64 K, .int .i64 D, .string ⟨U.toArray⟩] 50)).ownsRow (w4.heap.size + 5) 50 3 (.slice pv k cv) k (cellsP L)) := hown.alloc _
      have HBW : Hid (Below w4.heap.size w4 (wr.alloc (.cells #[.int .i64 K, .int .i64 D, .string ⟨U.toArray⟩] 50))) := hbw'.alloc hbw'.size _
      obtain ⟨s1, s2⟩ := hsnd
      have s1 : 0 ≤ K := s1
      have s2 : 0 ≤ D := s2
      have hw0 : IntKind.i64.wrap (K + D) = K + D := by rw [IntKind.wrap_i64]; omega
      have hj : (k : Int) < (n : Int) := by omega
      have hbx : Below wr.heap.size wr (wr.alloc (.cells #[.int .i64 K, .int .i64 D, .string ⟨U.toArray⟩] 50)) := (Below.refl _ _).alloc (Nat.le_refl _) _
      have hRLe := HRL.out
      have hKK : ∀ W', Below w4.heap.size (wr.alloc (.cells #[.int .i64 K, .int .i64 D, .string ⟨U.toArray⟩] 50)) W' → Lib.Utf8Tabs 2 3 W' ∧ isRope W' b rs := fun W' hW' => ⟨Go.Proofs.Utf8Tabs_below HTW.out (HB4.out.trans ((HBW.out.trans hW').mono HB4.out.size)), isRope_below HRW.out (HB4.out.trans ((HBW.out.trans hW').mono HB4.out.size))⟩
      have hzz := HZ.out
      by_cases hed : onEdge rs u (A + (K + D)) = true
      · have hX3 : by_ u (upTo rs u (A + (K + D))) = A + (K + D) := of_decide_eq_true hed
        have hXle := upTo_le (v := v) rs (u := u) (a := A + (K + D)) (by omega)
        have hmono := upTo_mono (u := u) (v := v) rs (a := A) (b := A + (K + D)) (by omega) (by omega)
        have hp0 := by_pos v (upTo rs u A)
        have hbv := HBV.out
        have cX := steps1_any w4.heap.size b rs (upTo rs u (A + (K + D))) u v A (by_ v (upTo rs u A)) (K + D) _ (hst.below hbx) HU.out HV.out (by omega) (by omega) rfl hX3
          (hKK _ (Below.refl _ _)).1 (hKK _ (Below.refl _ _)).2 (by have := HB4.out.size; omega) (by omega) hp0 (by omega) (by omega) (by omega) hKK
        rw [turnZ, if_pos (by rw [hld]; exact hed)] at htz
        obtain ⟨XV, hXV⟩ : ∃ XV, by_ v (upTo rs u (A + (K + D))) = XV := ⟨_, rfl⟩
        obtain ⟨M, hM⟩ : ∃ M, XV - by_ v (upTo rs u A) = M := ⟨_, rfl⟩
        rw [hXV, hM] at cX
        rw [hld, hXV, hM] at htz
        have CX : Hid _ := cX
        have HA1 : Hid (longP (qs.take (k + 1)) = A + (K + D)) := hA1'
        have HXV : Hid (by_ v (upTo rs u (A + (K + D))) = XV) := hXV
        have HLL : Hid (L.length = k) := hLk
        have HTK0 : Hid (turnZ rs u v 0 qs = ((L ++ [unit1 M ⟨K, D, U⟩]) ++ (turnZ rs u v (longP (qs.take (k + 1))) (qs.drop (k + 1))).1, (turnZ rs u v (longP (qs.take (k + 1))) (qs.drop (k + 1))).2)) := by
          show turnZ rs u v 0 qs = _
          rw [htz, hA1']; simp
        have x0 : (wr.alloc (.cells #[.int .i64 K, .int .i64 D, .string ⟨U.toArray⟩] 50)).cell? ⟨wr.heap.size, 0, none⟩ = some (.int .i64 K) := by simp [go_sem]
        have x1 : (wr.alloc (.cells #[.int .i64 K, .int .i64 D, .string ⟨U.toArray⟩] 50)).cell? ⟨wr.heap.size, 1, none⟩ = some (.int .i64 D) := by simp [go_sem]
        have x2 : (wr.alloc (.cells #[.int .i64 K, .int .i64 D, .string ⟨U.toArray⟩] 50)).cell? ⟨wr.heap.size, 2, none⟩ = some (.string ⟨U.toArray⟩) := by simp [go_sem]
        have hne3 : wr.heap.size ≠ w4.heap.size + 3 := by omega
        have hne4 : wr.heap.size ≠ w4.heap.size + 4 := by omega
        have hltw : wr.heap.size < (wr.alloc (.cells #[.int .i64 K, .int .i64 D, .string ⟨U.toArray⟩] 50)).heap.size := by simp
        have hsz0 : w4.heap.size + 5 ≤ (wr.alloc (.cells #[.int .i64 K, .int .i64 D, .string ⟨U.toArray⟩] 50)).heap.size := by rw [World.size_alloc]; omega
        clear hown hst hbw' hXle hmono cX hA1' htz hA hbx hAN hts hqm hkr hp0 hbv hX3 hed hKK hRLe hXV hM hLk hdk HQD
        by_cases hK : 0 < K
        · have HTK := HTK0
          have e1 : unit1 M ⟨K, D, U⟩ = ⟨M, 0, []⟩ := by unfold unit1; rw [if_pos hK]
          rw [e1] at HTK
          clear e1 HTK0
          go_wp2_with (first
            | (go_at_call 164; refine Calls.mono CX.out ?_; rintro e w7 ⟨rfl, hs7, hb7, hz7, ho7, hk7⟩; have HS7 : Hid (stp w7 w4.heap.size b u v (A + (K + D)) XV) := hs7; have HB7 : Hid (Below w4.heap.size w4 w7) := HBW.out.trans hb7; have HO7 : Hid (w7.ownsRow (w4.heap.size + 5) 50 3 (.slice pv k cv) k (cellsP L)) := ho7 _ _ _ _ _ _ (Nat.le_refl _) hsz0 HOW.out; have y0 := (cellOnF (hk7 wr.heap.size hne3 hne4 hltw) 0).trans x0; have y1 := (cellOnF (hk7 wr.heap.size hne3 hne4 hltw) 1).trans x1; have y2 := (cellOnF (hk7 wr.heap.size hne3 hne4 hltw) 2).trans x2; have hs57 := sz_le hz7; clear hs7 hb7 ho7 hk7)
            | (at_builtin; refine wpList_append_own _ rfl _ _ 23 rfl (w4.heap.size + 5) 50 i0 (.agg #[.int .i64 0, .int .i64 0, .string ⟨#[]⟩]) 3 32 Tryz.underlying23 hi hz0 hz1 hz2 rfl (by decide) _ _ _ rfl (HO7.out.alloc _) ⟨w7.heap.size, 0, none⟩ 1 1 (partCells ⟨M, 0, []⟩) rfl rfl (cells_newN _ _ (by first | rfl | simp) _ _) (partCells_one _) (by unfold maxLen; omega) (by omega) (by first | omega | (simp; omega)) ?_)
            | fail)
          intro v' w' hown' hg' _
          obtain ⟨p', c', rfl⟩ := own_slice hown'
          have HB9 : Hid (Below w4.heap.size w4 w') := (HB7.out.alloc HB7.out.size _).grown hg' (by simp; omega) fun k hk => by have := (HO7.out.lt k hk).1; omega
          have HS9 : Hid (stp w' w4.heap.size b u v (A + (K + D)) XV) := stp_grown (HS7.out.below ((Below.refl _ _).alloc (Nat.le_refl _) _)) hg' fun k hk => (HO7.out.lt k hk).1
          have HO9 : Hid (w'.ownsRow (w4.heap.size + 5) 50 3 (.slice p' (k + 1) c') (k + 1) (cellsP L ++ partCells ⟨M, 0, []⟩)) := hown'
          have hs9 := hg'.size
          rw [World.size_alloc] at hs9
          clear hown' hg'
          go_wp2
          go_roundw
          case rel =>
            refine ⟨k + 1, by go_num, L ++ [⟨M, 0, []⟩], by rw [List.length_append, HLL.out]; rfl, HTK.out, ?_, ?_, ?_, HB9.out, by omega⟩
            · have := HN.out; omega
            · rw [cellsP_snoc]
              exact HO9.out
            · rw [HA1.out, HXV.out]; exact HS9.out
          case measure => simp [intOf]; omega

        · by_cases hD : 0 < D
          · have HTK := HTK0
            have e1 : unit1 M ⟨K, D, U⟩ = ⟨0, M, []⟩ := by unfold unit1; rw [if_neg hK, if_pos hD]
            rw [e1] at HTK
            clear e1 HTK0
            go_wp2_with (first
              | (go_at_call 164; refine Calls.mono CX.out ?_; rintro e w7 ⟨rfl, hs7, hb7, hz7, ho7, hk7⟩; have HS7 : Hid (stp w7 w4.heap.size b u v (A + (K + D)) XV) := hs7; have HB7 : Hid (Below w4.heap.size w4 w7) := HBW.out.trans hb7; have HO7 : Hid (w7.ownsRow (w4.heap.size + 5) 50 3 (.slice pv k cv) k (cellsP L)) := ho7 _ _ _ _ _ _ (Nat.le_refl _) hsz0 HOW.out; have y0 := (cellOnF (hk7 wr.heap.size hne3 hne4 hltw) 0).trans x0; have y1 := (cellOnF (hk7 wr.heap.size hne3 hne4 hltw) 1).trans x1; have y2 := (cellOnF (hk7 wr.heap.size hne3 hne4 hltw) 2).trans x2; have hs57 := sz_le hz7; clear hs7 hb7 ho7 hk7)
              | (at_builtin; refine wpList_append_own _ rfl _ _ 23 rfl (w4.heap.size + 5) 50 i0 (.agg #[.int .i64 0, .int .i64 0, .string ⟨#[]⟩]) 3 32 Tryz.underlying23 hi hz0 hz1 hz2 rfl (by decide) _ _ _ rfl (HO7.out.alloc _) ⟨w7.heap.size, 0, none⟩ 1 1 (partCells ⟨0, M, []⟩) rfl rfl (cells_newN _ _ (by first | rfl | simp) _ _) (partCells_one _) (by unfold maxLen; omega) (by omega) (by first | omega | (simp; omega)) ?_)
              | fail)
            intro v' w' hown' hg' _
            obtain ⟨p', c', rfl⟩ := own_slice hown'
            have HB9 : Hid (Below w4.heap.size w4 w') := (HB7.out.alloc HB7.out.size _).grown hg' (by simp; omega) fun k hk => by have := (HO7.out.lt k hk).1; omega
            have HS9 : Hid (stp w' w4.heap.size b u v (A + (K + D)) XV) := stp_grown (HS7.out.below ((Below.refl _ _).alloc (Nat.le_refl _) _)) hg' fun k hk => (HO7.out.lt k hk).1
            have HO9 : Hid (w'.ownsRow (w4.heap.size + 5) 50 3 (.slice p' (k + 1) c') (k + 1) (cellsP L ++ partCells ⟨0, M, []⟩)) := hown'
            have hs9 := hg'.size
            rw [World.size_alloc] at hs9
            clear hown' hg'
            go_wp2
            go_roundw
            case rel =>
              refine ⟨k + 1, by go_num, L ++ [⟨0, M, []⟩], by rw [List.length_append, HLL.out]; rfl, HTK.out, ?_, ?_, ?_, HB9.out, by omega⟩
              · have := HN.out; omega
              · rw [cellsP_snoc]
                exact HO9.out
              · rw [HA1.out, HXV.out]; exact HS9.out
            case measure => simp [intOf]; omega

          · have HTK := HTK0
            have e1 : unit1 M ⟨K, D, U⟩ = ⟨0, 0, U⟩ := by unfold unit1; rw [if_neg hK, if_neg hD]
            rw [e1] at HTK
            clear e1 HTK0
            have CL : Hid (∀ wx, Calls Tryz.prog 88 #[.string ⟨U.toArray⟩] wx fun e w' => e = .returned (.string ⟨U.toArray⟩) ∧ Below wx.heap.size wx w') := fun wx => clone_any U hplq wx
            go_wp2_with (first
              | (go_at_call 164; refine Calls.mono CX.out ?_; rintro e w7 ⟨rfl, hs7, hb7, hz7, ho7, hk7⟩; have HS7 : Hid (stp w7 w4.heap.size b u v (A + (K + D)) XV) := hs7; have HB7 : Hid (Below w4.heap.size w4 w7) := HBW.out.trans hb7; have HO7 : Hid (w7.ownsRow (w4.heap.size + 5) 50 3 (.slice pv k cv) k (cellsP L)) := ho7 _ _ _ _ _ _ (Nat.le_refl _) hsz0 HOW.out; have y0 := (cellOnF (hk7 wr.heap.size hne3 hne4 hltw) 0).trans x0; have y1 := (cellOnF (hk7 wr.heap.size hne3 hne4 hltw) 1).trans x1; have y2 := (cellOnF (hk7 wr.heap.size hne3 hne4 hltw) 2).trans x2; have hs57 := sz_le hz7; clear hs7 hb7 ho7 hk7)
              | (go_at_call 88; refine (CL.out _).mono ?_; rintro e w8 ⟨rfl, hb8⟩; have HB8 : Hid (Below w4.heap.size w4 w8) := HB7.out.trans (hb8.mono HB7.out.size); have HS8 : Hid (stp w8 w4.heap.size b u v (A + (K + D)) XV) := HS7.out.below hb8; have HO8 : Hid (w8.ownsRow (w4.heap.size + 5) 50 3 (.slice pv k cv) k (cellsP L)) := own_below HO7.out hb8; have hs58 := hb8.size; clear hb8)
              | (at_builtin; refine wpList_append_own _ rfl _ _ 23 rfl (w4.heap.size + 5) 50 i0 (.agg #[.int .i64 0, .int .i64 0, .string ⟨#[]⟩]) 3 32 Tryz.underlying23 hi hz0 hz1 hz2 rfl (by decide) _ _ _ rfl (HO8.out.alloc _) ⟨w8.heap.size, 0, none⟩ 1 1 (partCells ⟨0, 0, U⟩) rfl rfl (cells_newN _ _ (by first | rfl | simp) _ _) (partCells_one _) (by unfold maxLen; omega) (by omega) (by first | omega | (simp; omega)) ?_)
              | fail)
            intro v' w' hown' hg' _
            obtain ⟨p', c', rfl⟩ := own_slice hown'
            have HB9 : Hid (Below w4.heap.size w4 w') := (HB8.out.alloc HB8.out.size _).grown hg' (by simp; omega) fun k hk => by have := (HO8.out.lt k hk).1; omega
            have HS9 : Hid (stp w' w4.heap.size b u v (A + (K + D)) XV) := stp_grown (HS8.out.below ((Below.refl _ _).alloc (Nat.le_refl _) _)) hg' fun k hk => (HO8.out.lt k hk).1
            have HO9 : Hid (w'.ownsRow (w4.heap.size + 5) 50 3 (.slice p' (k + 1) c') (k + 1) (cellsP L ++ partCells ⟨0, 0, U⟩)) := hown'
            have hs9 := hg'.size
            rw [World.size_alloc] at hs9
            clear hown' hg'
            go_wp2
            go_roundw
            case rel =>
              refine ⟨k + 1, by go_num, L ++ [⟨0, 0, U⟩], by rw [List.length_append, HLL.out]; rfl, HTK.out, ?_, ?_, ?_, HB9.out, by omega⟩
              · have := HN.out; omega
              · rw [cellsP_snoc]
                exact HO9.out
              · rw [HA1.out, HXV.out]; exact HS9.out
            case measure => simp [intOf]; omega

      · have hed : onEdge rs u (A + (K + D)) = false := Bool.eq_false_iff.2 hed
        have hX3 : by_ u (upTo rs u (A + (K + D))) ≠ A + (K + D) := of_decide_eq_false hed
        have cX := steps1_err w4.heap.size b rs u v A (by_ v (upTo rs u A)) (K + D) _ (hst.below hbx) HU.out HV.out (by omega) (by omega) hX3 (by omega) (by omega) hKK
        have CX : Hid _ := cX
        rw [turnZ, if_neg (by rw [hld, hed]; decide)] at htz
        have e2 : (turnZ rs u v 0 qs).2 = false := by rw [htz]
        have HRX : Hid (turnX rs u v qs = 10 ∧ turnO rs u v qs = []) := by
          show turnX rs u v qs = 10 ∧ turnO rs u v qs = []
          unfold turnX turnO
          rw [e2]; exact ⟨rfl, rfl⟩
        clear hown hst hbw' cX hA1' htz hA hbx hAN hts hqm hkr hX3 hed hKK hRLe e2 hLk hdk HQD
        go_wp2_with (first
          | (go_at_call 164; refine Calls.mono CX.out ?_; rintro e w7 ⟨rfl, hb7⟩; have HB7 : Hid (Below w.heap.size w w7) := HB4.out.trans ((HBW.out.trans hb7).mono HB4.out.size); clear hb7)
          | fail)
        go_ret2
        refine ⟨.slice none 0 0, ?_, ?_, HB7.out⟩
        · rw [HRX.out.1]; rfl
        · rw [HRX.out.2]; exact ⟨none, 0, rfl, Nat.le_refl _, Nat.zero_le _, fun h => absurd rfl h⟩
    · obtain rfl : k = n := by have := HN.out; omega
      have e : qs.drop k = [] := List.drop_of_length_le (by rw [HN.out]; exact Nat.le_refl _)
      rw [e] at htz
      have htz2 : turnZ rs u v 0 qs = (L, true) := by rw [htz]; simp [turnZ]
      have HRX : Hid (turnX rs u v qs = 0 ∧ turnO rs u v qs = L) := by
        show turnX rs u v qs = 0 ∧ turnO rs u v qs = L
        unfold turnX turnO
        rw [htz2]; exact ⟨rfl, rfl⟩
      have HO : Hid (wr.ownsRow (w4.heap.size + 5) 50 3 (.slice pv k cv) k (cellsP L)) := hown
      have HB : Hid (Below w.heap.size w wr) := HB4.out.trans (hbw'.mono HB4.out.size)
      have hop : opAt wr (.slice pv k cv) L := by
        have := HO.out
        rw [← hLk] at this ⊢
        exact opAt_own this
      have HOPW : Hid (opAt wr (.slice pv k cv) L) := hop
      clear hop hown e hst hbw' htz htz2 hLk
      go_wp2
      go_ret2
      refine ⟨.slice pv k cv, ?_, ?_, HB.out⟩
      · rw [HRX.out.1]; rfl
      · rw [HRX.out.2]; exact HOPW.out
end Go.Proofs.YtldhbjmillfjgabGreatDoor

namespace Go.Proofs.YtldhbjmillfjgabGreatDoor
open Go.RowKit
set_option linter.unusedVariables false

/-- What the document's gathering keeps is at most so much. -/
structure BdK (s : KSt) (T k : Nat) : Prop where
  put : s.put.length ≤ T
  d0 : 0 ≤ s.drop
  dk : s.drop ≤ k
  k0 : 0 ≤ s.keep
  kk : s.keep ≤ k
  len : s.out.length ≤ 3 * k
theorem tellP_len (s : NSt) : (tellP s).length ≤ s.out.length + 2 := by
  unfold tellP
  simp only [List.length_append]
  split <;> split <;> simp
theorem BdK.step {s : KSt} {T k : Nat} (h : BdK s T k) (x : List UInt8 × Bool) : BdK (stepK s x) (T + x.1.length) (k + 1) := by
  obtain ⟨q, d⟩ := x
  obtain ⟨h1, h2, h3, h4, h5, h6⟩ := h
  have hf : (flushK s q d).put.length ≤ T + q.length ∧ (flushK s q d).drop = s.drop ∧ 0 ≤ (flushK s q d).keep ∧ (flushK s q d).keep ≤ k ∧ (flushK s q d).out.length ≤ 3 * k + 1 := by
    unfold flushK
    split
    · refine ⟨by show (s.put ++ q).length ≤ _; rw [List.length_append]; omega, rfl, ?_, ?_, ?_⟩
      · show 0 ≤ if 0 < s.keep then 0 else s.keep; split <;> omega
      · show (if 0 < s.keep then 0 else s.keep) ≤ _; split <;> omega
      · show (if 0 < s.keep then s.out ++ [⟨s.keep, 0, []⟩] else s.out).length ≤ _
        split
        · rw [List.length_append, List.length_singleton]; omega
        · omega
    · exact ⟨by omega, rfl, h4, h5, by omega⟩
  obtain ⟨f1, f2, f3, f4, f5⟩ := hf
  show BdK (byteK (flushK s q d) d) (T + q.length) (k + 1)
  generalize flushK s q d = t at *
  unfold byteK
  cases d with
  | true => exact ⟨f1, by show 0 ≤ t.drop + 1; omega, by show t.drop + 1 ≤ _; omega, f3, by show t.keep ≤ _; omega, by show t.out.length ≤ _; omega⟩
  | false =>
    have : (tellP ⟨t.out, t.put, t.drop⟩).length ≤ t.out.length + 2 := tellP_len _
    exact ⟨Nat.zero_le _, Int.le_refl _, by show (0 : Int) ≤ _; omega, by show 0 ≤ t.keep + 1; omega, by show t.keep + 1 ≤ _; omega, by show (tellP ⟨t.out, t.put, t.drop⟩).length ≤ _; omega⟩
end Go.Proofs.YtldhbjmillfjgabGreatDoor

namespace Go.Proofs.YtldhbjmillfjgabGreatDoor
open Go.RowKit
set_option linter.unusedVariables false

theorem opAt_grown {w w' : World} {v : Value} {ps : List Pt} (h : opAt w v ps) (hb : Below w.heap.size w w') : opAt w' v ps := opAt_below h hb (Nat.le_refl _)

end Go.Proofs.YtldhbjmillfjgabGreatDoor

namespace Go.Proofs.YtldhbjmillfjgabGreatDoor
open Go.RowKit
set_option linter.unusedVariables false
attribute [local go_sem] Oper.semAt_some

theorem over_any (p : Option Addr) (n c : Nat) (s : ByteArray) (w : World) : Calls Tryz.prog 82 #[.slice p n c, .string s] w fun e w' => e = .returned (.func (.func 138) #[] #[.pointer (some ⟨w.heap.size + 1, 0, none⟩), .pointer (some ⟨w.heap.size, 0, none⟩)]) ∧ w' = (w.alloc (.cells #[.slice p n c] 23)).alloc (.cells #[.string s] 9) := by
  go_enter Tryz.func82, Tryz.ntmps82
  go_wp2
  go_ret
  exact ⟨rfl, rfl⟩

/-- The parts of an operation, each with its piece of the text. -/
def pcs : List Pt → List UInt8 → List (Pt × List UInt8)
  | [], _ => []
  | p :: ps, s => (p, s.take (lenP p).toNat) :: pcs ps (s.drop (lenP p).toNat)
/-- What is left of the text behind so many parts. -/
def leftP : List Pt → List UInt8 → List UInt8
  | [], s => s
  | p :: ps, s => leftP ps (s.drop (lenP p).toNat)

theorem leftP_snoc (ps : List Pt) (p : Pt) (s : List UInt8) : leftP (ps ++ [p]) s = (leftP ps s).drop (lenP p).toNat := by
  induction ps generalizing s with
  | nil => rfl
  | cons q ps ih => exact ih _
theorem pcs_append (a b : List Pt) (s : List UInt8) : pcs (a ++ b) s = pcs a s ++ pcs b (leftP a s) := by
  induction a generalizing s with
  | nil => rfl
  | cons q a ih => simp [pcs, leftP, ih]
/-- Each part keeps, or drops, no more than is left. -/
def fitsP : List Pt → List UInt8 → Prop
  | [], _ => True
  | p :: ps, s => 0 ≤ p.keep ∧ 0 ≤ p.drop ∧ lenP p ≤ s.length ∧ fitsP ps (s.drop (lenP p).toNat)
theorem fitsP_at (ps : List Pt) (s : List UInt8) (h : fitsP ps s) (k : Nat) (hk : k < ps.length) : 0 ≤ ps[k].keep ∧ 0 ≤ ps[k].drop ∧ lenP ps[k] ≤ (leftP (ps.take k) s).length := by
  induction ps generalizing s k with
  | nil => simp at hk
  | cons p ps ih =>
    obtain ⟨h1, h2, h3, h4⟩ := h
    cases k with
    | zero => exact ⟨h1, h2, h3⟩
    | succ k => exact ih _ h4 k (by simpa using hk)
theorem leftP_le (ps : List Pt) (s : List UInt8) : (leftP ps s).length ≤ s.length := by
  induction ps generalizing s with
  | nil => exact Nat.le_refl _
  | cons p ps ih =>
    have := ih (s.drop (lenP p).toNat)
    rw [List.length_drop] at this
    show (leftP ps _).length ≤ _
    omega

theorem cut_head (l : List UInt8) (n : Nat) : (ByteArray.mk l.toArray).extract 0 n = ⟨(l.take n).toArray⟩ := by
  apply ByteArray.ext
  simp
theorem cut_tail (l : List UInt8) (n : Nat) : (ByteArray.mk l.toArray).extract n l.length = ⟨(l.drop n).toArray⟩ := by
  apply ByteArray.ext
  have : List.take (l.length - n) (l.drop n) = l.drop n := List.take_of_length_le (by rw [List.length_drop]; exact Nat.le_refl _)
  simp [this]

set_option maxRecDepth 100000 in
set_option maxHeartbeats 2000000 in
theorem over_seq (v : Value) (ps : List Pt) (s : List UInt8) (hs : s.length < 1000000000) (hl : ps.length < 10000000) (hf : fitsP ps s) (R : Nat → Prop) (sb : Nat) (W : World)
    (h0 : W.cell? ⟨sb, 0, none⟩ = some v) (h1 : W.cell? ⟨sb + 1, 0, none⟩ = some (.string ⟨s.toArray⟩)) (hop : opAt W v ps) (hR0 : R sb) (hR1 : R (sb + 1)) (hRv : ∀ b o n c, v = .slice (some ⟨b, o, none⟩) n c → ps ≠ [] → R b) (hRl : ∀ x, R x → x < W.heap.size) (Z : World → Prop) :
    SeqOwn Tryz.prog 138 #[.pointer (some ⟨sb + 1, 0, none⟩), .pointer (some ⟨sb, 0, none⟩)] (fun _ (x : Pt × List UInt8) => #[partV x.1, .string ⟨x.2.toArray⟩]) (fun A B => Below A.heap.size A B ∧ W.heap.size ≤ A.heap.size) (fun A B => A.heap.size ≤ B.heap.size ∧ ∀ x, R x → B.heap[x]? = A.heap[x]?) Z
      (fun xs => xs = pcs ps s) (fun pre => ∃ rest, pcs ps s = pre ++ rest) W := by
  intro l J Jx hZ hZx hJ hJx hR hj0
  have hlt0 := World.block_lt_of_cell? W _ h0
  have hlt1 := World.block_lt_of_cell? W _ h1
  obtain ⟨p, c, rfl, r1, r2, r3⟩ := hop
  obtain ⟨n, hn⟩ : ∃ n, n = ps.length := ⟨_, rfl⟩
  rw [← hn] at r1 hl h0 hRv
  have HN : Hid (n = ps.length) := hn
  have R3 : Hid (ps ≠ [] → ∃ b o, p = some ⟨b, o, none⟩ ∧ b < W.heap.size ∧ ∀ i q, ps[i]? = some q →
    W.cell? ⟨b, o + i * 3, none⟩ = some (.int .i64 q.keep) ∧ W.cell? ⟨b, o + i * 3 + 1, none⟩ = some (.int .i64 q.drop) ∧ W.cell? ⟨b, o + i * 3 + 2, none⟩ = some (.string ⟨q.put.toArray⟩)) := r3
  have HF : Hid (fitsP ps s) := hf
  have HSL : Hid (s.length < 1000000000) := hs
  have HRV : Hid (∀ b o, p = some ⟨b, o, none⟩ → ps ≠ [] → R b) := fun b o e => hRv b o n c (by rw [e])
  have HRL : Hid (∀ x, R x → x < W.heap.size) := hRl
  clear r3 hf hn hs hRv hRl
  refine callsIn_of_wp Tryz.func138 rfl trivial ?_ rfl
  simp only [Tryz.ntmps138, List.size_toArray, List.length_cons, List.length_nil, Nat.reduceAdd, Nat.reduceSub, Array.replicate_succ, Array.replicate_zero, List.push_toArray, List.append_toArray, List.nil_append, List.cons_append]
  gi_wp2
  gi_loopw [4, 11] (fun rest i wr => ∃ (k : Nat), k ≤ n ∧ i = .int .i64 k ∧ rest = .string ⟨(leftP (ps.take k) s).toArray⟩ ∧ W.heap.size ≤ wr.heap.size ∧ (∀ x, R x → wr.heap[x]? = W.heap[x]?) ∧ J (pcs (ps.take k) s) wr) (fun _ i _ => n - (intOf i).toNat)
  case atStart => exact ⟨0, Nat.zero_le _, rfl, rfl, Nat.le_refl _, fun _ _ => rfl, hj0⟩
  case round =>
    obtain ⟨k, hk, rfl, rfl, hsz, hkeep, hjp⟩ := hrel
    by_cases hlt : k < n
    · have hkr : k < ps.length := by rw [← HN.out]; exact hlt
      have hne : ps ≠ [] := by intro e; rw [e] at hkr; exact absurd hkr (Nat.not_lt_zero _)
      obtain ⟨b, o, rfl, hbw, hcell⟩ := R3.out hne
      obtain ⟨c0, c1, c2⟩ := hcell k ps[k] (List.getElem?_eq_getElem hkr)
      have hkb := hkeep b (HRV.out b o rfl hne)
      have g0 := (World.cell?_of_block (w := W) (w' := wr) (a := ⟨b, o + k * 3, none⟩) hkb).trans c0
      have g1 := (World.cell?_of_block (w := W) (w' := wr) (a := ⟨b, o + k * 3 + 1, none⟩) hkb).trans c1
      have g2 := (World.cell?_of_block (w := W) (w' := wr) (a := ⟨b, o + k * 3 + 2, none⟩) hkb).trans c2
      obtain ⟨f1, f2, f3⟩ := fitsP_at ps s HF.out k hkr
      have hll := leftP_le (ps.take k) s
      have hs9 := HSL.out
      have hts : ps.take (k + 1) = ps.take k ++ [ps[k]] := List.take_succ_eq_append_getElem hkr
      have hpn : pcs (ps.take (k + 1)) s = pcs (ps.take k) s ++ [(ps[k], (leftP (ps.take k) s).take (lenP ps[k]).toNat)] := by rw [hts, pcs_append]; rfl
      have hln : leftP (ps.take (k + 1)) s = (leftP (ps.take k) s).drop (lenP ps[k]).toNat := by rw [hts, leftP_snoc]
      have hSp : ∃ rest, pcs ps s = (pcs (ps.take k) s ++ [(ps[k], (leftP (ps.take k) s).take (lenP ps[k]).toNat)]) ++ rest := by
        rw [← hpn]
        refine ⟨pcs (ps.drop (k + 1)) (leftP (ps.take (k + 1)) s), ?_⟩
        rw [← pcs_append, List.take_append_drop]
      generalize ps[k] = q at *
      generalize leftP (ps.take k) s = T at *
      obtain ⟨K, D, U⟩ := q
      have hlen : lenP ⟨K, D, U⟩ = K + D := rfl
      rw [hlen] at f3 hpn hln hSp
      simp only at f1 f2 g0 g1 g2
      obtain ⟨m, hm⟩ : ∃ m : Nat, K + D = m := ⟨(K + D).toNat, by omega⟩
      have hm' : (K + D).toNat = m := by omega
      rw [hm'] at hpn hln hSp
      rw [hm] at f3
      have hwm : IntKind.i64.wrap (K + D) = (m : Int) := by rw [IntKind.wrap_i64]; omega
      have hmT : m ≤ T.length := by omega
      have hmi : (m : Int) ≤ (T.length : Int) := by omega
      have hm0 : (0 : Int) ≤ (m : Int) := by omega
      have e1 := cut_head T m
      have e2 := cut_tail T m
      have HJP : Hid (J (pcs (ps.take k) s) wr) := hjp
      have HSP : Hid (∃ rest, pcs ps s = (pcs (ps.take k) s ++ [(⟨K, D, U⟩, T.take m)]) ++ rest) := hSp
      have HPN : Hid (pcs (ps.take (k + 1)) s = pcs (ps.take k) s ++ [(⟨K, D, U⟩, T.take m)]) := hpn
      have HLN : Hid (leftP (ps.take (k + 1)) s = T.drop m) := hln
      have HKEEP : Hid (∀ x, R x → wr.heap[x]? = W.heap[x]?) := hkeep
      clear hcell c0 c1 c2 hts hpn hln hSp hjp hlen hkb hkeep hm' f3 hll hs9 hm
      have hbA : Below wr.heap.size wr (wr.alloc (.cells #[.int .i64 K, .int .i64 D, .string ⟨U.toArray⟩] 50)).drew := ((Below.refl _ _).alloc (Nat.le_refl _) _).drew
      obtain ⟨fn, tmps, assign, body, hyy, hRd⟩ := hR (pcs (ps.take k) s) (⟨K, D, U⟩, T.take m) _ (hJ _ _ _ HJP.out ⟨hbA, hsz⟩) HSP.out
      unfold partV at hyy
      gi_wp2
      have hRd2 := hRd.mono (fun e A' HH => (⟨HH, by rcases HH with ⟨rfl, _⟩ | ⟨rfl, _⟩; exact ⟨true, rfl⟩; exact ⟨false, rfl⟩⟩ : _ ∧ ∃ bb : Bool, e = .returned (.bool bb)))
      gi_region_with (first | (refine ⟨rfl, hRd2.mono ?_⟩; rintro e A' ⟨HH, bb, rfl⟩))
      all_goals
        have hcase : (bb = true ∧ J (pcs (ps.take k) s ++ [(⟨K, D, U⟩, T.take m)]) A' ∧ wr.heap.size ≤ A'.heap.size ∧ ∀ x, R x → A'.heap[x]? = wr.heap[x]?) ∨ (bb = false ∧ Jx (pcs (ps.take k) s ++ [(⟨K, D, U⟩, T.take m)]) A') := by
          rcases HH with ⟨e1, e2, e3, e4⟩ | ⟨e1, e2, _⟩
          · simp only [Ending.returned.injEq, Value.bool.injEq] at e1
            refine .inl ⟨e1, e2, Nat.le_trans hbA.size e3, fun x hx => (e4 x hx).trans ?_⟩
            have hxl : x < wr.heap.size := by
              rcases Nat.lt_or_ge x wr.heap.size with h | h
              · exact h
              · exact absurd (HRL.out x hx) (by have := hsz; omega)
            exact hbA.block x hxl
          · simp only [Ending.returned.injEq, Value.bool.injEq] at e1
            exact .inr ⟨e1, e2⟩
        clear HH hRd hRd2 hyy
        rcases hcase with ⟨rfl, hj2, hs2, hk2⟩ | ⟨rfl, hjx⟩
        · have HJ2 : Hid (J (pcs (ps.take (k + 1)) s) A') := by show J _ _; rw [HPN.out]; exact hj2
          have HK2 : Hid (∀ x, R x → A'.heap[x]? = W.heap[x]?) := fun x hx => (hk2 x hx).trans (HKEEP.out x hx)
          have hs3 : W.heap.size ≤ A'.heap.size := Nat.le_trans hsz hs2
          clear hj2 hk2 g0 g1 g2 hbA
          gi_wp2
          go_roundw
          case rel => exact ⟨k + 1, by omega, by go_num, by rw [HLN.out], hs3, HK2.out, HJ2.out⟩
          case measure => simp [intOf]; omega
        · have HJX : Hid (Jx (pcs (ps.take k) s ++ [(⟨K, D, U⟩, T.take m)]) A') := hjx
          clear hjx g0 g1 g2 hbA
          gi_wp2
          refine bodyPost_ret (results_none rfl _ _ _) rfl ?_
          exact ⟨⟨_, rfl⟩, .inr ⟨_, HSP.out, HJX.out⟩⟩
    · have e : ps.take k = ps := List.take_of_length_le (by rw [← HN.out]; omega)
      rw [e] at hjp
      have HJ : Hid (J (pcs ps s) wr) := hjp
      clear e hjp R3 HF
      gi_wp2
      go_end0
      exact ⟨⟨_, rfl⟩, .inl ⟨_, rfl, HJ.out⟩⟩
end Go.Proofs.YtldhbjmillfjgabGreatDoor
