/-
  A part of the texts that the proof uses.
-/
import Derived.Test.YtbkeomcicobohaaGreatDoorProg
import Derived.Lib.FieldsP
import Derived.Lib.ParseIntB
import Derived.Lib.ItoaNum
import Derived.Lib.Join
import Derived.WalkKit
import Derived.WalkSpells
import Derived.WalkLawsBesides
import Derived.LaidEql
import Derived.Stop.Asserts
import Derived.RowKitTokens
import Derived.Deep.QuietTactic
import Derived.BigQuiet
import Derived.Shelf.Utf8.AppendRunePlain
import Derived.Shelf.Unicode.DecodeAny
import Derived.Shelf.Small.Utf8
import Derived.Lib.DecodeN
import Derived.Lib.RuneBytes
import Derived.Lib.Strings
import Derived.OwnWalk
import Derived.Lib.QuoteBits
import Derived.Laws.IdiomStrings
import Derived.Lib.UnsafeStr
import Derived.Deep.RegionWith
import Derived.Shelf.Strconv.ParseIntPublic10
import Derived.Shelf.Strconv.Itoa4
import Derived.Shelf.LaysM
import Derived.Shelf.LaysC
import Derived.Lib.SmallJoins
import Derived.WalkSmall
import Derived.Lib.ItoaLen
import Derived.OrdersIn
import Derived.CallsIn
import Derived.TacticsIn
import Derived.RangeFuncCalls
import Derived.RegionTactic
import Derived.Lib.Builder
import Derived.Shelf.Pu.Clone
import Derived.RangeFuncNested
import Derived.RangeFuncBound
import Derived.RangeFuncLeaves
import Derived.OwnWalkIn
import Derived.TacticsInMore
import Derived.LoopNIn
import Derived.LoopIn
import Derived.RangeFuncRecord
import Derived.Lib.AppendStr
import Derived.Laws.OwnMore
import Derived.Maps.AppendAt
import Derived.Laws.EntriesVeiled
import Derived.Shelf.Unicode.ValidAny
import Derived.Shelf.Strconv.Clone
import Derived.Stop.RegionWithIn
import Derived.Shelf.Strings.BuilderCap
import Derived.Shelf.Strings.BuilderK
import Derived.Lib.OthersKept
import Derived.Lib.FrozenHead
import Derived.Deep.LoopGhost
import Derived.Laws.AppendOwnNone
import Derived.Lib.ConvBytes
import Derived.Maps.OwnOps
import Derived.Test.YtbkeomcicobohaaGreatDoorRows
import Derived.Deep.Slices
import Derived.Deep.Strs
import Derived.ChangeSame
import Derived.OpenShut
import Derived.Deep.Cut
import Derived.Maps.OwnSet
import Derived.Maps.Views
import Derived.RegionDies
import Derived.Shelf.Strings.OnBuilder
import Derived.Shelf.Small.Wraps
import Derived.Lib.SliceRun
import Derived.Shelf.SlIter.Nil
import Derived.Shelf.SortM.Plain
import Derived.Shelf.SortM.SortNone
import Derived.Ground.GgzProg
import Derived.Ground.SlgmProg
import Derived.Recover
import Derived.Laws.Pointers
import Derived.WideMake
import Derived.Shelf.Strings.FieldsFuncGrows
import Derived.Shelf.Strings.Cut
import Derived.Shelf.Strings.Prefix
import Derived.Lib.IndexMore
set_option maxRecDepth 100000
set_option maxHeartbeats 40000000
set_option linter.unusedVariables false
namespace Go.Proofs.YtbkeomcicobohaaGreatDoor
open Go.Proofs.Tryz Go.RowKit Go.Maps
theorem nlr (n : Nat) : n ≤ n := Nat.le_refl n
theorem chp {w : World} {b : Nat} {cs : Array Value} {T : TypeId} {fr : Nat × Nat} (hb : w.heap[b]? = some (.cells cs T fr)) (j : Nat) : w.cell? ⟨b, j, none⟩ = cs[j]? := Lib.cell_of_heap hb j
theorem cQ {w : World} {b : Nat} {cs : Array Value} {T : TypeId} {fr : Nat × Nat} (hb : w.heap[b]? = some (.cells cs T fr)) (j : Nat) {v : Value} (hv : cs[j]? = some v) : w.cell? ⟨b, j, none⟩ = some v := (Lib.cell_of_heap hb j).trans hv
theorem fZ {w : World} {b : Nat} {cs : Array Value} {T : TypeId} (h : w.heap[b]? = some (.cells cs T (0, 0))) (j : Nat) : w.frozen? ⟨b, j, none⟩ = false := by simp [World.frozen?, h]
theorem brf (n : Nat) (w : World) : Below n w w := Below.refl n w
theorem wsa (w : World) (o : Obj) : (w.alloc o).heap.size = w.heap.size + 1 := World.size_alloc w o
theorem hdz {p : Prop} (h : p) : Hid p := h
theorem alt {α : Type} {xs : Array α} {i : Nat} {a : α} (h : xs[i]? = some a) : i < xs.size := (Array.getElem?_eq_some_iff.1 h).1
theorem llt {α : Type} {xs : List α} {i : Nat} {a : α} (h : xs[i]? = some a) : i < xs.length := (List.getElem?_eq_some_iff.1 h).1
theorem lgg {α : Type} {xs : List α} {i : Nat} (h : i < xs.length) : xs[i]? = some xs[i] := List.getElem?_eq_getElem h
theorem blt (w : World) (p : Addr) {v : Value} (h : w.cell? p = some v) : p.block < w.heap.size := World.block_lt_of_cell? w p h
theorem osi {α : Type} {a b : α} (h : some a = some b) : a = b := Option.some.inj h
abbrev Ad (b j:Nat):Addr:=⟨b,j,none⟩
abbrev Pd (b j:Nat):Value:=.pointer (some ⟨b,j,none⟩)
abbrev I6 (n:Int):Value:=.int .i64 n
abbrev Sx (x:List UInt8):Value:=.string ⟨x.toArray⟩
abbrev Bw (w x:World):Prop:=Below w.heap.size w x
abbrev Rt (w:World) (v:Value):Ending->World->Prop:=λe x=>e=.returned v/\Below w.heap.size w x
abbrev Cg:=Calls prog
abbrev Sl (b n c:Nat):Value:=.slice (some ⟨b,0,none⟩) n c
abbrev Oc (a:Array Value) (T:TypeId):Obj:=.cells a T (0,0)
theorem zA (w:World) (o:Obj):Below w.heap.size w (w.alloc o):=(Below.refl _ w).alloc (Nat.le_refl _) o
theorem zC {n:Nat}{w x:World}(h:Below n w x)(b j:Nat)(l:b<n):x.cell? (Ad b j)=w.cell? (Ad b j):=h.cell (p:=(Ad b j)) l
end Go.Proofs.YtbkeomcicobohaaGreatDoor
namespace Go.Proofs.YtbkeomcicobohaaGreatDoor
open Go.Proofs.Tryz Go.RowKit Go.Maps
structure Pt where
 keep:Int
 drop:Int
 put:List UInt8
deriving DecidableEq
structure NSt where
 out:List Pt
 put:List UInt8
 drop:Int
deriving DecidableEq
def JaG (s:NSt):List Pt:=s.out++((if s.put=[] then [] else [⟨0,0,s.put⟩])++(if s.drop=0 then [] else [⟨0,s.drop,[]⟩]))
def Jbo (l:List Pt) (k:Int):List Pt:=match l.getLast? with
 | some p=>if 0<p.keep then l.dropLast++[⟨p.keep+k,p.drop,p.put⟩] else l++[⟨k,0,[]⟩]
 | none=>l++[⟨k,0,[]⟩]
def addP (s:NSt) (p:Pt):NSt:=if p.keep=0 then ⟨s.out,s.put++p.put,s.drop+p.drop⟩ else ⟨Jbo (JaG ⟨s.out,s.put++p.put,s.drop+p.drop⟩) p.keep,[],0⟩
def nst0:NSt:=⟨[],[],0⟩
def Jap (op:List Pt):List Pt:=JaG (op.foldl addP nst0)
theorem JlO(l:List Pt)(a b:Int)(ha:0<a):Jbo (Jbo l a) b=Jbo l (a+b):=by
 unfold Jbo
 cases h:l.getLast? with
 | none=>simp[ha]
 | some p =>
  by_cases hp:0<p.keep
  . have h2:0<p.keep+a:=by omega
    simp[hp,h2,Int.add_assoc]
  . simp[hp,ha]
theorem Jkp(l:List Pt):JaG ⟨l,[],0⟩=l:=by simp[JaG]
theorem JjM(s:NSt):addP s ⟨0,0,[]⟩=s:=by simp[addP]
theorem JrK(s:NSt)(a b:Int):addP (addP s ⟨0,a,[]⟩) ⟨0,b,[]⟩=addP s ⟨0,a+b,[]⟩:=by simp[addP,Int.add_assoc]
theorem JtZ(s:NSt)(a b:List UInt8):addP (addP s ⟨0,0,a⟩) ⟨0,0,b⟩=addP s ⟨0,0,a++b⟩:=by simp[addP]
theorem Jlu(s:NSt)(a b:Int)(ha:0<a)(hb:0<=b):addP (addP s ⟨a,0,[]⟩) ⟨b,0,[]⟩=addP s ⟨a+b,0,[]⟩:=by
 have h1:a≠0:=by omega
 have h2:a+b≠0:=by omega
 by_cases h:b=0
 . subst h;simp[addP,h1]
 . simp[addP,h,h1,h2,Jkp,JlO _ a b ha]
def Joj (d:Bool):Pt:=if d then ⟨0,1,[]⟩ else ⟨1,0,[]⟩
abbrev GSt:=List (List UInt8×Bool)×List UInt8
def tick (d:Bool) (g:GSt):GSt:=(g.1++[(g.2,d)],[])
def Je8 (d:Bool):Nat->GSt->GSt
 | 0,g=>g
 | n+1,g=>Je8 d n (tick d g)
def Jcp (g:GSt) (p:Pt):GSt:=Je8 false p.keep.toNat (Je8 true p.drop.toNat (g.1,g.2++p.put))
def JdJ (op:List Pt):GSt:=op.foldl Jcp ([],[])
theorem Jf3(d:Bool):∀(n:Nat)(g:GSt),(Je8 d n g).1.length=g.1.length+n
 | 0,_=>rfl
 | n+1,g=>by rw[Je8,Jf3 d n,tick,List.length_append,List.length_singleton];omega
theorem Jko(d:Bool):∀(n:Nat)(g:GSt),Je8 d (n+1) g=tick d (Je8 d n g)
 | 0,_=>rfl
 | n+1,g=>by rw[Je8,Jko d n,Je8]
def lenP (p:Pt):Int:=p.keep+p.drop
theorem Jow(g:GSt)(p:Pt)(hk:0<=p.keep)(hd:0<=p.drop):((Jcp g p).1.length:Int)=g.1.length+lenP p:=by
 unfold Jcp lenP;rw[Jf3,Jf3];show((g.1.length+_+_:Nat):Int)=_;omega
/-! words -/
def Jgx (r:Nat):Bool:=decide (r=32)
def Jcx (s:List UInt8):List (List UInt8):=(Lib.goFieldsP Jgx ⟨s.toArray⟩).map (·.data.toList)
def numW (w:List UInt8):Option Int :=
 match Lib.parseIntB 64 w with
 | .ok n=>if Lib.itoa n=w then some n else none
 | _=>none
def Jdq:List (List UInt8)->Option (List Int)
 | []=>some []
 | w :: ws=>match numW w with
  | some n=>(Jdq ws).map (n :: ·)
  | none=>none
def inC1 (c:UInt8):UInt8:=if c=95 then 32 else if c=47 then 10 else c
def JsL (c:UInt8):UInt8:=if c=32 then 95 else if c=10 then 47 else c
def Ja2 (w:List UInt8):List UInt8:=if w=[45] then [] else w.map inC1
def Jh5 (s:List UInt8):List UInt8:=if s=[] then [45] else s.map JsL
def Jdg (w:List UInt8):Option Pt :=
 match w with
 | []=>none
 | c :: r =>
  if c=107 then (numW r).map λn=>⟨n,0,[]⟩
  else if c=100 then (numW r).map λn=>⟨0,n,[]⟩
  else if c=112/\r≠[] then some ⟨0,0,Ja2 r⟩
  else none
def Jd7:List (List UInt8)->Option (List Pt)
 | []=>some []
 | w :: ws=>match Jdg w with
  | some p=>(Jd7 ws).map (p :: ·)
  | none=>none
def JcV (l:List Int):List UInt8:=Lib.join (l.map Lib.itoa) [32]
def errT (e:Int):List UInt8:=[101,114,114,111,114,32]++Lib.itoa e
/-! lines -/
def cutD:List UInt8->List (List UInt8)
 | []=>[[]]
 | c :: r=>if c=10 then [] :: cutD r else match cutD r with
  | x :: xs=>(c :: x) :: xs
  | []=>[[c]]
theorem cutD_ne(s:List UInt8):cutD s≠[]:=by
 cases s with
 | nil=>simp[cutD]
 | cons c r =>
  unfold cutD
  split
  . simp
  . split<;>simp
theorem JtC(a b:List UInt8):cutD (a++10 :: b)=cutD a++cutD b:=by
 induction a with
 | nil=>simp[cutD]
 | cons c r ih =>
  simp only[List.cons_append,cutD,ih]
  by_cases hc:c=10
  . rw[if_pos hc,if_pos hc];rfl
  . rw[if_neg hc,if_neg hc]
    cases h:cutD r with
    | nil=>exact absurd h (cutD_ne r)
    | cons x xs=>simp
def JcT (s:List UInt8):List UInt8:=if s.getLast?=some 10 then s.dropLast else s
theorem JmE(a:List UInt8):JcT (a++[10])=a:=by
 unfold JcT;rw[List.getLast?_concat,if_pos rfl,List.dropLast_concat]
theorem Jq6(a b:List UInt8)(hb:b≠[]):JcT (a++10 :: b)=a++10 :: JcT b:=by
 have e:(a++10 :: b).getLast?=b.getLast?:=by
  rw[List.getLast?_append]
  cases h:b with
  | nil=>exact absurd h hb
  | cons x xs=>simp[List.getLast?_eq_some_getLast]
 unfold JcT;rw[e]
 split
 . cases h:b with
   | nil=>exact absurd h hb
   | cons x xs=>rw[List.dropLast_append_of_ne_nil (by simp)];simp
 . rfl
/-! a session: whatever a line does to a state -/
def runD {σ:Type} (f:σ->List UInt8->σ×List UInt8):σ->List (List UInt8)->List UInt8
 | _,[]=>[]
 | s,x :: xs=>(f s x).2++10 :: runD f (f s x).1 xs
theorem JpB{σ:Type}(f:σ->List UInt8->σ×List UInt8):∀(a b:List (List UInt8))(s:σ),∃s',runD f s (a++b)=runD f s a++runD f s' b
 | [],b,s=>⟨s,rfl⟩
 | x :: xs,b,s=>by
  obtain⟨s',h⟩:=JpB f xs b (f s x).1;exact⟨s',by simp[runD,h]⟩
theorem Jo6{σ:Type}(f:σ->List UInt8->σ×List UInt8)(s:σ)(a b:List UInt8) :
    ∃r,runD f s (cutD (JcT (a++10 :: b)))=runD f s (cutD (JcT (a++[10])))++r:=by
 rw[JmE]
 cases hb:b with
 | nil=>exact⟨[],by rw[JmE];simp⟩
 | cons x xs =>
  rw[Jq6 a (x :: xs) (by simp),JtC];obtain⟨s',h⟩:=JpB f (cutD a) (cutD (JcT (x :: xs))) s;exact⟨_,h⟩
section
open Go.Extern.Stop Go.Stop Go.Extern
theorem Jlh(t:Addr)(w:World):(ReflectliteValue.unpack (.iface 200 (.pointer (some t)))).run prog w
    = .ok (.agg #[Pd 9 200,Pd w.heap.size 0,.int .u64 150]) (w.alloc (Oc #[.pointer (some t)] 200)):=by kernel_rfl
theorem JtO(a:Addr)(w:World):(ReflectliteValue.methodAny (ReflectliteValue.valueError "reflectlite.Value.Type" 0) (λt _ _ _=>ReflectliteType.toType t) #[.agg #[Pd 9 200,.pointer (some a),.int .u64 150]]).run Tryz.prog w
    = .ok (.iface 297 (.agg #[Pd 9 200])) w:=by kernel_rfl
theorem Jhu(h:Value)(w:World):(Go.method 458 297 (.agg #[h]) "Kind").run Tryz.prog w=.ok (289,h) w:=by kernel_rfl
theorem Jqj(w:World):((ReflectliteType.abiMethod λt=>(λa:Nat=>Value.int IntKind.u8 (a:Int)) <$> Rtype.kind t) #[Pd 9 200]).run prog w=.ok (.int .u8 22) w:=by kernel_rfl
theorem Jqk(w:World):((ReflectliteType.abiMethod λt=>(λa:Nat=>Value.int IntKind.u8 (a:Int)) <$> Rtype.kind t) #[Pd 9 25]).run prog w=.ok (.int .u8 2) w:=by kernel_rfl
theorem Jwn(z:Sem Value)(f:TypeId->Addr->Nat->Nat->Sem Value)(v:Value) :
    ReflectliteValue.method z f #[v]=(do match ← ReflectliteValue.parts v with | none=>z | some (t,a,fl)=>f t a fl (fl % 32)):=rfl
theorem JnS(a:Addr)(w:World):(ReflectliteValue.parts (.agg #[Pd 9 200,.pointer (some a),.int .u64 150])).run prog w=.ok (some (200,a,150)) w:=by kernel_rfl
theorem Jql(a p:Addr)(W:World)(ha:W.cell? a=some (.pointer (some p))) :
    (ReflectliteValue.method (ReflectliteValue.valueError "reflectlite.Value.IsNil" 0) ReflectliteValue.isNil #[.agg #[Pd 9 200,.pointer (some a),.int .u64 150]]).run Tryz.prog W=.ok (.bool false) W:=by
 rw[Jwn];simp only[Sem.run_bind,JnS,Result.andThen];simp[ReflectliteValue.isNil,loadVar,isAgg,underlying,underlying200,ha,Result.andThen]
theorem Jhv(h:Value)(w:World):(Go.method 458 297 (.agg #[h]) "Elem").run Tryz.prog w=.ok (306,.agg #[h]) w:=by kernel_rfl
theorem Jes(h:Value)(w:World):(Go.method 458 297 (.agg #[h]) "Implements").run Tryz.prog w=.ok (307,.agg #[h]) w:=by kernel_rfl
theorem JdE(h:Value)(w:World):(Go.method 458 297 (.agg #[h]) "AssignableTo").run Tryz.prog w=.ok (304,.agg #[h]) w:=by kernel_rfl
theorem JtU(w:World):(ReflectliteType.method ReflectliteType.elem #[.agg #[Pd 9 200]]).run prog w=.ok (.iface 297 (.agg #[Pd 9 25])) w:=by kernel_rfl
theorem Jhw(w:World):(ReflectliteType.relation "Implements" ReflectliteType.implements_ #[.agg #[Pd 9 25],.iface 297 (.agg #[Pd 9 35])]).run Tryz.prog w=.ok (.bool true) w:=by kernel_rfl
theorem Jli(v:Value)(w:World):(ReflectliteType.typeOf #[.iface 25 v]).run prog w=.ok (.iface 297 (.agg #[Pd 9 25])) w:=by kernel_rfl
theorem Jlj(v:Value)(w:World):(ReflectliteType.typeOf #[.iface 229 v]).run prog w=.ok (.iface 297 (.agg #[Pd 9 229])) w:=by kernel_rfl
theorem Jlk(w:World):(ReflectliteType.relation "AssignableTo" ReflectliteType.assignableTo #[.agg #[Pd 9 25],.iface 297 (.agg #[Pd 9 25])]).run Tryz.prog w=.ok (.bool true) w:=by kernel_rfl
theorem Jll(w:World):(ReflectliteType.relation "AssignableTo" ReflectliteType.assignableTo #[.agg #[Pd 9 229],.iface 297 (.agg #[Pd 9 25])]).run Tryz.prog w=.ok (.bool false) w:=by kernel_rfl
theorem JjF(n:Int)(w:World):(ReflectliteValue.unpack (.iface 25 (I6 n))).run prog w
    = .ok (.agg #[Pd 9 25,Pd w.heap.size 0,.int .u64 130]) (w.alloc (Oc #[I6 n] 25)):=by kernel_rfl
theorem JtT(w:World):(Rtype.elem? 200).run prog w=.ok (some 25) w:=by kernel_rfl
theorem as_mk(p:Addr)(w:World):(ReflectliteValue.mk 25 p ReflectliteValue.flagAddr).run prog w=.ok (.agg #[Pd 9 25,.pointer (some p),.int .u64 386]) w:=by kernel_rfl
theorem Jqm(a p:Addr)(W:World)(ha:W.cell? a=some (.pointer (some p))) :
    (ReflectliteValue.method (ReflectliteValue.valueError "reflectlite.Value.Elem" 0) ReflectliteValue.elem #[.agg #[Pd 9 200,.pointer (some a),.int .u64 150]]).run Tryz.prog W
      = .ok (.agg #[Pd 9 25,.pointer (some p),.int .u64 386]) W:=by
 rw[Jwn];simp only[Sem.run_bind,JnS,Result.andThen];simp[ReflectliteValue.elem,loadVar,isAgg,underlying,underlying200,ha,Result.andThen,JtT,as_mk]
theorem as_rls(v x:Value):ReflectliteValue.set #[v,x]=(do
    let (some (dst,a,fl),some (src,b,_)):=(← ReflectliteValue.parts v,←ReflectliteValue.parts x)
     | unsupported (.noEntry "extern/(internal/reflectlite.Value).Set.zeroValue")
    if fl / ReflectliteValue.flagAddr % 2==0 then unsupported (.noEntry "extern/(internal/reflectlite.Value).Set.unaddressable")
    let val ← loadVar src b
    if ← Rtype.directlyAssignable dst src then storeVar dst a val
    else if ← Rtype.implements dst src then
     if (← Rtype.kind src)==20 then
      match val with
      | .nilIface=>unsupported (.noEntry "extern/reflectlite: a nil value of one interface type handed on as a value of another")
      | _=>storeVar dst a val
     else storeVar dst a (.iface src val)
    else panicString ("reflectlite.Set: value of type " ++ (← Rtype.spelt src) ++ " is not assignable to type " ++ (← Rtype.spelt dst))
    pure (.tuple #[])):=rfl
theorem JtQ(a:Addr)(w:World):(ReflectliteValue.parts (.agg #[Pd 9 25,.pointer (some a),.int .u64 386])).run prog w=.ok (some (25,a,386)) w:=by kernel_rfl
theorem JtP(a:Addr)(w:World):(ReflectliteValue.parts (.agg #[Pd 9 25,.pointer (some a),.int .u64 130])).run prog w=.ok (some (25,a,130)) w:=by kernel_rfl
theorem JtV(w:World):(Rtype.directlyAssignable 25 25).run prog w=.ok true w:=by kernel_rfl
theorem Jwm(ta b:Addr)(n:Int)(old:Value)(W:World)(hb:W.cell? b=some (I6 n))(ht:W.cell? ta=some old)(hf:W.frozen? ta=false) :
    (ReflectliteValue.set #[.agg #[Pd 9 25,.pointer (some ta),.int .u64 386],.agg #[Pd 9 25,.pointer (some b),.int .u64 130]]).run prog W
      = .ok (.tuple #[]) (W.setCell ta (I6 n)):=by
 rw[as_rls];simp only[Sem.run_bind,JtQ,JtP,Result.andThen];simp[ReflectliteValue.flagAddr,loadVar,isAgg,underlying,underlying25,hb,Result.andThen,JtV,storeVar,Value.cells,storeCells,Addr.add];rw[run_store prog W ta _ _ (by rfl)];simp[ht,hf]
theorem JtS(v:Value)(xT:TypeId)(w:World):(Instr.typeAssert (.iface 229 v) xT 302 true).run prog w=.ok (.tuple #[.nilIface,.bool false]) w:=run_typeAssert_lacksB underlying302 (by kernel_rfl) (by kernel_rfl) v xT w
theorem Jik(v:Value)(xT:TypeId)(w:World):(Instr.typeAssert (.iface 229 v) xT 305 true).run prog w=.ok (.tuple #[.iface 229 v,.bool true]) w:=run_typeAssert_hasB underlying305 (by kernel_rfl) v xT w
theorem Jgy(a:Addr)(w:World):(nilAhead 458 229 (.pointer (some a)) "Unwrap").run Tryz.prog w=.ok (some false) w:=by kernel_rfl
theorem JfQ(a:Addr)(w:World):(Go.method 458 229 (.pointer (some a)) "Unwrap").run Tryz.prog w=.ok (296,.pointer (some a)) w:=by kernel_rfl
theorem Jq0(a:Nat)(n:Int)(w:World)(h:w.cell? (Ad a 0)=some (I6 n)) :
    Cg 296 #[Pd a 0] w λe w'=>e=.returned (.iface 25 (I6 n))/\w'=w:=by
 go_enter func296,ntmps296
 go_wp2;go_ret;exact⟨rfl,rfl⟩
def JbM (w:World):Prop:=w.cell? (Ad 2 0)=some (.iface 297 (.agg #[Pd 9 35]))
def target (q:Nat):Value:=.agg #[Pd 9 200,Pd q 0,.int .u64 150]
theorem JmR{w:World}{t:Nat}{n:Int}{old:Value}(ht:w.cell? (Ad t 0)=some old)(o1 o2:Obj) :
    (((w.setCell (Ad t 0) (I6 n)).alloc o1).alloc o2).cell? (Ad t 0)=some (I6 n)/\Below t w (((w.setCell (Ad t 0) (I6 n)).alloc o1).alloc o2):=by
 have htl:=blt w _ ht;have hz:(w.setCell (Ad t 0) (I6 n)).heap.size=w.heap.size:=by simp
 have h1:t<(w.setCell (Ad t 0) (I6 n)).heap.size:=by rw[hz];exact htl
 refine⟨?_,?_⟩
 . rw[World.cell?_alloc_lt _ _ (Ad t 0) (by rw[wsa];exact Nat.lt_succ_of_lt h1),World.cell?_alloc_lt _ _ (Ad t 0) h1]
   exact World.cell?_setCell_same _ _ _ ht
 . exact((((brf t w).setCell (p:=(Ad t 0)) (nlr _) _)).alloc (Nat.le_of_lt h1) _).alloc (by rw[wsa];exact Nat.le_succ_of_le (Nat.le_of_lt h1)) _
theorem JtR(n:Int)(t q:Nat)(old:Value)(w:World)(hq:w.cell? (Ad q 0)=some (Pd t 0))(ht:w.cell? (Ad t 0)=some old)(hf:w.frozen? (Ad t 0)=false) :
    Cg 200 #[.iface 25 (I6 n),.iface 200 (Pd t 0),target q,.iface 297 (.agg #[Pd 9 25])] w
     λe w'=>e=.returned (.bool true)/\w'.cell? (Ad t 0)=some (I6 n)/\Below t w w':=by
 have hTO:=@run_callFunc_extern Tryz.prog 242 _ ReflectliteType.typeOf Tryz.func242 (by kernel_rfl) (by kernel_rfl) (by kernel_rfl) (by kernel_rfl);have hAT:=@run_callFunc_extern Tryz.prog 304 _ (ReflectliteType.relation "AssignableTo" ReflectliteType.assignableTo) Tryz.func304 (by kernel_rfl) (by kernel_rfl) (by kernel_rfl) (by kernel_rfl);have hVE:=@run_callFunc_extern Tryz.prog 243 _ (ReflectliteValue.method (ReflectliteValue.valueError "reflectlite.Value.Elem" 0) ReflectliteValue.elem) Tryz.func243 (by kernel_rfl) (by kernel_rfl) (by kernel_rfl) (by kernel_rfl);have hVS:=@run_callFunc_extern Tryz.prog 244 _ ReflectliteValue.set Tryz.func244 (by kernel_rfl) (by kernel_rfl) (by kernel_rfl) (by kernel_rfl);have hVO:=@run_callFunc_extern Tryz.prog 197 _ (λargs=>ReflectliteValue.unpack (args.getD 0 (.tuple #[]))) Tryz.func197 (by kernel_rfl) (by kernel_rfl) (by kernel_rfl) (by kernel_rfl);have tE:=Jli;have tA:=Jlj;have mA:=JdE;have aE:=Jlk;have aA:=Jll;have vE:=JjF;have nA:=JtS;have hU:=Jik;have uA:=Jgy;have mU:=JfQ;have htl:=blt w _ ht;have hql:=blt w _ hq;have hq2:(w.alloc (Oc #[Pd 9 200,Pd q 0,.int .u64 150] 240)).cell? (Ad q 0)=some (Pd t 0):=by
  rw[World.cell?_alloc_lt _ _ (Ad q 0) hql];exact hq
 have el:=Jqm (Ad q 0) (Ad t 0) (w.alloc (Oc #[Pd 9 200,Pd q 0,.int .u64 150] 240)) hq2
 have st:=Jwm (Ad t 0) (Ad (w.heap.size+1) 0) n old ((w.alloc (Oc #[Pd 9 200,Pd q 0,.int .u64 150] 240)).alloc (Oc #[I6 n] 25))
  (by rw[World.cell?_alloc_at _ _ _ _ (by simp)];rfl)
  (by rw[World.cell?_alloc_lt _ _ (Ad t 0) (by rw[wsa];exact Nat.lt_succ_of_lt htl),World.cell?_alloc_lt _ _ (Ad t 0) htl];exact ht)
  (by rw[World.frozen?_alloc_old _ _ (Ad t 0) (by rw[wsa];exact Nat.ne_of_lt (Nat.lt_succ_of_lt htl)),World.frozen?_alloc_old _ _ (Ad t 0) (Nat.ne_of_lt htl)];exact hf)
 have fin:=λo1 o2=>@JmR w t n old ht o1 o2;have HF:=hdz fin;clear fin;clear hq ht hf hq2;unfold target
 go_enter func200,ntmps200
 go_wp2;refine wp_loop_rounds 1 ?_;rw[rounds_succ];go_wp2;go_ret;exact⟨rfl,HF.out _ _⟩
theorem JvH(a:Nat)(n:Int)(t q:Nat)(old:Value)(w:World)(ha:w.cell? (Ad a 0)=some (I6 n))(hq:w.cell? (Ad q 0)=some (Pd t 0))(ht:w.cell? (Ad t 0)=some old)(hf:w.frozen? (Ad t 0)=false) :
    Cg 200 #[.iface 229 (Pd a 0),.iface 200 (Pd t 0),target q,.iface 297 (.agg #[Pd 9 25])] w
     λe w'=>e=.returned (.bool true)/\w'.cell? (Ad t 0)=some (I6 n)/\Below t w w':=by
 have hTO:=@run_callFunc_extern Tryz.prog 242 _ ReflectliteType.typeOf Tryz.func242 (by kernel_rfl) (by kernel_rfl) (by kernel_rfl) (by kernel_rfl);have hAT:=@run_callFunc_extern Tryz.prog 304 _ (ReflectliteType.relation "AssignableTo" ReflectliteType.assignableTo) Tryz.func304 (by kernel_rfl) (by kernel_rfl) (by kernel_rfl) (by kernel_rfl);have hVE:=@run_callFunc_extern Tryz.prog 243 _ (ReflectliteValue.method (ReflectliteValue.valueError "reflectlite.Value.Elem" 0) ReflectliteValue.elem) Tryz.func243 (by kernel_rfl) (by kernel_rfl) (by kernel_rfl) (by kernel_rfl);have hVS:=@run_callFunc_extern Tryz.prog 244 _ ReflectliteValue.set Tryz.func244 (by kernel_rfl) (by kernel_rfl) (by kernel_rfl) (by kernel_rfl);have hVO:=@run_callFunc_extern Tryz.prog 197 _ (λargs=>ReflectliteValue.unpack (args.getD 0 (.tuple #[]))) Tryz.func197 (by kernel_rfl) (by kernel_rfl) (by kernel_rfl) (by kernel_rfl);have tE:=Jli;have tA:=Jlj;have mA:=JdE;have aE:=Jlk;have aA:=Jll;have vE:=JjF;have nA:=JtS;have hU:=Jik;have uA:=Jgy;have mU:=JfQ;have htl:=blt w _ ht;have hql:=blt w _ hq;have hq2:(w.alloc (Oc #[Pd 9 200,Pd q 0,.int .u64 150] 240)).cell? (Ad q 0)=some (Pd t 0):=by
  rw[World.cell?_alloc_lt _ _ (Ad q 0) hql];exact hq
 have el:=Jqm (Ad q 0) (Ad t 0) (w.alloc (Oc #[Pd 9 200,Pd q 0,.int .u64 150] 240)) hq2
 have st:=Jwm (Ad t 0) (Ad (w.heap.size+1) 0) n old ((w.alloc (Oc #[Pd 9 200,Pd q 0,.int .u64 150] 240)).alloc (Oc #[I6 n] 25))
  (by rw[World.cell?_alloc_at _ _ _ _ (by simp)];rfl)
  (by rw[World.cell?_alloc_lt _ _ (Ad t 0) (by rw[wsa];exact Nat.lt_succ_of_lt htl),World.cell?_alloc_lt _ _ (Ad t 0) htl];exact ht)
  (by rw[World.frozen?_alloc_old _ _ (Ad t 0) (by rw[wsa];exact Nat.ne_of_lt (Nat.lt_succ_of_lt htl)),World.frozen?_alloc_old _ _ (Ad t 0) (Nat.ne_of_lt htl)];exact hf)
 have fin:=λo1 o2=>@JmR w t n old ht o1 o2;have HF:=hdz fin;clear fin;have hal:=blt w _ ha;have ha2:(w.alloc (Oc #[Pd 9 200,Pd q 0,.int .u64 150] 240)).cell? (Ad a 0)=some (I6 n):=by
  rw[World.cell?_alloc_lt _ _ (Ad a 0) hal];exact ha
 have cU:=Jq0 a n _ ha2;clear hq ht hf hq2 ha ha2;unfold target
 go_enter func200,ntmps200
 go_wp2;refine wp_loop_rounds 2 ?_;rw[rounds_succ]
 go_wp2_with (go_at_call 296;refine cU.mono ?_;rintro e wx ⟨rfl,rfl⟩)
 rw[rounds_succ];go_wp2;go_ret;exact⟨rfl,HF.out _ _⟩
end
end Go.Proofs.YtbkeomcicobohaaGreatDoor
namespace Go.Proofs
open Go.Shelf
def Tryz.lays242_ren:Go.Shelf.Ren:=⟨λ| 242=>192 | 278=>241 | n=>n,λ| 37=>29 | 21=>21 | 51=>177 | 4=>4 | 5=>5 | 46=>174 | n=>n,λ| n=>n⟩
theorem Tryz.lays242:Go.Proofs.Lays.n242 Tryz.prog Tryz.lays242_ren:={
 mixed:=by kernel_rfl
 f242:=Tryz.func192.trans (congrArg some (by kernel_rfl))
 f278:=Tryz.func241.trans (congrArg some (by kernel_rfl))
 t4:=Tryz.underlying4
 a4:=Tryz.isAgg4
 z4:=Tryz.sizeOf4
 v4:=Tryz.zeroValue4
 t5:=Tryz.underlying5
 a5:=Tryz.isAgg5
 z5:=Tryz.sizeOf5
 v5:=Tryz.zeroValue5
 t21:=Tryz.underlying21
 a21:=Tryz.isAgg21
 z21:=Tryz.sizeOf21
 v21:=Tryz.zeroValue21
 t37:=Tryz.underlying29
 a37:=Tryz.isAgg29
 z37:=Tryz.sizeOf29
 v37:=Tryz.zeroValue29
 t46:=Tryz.underlying174
 a46:=Tryz.isAgg174
 z46:=Tryz.sizeOf174
 v46:=Tryz.zeroValue174
 t51:=Tryz.underlying177
 a51:=Tryz.isAgg177
 z51:=Tryz.sizeOf177
 v51:=Tryz.zeroValue177 }
open Go.RowKit in
theorem Tryz.utf8_AppendRune_plain(B:Nat)(v:Value)(n:Nat)(xs:List Value)(r:Int)(hr0: -2147483648<=r)(hr1:r<=2147483647)(w:World)(hown:w.ownsRow B 5 1 v n xs)(hlen:n+4<=140737488355328)(hBw:B<=w.heap.size) :
    Calls Tryz.prog 192 #[v,.int .i32 r] w λe w'=>∃v',e=.returned v'/\w'.ownsRow B 5 1 v' (n+(Lib.runeCells r).length) (xs++Lib.runeCells r)/\∃o,(w.alloc o).grownBy w' v.ownBlock:=Any.utf8_AppendRune_plain Tryz.lays242 (by kernel_rfl) B v n xs r hr0 hr1 w hown hlen hBw
def Tryz.lays197_ren:Go.Shelf.Ren:=⟨λ| 197=>94 | 260=>153 | n=>n,λ| 9=>9 | 21=>21 | 3=>3 | 4=>4 | 5=>5 | 105=>138 | 119=>249 | 0=>0 | 46=>174 | 139=>252 | 138=>251 | n=>n,λ| 3=>3 | 4=>4 | n=>n⟩
theorem Tryz.lays197:Go.Proofs.Lays.n197 Tryz.prog Tryz.lays197_ren:={
 mixed:=by kernel_rfl
 f197:=Tryz.func94.trans (congrArg some (by kernel_rfl))
 f260:=Tryz.func153.trans (congrArg some (by kernel_rfl))
 t0:=Tryz.underlying0
 a0:=Tryz.isAgg0
 z0:=Tryz.sizeOf0
 v0:=Tryz.zeroValue0
 t3:=Tryz.underlying3
 a3:=Tryz.isAgg3
 z3:=Tryz.sizeOf3
 v3:=Tryz.zeroValue3
 t4:=Tryz.underlying4
 a4:=Tryz.isAgg4
 z4:=Tryz.sizeOf4
 v4:=Tryz.zeroValue4
 t5:=Tryz.underlying5
 a5:=Tryz.isAgg5
 z5:=Tryz.sizeOf5
 v5:=Tryz.zeroValue5
 t9:=Tryz.underlying9
 a9:=Tryz.isAgg9
 z9:=Tryz.sizeOf9
 v9:=Tryz.zeroValue9
 t21:=Tryz.underlying21
 a21:=Tryz.isAgg21
 z21:=Tryz.sizeOf21
 v21:=Tryz.zeroValue21
 t46:=Tryz.underlying174
 a46:=Tryz.isAgg174
 z46:=Tryz.sizeOf174
 v46:=Tryz.zeroValue174
 t105:=Tryz.underlying138
 a105:=Tryz.isAgg138
 z105:=Tryz.sizeOf138
 v105:=Tryz.zeroValue138
 t119:=Tryz.underlying249
 a119:=Tryz.isAgg249
 z119:=Tryz.sizeOf249
 t138:=Tryz.underlying251
 a138:=Tryz.isAgg251
 z138:=Tryz.sizeOf251
 v138:=Tryz.zeroValue251
 t139:=Tryz.underlying252
 a139:=Tryz.isAgg252
 z139:=Tryz.sizeOf252
 v139:=Tryz.zeroValue252
 g3:=by kernel_rfl
 g4:=by kernel_rfl }
def Tryz.lays260_ren:Go.Shelf.Ren:=⟨λ| 260=>153 | n=>n,λ| 9=>9 | 21=>21 | 3=>3 | 4=>4 | 5=>5 | 119=>249 | 0=>0 | 46=>174 | 139=>252 | 138=>251 | n=>n,λ| 3=>3 | 4=>4 | n=>n⟩
theorem Tryz.lays260:Go.Proofs.Lays.n260 Tryz.prog Tryz.lays260_ren:={
 mixed:=by kernel_rfl
 f260:=Tryz.func153.trans (congrArg some (by kernel_rfl))
 t0:=Tryz.underlying0
 a0:=Tryz.isAgg0
 z0:=Tryz.sizeOf0
 v0:=Tryz.zeroValue0
 t3:=Tryz.underlying3
 a3:=Tryz.isAgg3
 z3:=Tryz.sizeOf3
 v3:=Tryz.zeroValue3
 t4:=Tryz.underlying4
 a4:=Tryz.isAgg4
 z4:=Tryz.sizeOf4
 v4:=Tryz.zeroValue4
 t5:=Tryz.underlying5
 a5:=Tryz.isAgg5
 z5:=Tryz.sizeOf5
 v5:=Tryz.zeroValue5
 t9:=Tryz.underlying9
 a9:=Tryz.isAgg9
 z9:=Tryz.sizeOf9
 v9:=Tryz.zeroValue9
 t21:=Tryz.underlying21
 a21:=Tryz.isAgg21
 z21:=Tryz.sizeOf21
 v21:=Tryz.zeroValue21
 t46:=Tryz.underlying174
 a46:=Tryz.isAgg174
 z46:=Tryz.sizeOf174
 v46:=Tryz.zeroValue174
 t119:=Tryz.underlying249
 a119:=Tryz.isAgg249
 z119:=Tryz.sizeOf249
 t138:=Tryz.underlying251
 a138:=Tryz.isAgg251
 z138:=Tryz.sizeOf251
 v138:=Tryz.zeroValue251
 t139:=Tryz.underlying252
 a139:=Tryz.isAgg252
 z139:=Tryz.sizeOf252
 v139:=Tryz.zeroValue252
 g3:=by kernel_rfl
 g4:=by kernel_rfl }
open Go.RowKit Go.Lib in
theorem Tryz.utf8_DecodeRuneInString(s:ByteArray)(w:World)(hT:Lib.Utf8Tabs 3 4 w) :
    Calls Tryz.prog 94 #[.string s] w λe w'=>e=.returned (.tuple #[.int .i32 (Lib.decodeGo s).1,.int .i64 (Lib.decodeGo s).2])/\Below w.heap.size w w':=Any.utf8_DecodeRuneInString Tryz.lays197 s w hT
end Go.Proofs
namespace Go.Proofs.YtbkeomcicobohaaGreatDoor
open Go.Proofs.Tryz Go.RowKit Go.Maps
section
open Go.Lib
variable {l : List UInt8}{r n : Nat}{p : Nat × Nat}
def dec (l:List UInt8):Nat×Nat:=decodeN l.length (l.getD 0 0).toNat (l.getD 1 0).toNat (l.getD 2 0).toNat (l.getD 3 0).toNat
theorem Jvz(n b0 b1 b2 b3:Nat):1<=(decodeN n b0 b1 b2 b3).2:=by
 unfold decodeN
 repeat' split
 all_goals simp
theorem Jvy(n b0 b1 b2 b3:Nat):(decodeN n b0 b1 b2 b3).2<=4:=by
 unfold decodeN
 repeat' split
 all_goals simp
theorem decN_le(n b0 b1 b2 b3:Nat)(h:1<=n):(decodeN n b0 b1 b2 b3).2<=n:=by
 unfold decodeN
 repeat' split
 all_goals simp
 all_goals omega
theorem JgD(l:List UInt8):1<=(dec l).2:=Jvz _ _ _ _ _
theorem JtA(l:List UInt8):(dec l).2<=4:=Jvy _ _ _ _ _
theorem JnD(h:l≠[]):(dec l).2<=l.length:=decN_le _ _ _ _ _ (by cases l<;>simp_all)
def badB (p:Nat×Nat):Bool:=p.1==65533 && p.2==1
def JlK:Nat->List UInt8->List (Nat×Nat)×Bool
 | 0,_=>([],true)
 | n+1,l=>if l=[] then ([],true) else if badB (dec l) then ([],false) else (dec l :: (JlK n (l.drop (dec l).2)).1,(JlK n (l.drop (dec l).2)).2)
theorem JiZ:∀(n m:Nat)(l:List UInt8),l.length<=n->l.length<=m->JlK n l=JlK m l
 | 0,m,l,hn,_=>by
  obtain rfl:l=[]:=List.eq_nil_of_length_eq_zero (by omega)
  cases m<;>simp[JlK]
 | n+1,0,l,_,hm=>by
  obtain rfl:l=[]:=List.eq_nil_of_length_eq_zero (by omega);simp[JlK]
 | n + 1,m+1,l,hn,hm=>by
  unfold JlK
  by_cases h:l=[]
  . simp[h]
  . have h1:=JgD l
    have h2:l.length≠0:=by simpa using h
    rw[JiZ n m (l.drop (dec l).2) (by rw[List.length_drop];omega) (by rw[List.length_drop];omega)]
def scan (l:List UInt8):List (Nat×Nat)×Bool:=JlK l.length l
theorem JmV(l:List UInt8)(h:l≠[]):scan l=if badB (dec l) then ([],false) else (dec l :: (scan (l.drop (dec l).2)).1,(scan (l.drop (dec l).2)).2):=by
 have h1:=JgD l;have h2:l.length≠0:=by simpa using h
 unfold scan;rw[JiZ l.length ((l.length - 1)+1) l (nlr _) (by omega),JlK,if_neg h,JiZ (l.length - 1) (l.drop (dec l).2).length _ (by rw[List.length_drop];omega) (nlr _)]
theorem JgP:scan []=([],true):=rfl
theorem Jiy(h:l≠[])(hb:badB (dec l)=true):scan l=([],false):=by rw[JmV l h,hb];rfl
theorem Jf9(h:l≠[])(hb:badB (dec l)=false):scan l=(dec l :: (scan (l.drop (dec l).2)).1,(scan (l.drop (dec l).2)).2):=by
 rw[JmV l h,hb];rfl
def Jbp (r:Nat):Prop:=r<55296\/(57344<=r/\r<=1114111)
def enc (r:Nat):List UInt8:=encodeRune r
theorem enc1(h:r<=127):enc r=[r.toUInt8]:=by
 unfold enc encodeRune;rw[encodeRuneZ_one (by omega) (by omega)];simp
theorem enc2(h0:128<=r)(h1:r<=2047):enc r=[(192+r / 64).toUInt8,(128+r % 64).toUInt8]:=by
 unfold enc encodeRune;rw[encodeRuneZ_two (by omega) (by omega)];simp only[List.map_cons,List.map_nil];rw[show(192+(r:Int) / 64).toNat=192+r / 64 by omega,show(128+(r:Int) % 64).toNat=128+r % 64 by omega]
theorem enc3(h:(2048<=r/\r<55296)\/(57343<r/\r<=65535)):enc r=[(224+r / 4096).toUInt8,(128+r / 64 % 64).toUInt8,(128+r % 64).toUInt8]:=by
 unfold enc encodeRune;rw[encodeRuneZ_three (by omega)];simp only[List.map_cons,List.map_nil];rw[show(224+(r:Int) / 4096).toNat=224+r / 4096 by omega,show(128+(r:Int) / 64 % 64).toNat=128+r / 64 % 64 by omega,show(128+(r:Int) % 64).toNat=128+r % 64 by omega]
theorem enc4(h0:65536<=r)(h1:r<=1114111):enc r=[(240+r / 262144).toUInt8,(128+r / 4096 % 64).toUInt8,(128+r / 64 % 64).toUInt8,(128+r % 64).toUInt8]:=by
 unfold enc encodeRune;rw[encodeRuneZ_four (by omega) (by omega)];simp only[List.map_cons,List.map_nil];rw[show(240+(r:Int) / 262144).toNat=240+r / 262144 by omega,show(128+(r:Int) / 4096 % 64).toNat=128+r / 4096 % 64 by omega,show(128+(r:Int) / 64 % 64).toNat=128+r / 64 % 64 by omega,show(128+(r:Int) % 64).toNat=128+r % 64 by omega]
theorem toU8(h:n<256):n.toUInt8.toNat=n:=by simp[Nat.toUInt8];omega
theorem Jl4{a:UInt8}(h:n=a.toNat):n.toUInt8=a:=by
 subst h;simp[Nat.toUInt8]
theorem Jqe(h:l≠[])(hb:badB (dec l)=false):Jbp (dec l).1/\l.take (dec l).2=enc (dec l).1:=by
 revert hb;unfold badB dec Jbp;have z0:(l.getD 0 0).toNat<256:=(l.getD 0 0).toNat_lt;have z1:(l.getD 1 0).toNat<256:=(l.getD 1 0).toNat_lt;have z2:(l.getD 2 0).toNat<256:=(l.getD 2 0).toNat_lt;have z3:(l.getD 3 0).toNat<256:=(l.getD 3 0).toNat_lt;obtain⟨a,t,rfl⟩:=List.exists_cons_of_ne_nil h;unfold decodeN
 split
 . intro _
   refine⟨by simp only[List.getD_cons_zero]at *;omega,?_⟩;rw[enc1 (by omega)];simp
 split
 . rename_i c
   split
   . intro _
     obtain⟨c1,c2,c3⟩:=c;obtain⟨b,t,rfl⟩:∃b t',t=b :: t':=by cases t with|nil=>simp at c2|cons b t=>exact⟨b,t,rfl⟩
     simp only[List.getD_cons_zero,List.getD_cons_succ]at *;refine⟨by omega,?_⟩;rw[enc2 (by omega) (by omega)];simp only[List.take_succ_cons,List.take_zero];rw[Jl4 (a:=a) (by omega),Jl4 (a:=b) (by omega)]
   . intro hb;simp at hb
 split
 . rename_i c
   split
   . intro _
     obtain⟨c1,⟨c2,c3⟩,c4,c5⟩:=c;obtain⟨b,t,rfl⟩:∃b t',t=b :: t':=by cases t with|nil=>simp at c2|cons b t=>exact⟨b,t,rfl⟩
     obtain⟨d,t,rfl⟩:∃b t',t=b :: t':=by cases t with|nil=>simp at c4|cons b t=>exact⟨b,t,rfl⟩
     simp only[List.getD_cons_zero,List.getD_cons_succ]at *;refine⟨by omega,?_⟩;rw[enc3 (by omega)];simp only[List.take_succ_cons,List.take_zero];rw[Jl4 (a:=a) (by omega),Jl4 (a:=b) (by omega),Jl4 (a:=d) (by omega)]
   . intro hb;simp at hb
 split
 . rename_i c
   split
   . intro _
     obtain⟨c1,⟨c2,c3⟩,⟨c4,c5⟩,c6,c7⟩:=c;obtain⟨b,t,rfl⟩:∃b t',t=b :: t':=by cases t with|nil=>simp at c2|cons b t=>exact⟨b,t,rfl⟩
     obtain⟨d,t,rfl⟩:∃b t',t=b :: t':=by cases t with|nil=>simp at c4|cons b t=>exact⟨b,t,rfl⟩
     obtain⟨e,t,rfl⟩:∃b t',t=b :: t':=by cases t with|nil=>simp at c6|cons b t=>exact⟨b,t,rfl⟩
     simp only[List.getD_cons_zero,List.getD_cons_succ]at *;refine⟨by omega,?_⟩;rw[enc4 (by omega) (by omega)];simp only[List.take_succ_cons,List.take_zero];rw[Jl4 (a:=a) (by omega),Jl4 (a:=b) (by omega),Jl4 (a:=d) (by omega),Jl4 (a:=e) (by omega)]
   . intro hb;simp at hb
 . intro hb;simp at hb
theorem Jpg(hr:Jbp r)(t:List UInt8):dec (enc r++t)=(r,(enc r).length)/\badB (dec (enc r++t))=false:=by
 have key:dec (enc r++t)=(r,(enc r).length)/\((enc r).length=1->r<=127):=by
  unfold Jbp at hr
  by_cases h1:r<=127
  . rw[enc1 h1]
    simp only[dec,List.cons_append,List.nil_append,List.getD_cons_zero,toU8 (show r<256 by omega),List.length_cons,List.length_nil];exact⟨by simp[decodeN,show r<128 by omega],λ_=>h1⟩
  by_cases h2:r<=2047
  . rw[enc2 (by omega) h2]
    simp only[dec,List.cons_append,List.nil_append,List.getD_cons_zero,List.getD_cons_succ,toU8 (show 192+r / 64<256 by omega),toU8 (show 128+r % 64<256 by omega),List.length_cons,List.length_nil];refine⟨?_,by simp⟩;unfold decodeN;rw[if_neg (by omega),if_pos ⟨by omega,by omega,by omega⟩,if_pos (by omega)];simp;omega
  by_cases h3:r<=65535
  . rw[enc3 (by omega)]
    simp only[dec,List.cons_append,List.nil_append,List.getD_cons_zero,List.getD_cons_succ,toU8 (show 224+r / 4096<256 by omega),toU8 (show 128+r / 64 % 64<256 by omega),toU8 (show 128+r % 64<256 by omega),List.length_cons,List.length_nil];refine⟨?_,by simp⟩;unfold decodeN;rw[if_neg (by omega),if_neg (by omega),if_pos ⟨by omega,⟨by omega,by omega⟩,by omega,by omega⟩,if_pos (by omega)];simp;omega
  . rw[enc4 (by omega) (by omega)]
    simp only[dec,List.cons_append,List.nil_append,List.getD_cons_zero,List.getD_cons_succ,toU8 (show 240+r / 262144<256 by omega),toU8 (show 128+r / 4096 % 64<256 by omega),toU8 (show 128+r / 64 % 64<256 by omega),toU8 (show 128+r % 64<256 by omega),List.length_cons,List.length_nil];refine⟨?_,by simp⟩;unfold decodeN;rw[if_neg (by omega),if_neg (by omega),if_neg (by omega),if_pos ⟨by omega,⟨by omega,by omega⟩,⟨by omega,by omega⟩,by omega,by omega⟩,if_pos (by omega)];simp;omega
 refine⟨key.1,?_⟩;rw[key.1];unfold badB
 by_cases hl:(enc r).length=1
 . have:=key.2 hl;simp;omega
 . simp[hl]
theorem Jqc(r:Nat):enc r≠[]:=by
 have:=(encodeRuneZ_length r).1;intro h;have h2:=congrArg List.length h;simp[enc,encodeRune]at h2;rw[h2]at this;simp at this
def wide (rs:List Nat):List (Nat×Nat):=rs.map λr=>(r,(enc r).length)
def encs (rs:List Nat):List UInt8:=rs.flatMap enc
theorem JbS(r:Nat)(rs:List Nat):encs (r :: rs)=enc r++encs rs:=rfl
theorem Jb1(a b:List Nat):encs (a++b)=encs a++encs b:=by simp[encs]
theorem JeF:∀(rs:List Nat),(∀r∈rs,Jbp r)->scan (encs rs)=(wide rs,true)
 | [],_=>JgP
 | r :: rs,h=>by
  have hr:=h r (by simp);obtain⟨h1,h2⟩:=Jpg hr (encs rs);have hne:encs (r :: rs)≠[]:=by rw[JbS];simp[Jqc]
  rw[JbS]at hne ⊢;rw[Jf9 hne h2,h1];simp only[List.drop_left];rw[JeF rs (λx hx=>h x (by simp[hx]))];rfl
theorem Jf8(n:Nat):∀(l:List UInt8),l.length<=n->(∀p∈(scan l).1,Jbp p.1/\p.2=(enc p.1).length)/\(∃t,l=encs ((scan l).1.map (·.1))++t/\((scan l).2=true->t=[])/\((scan l).2=false->t≠[]/\badB (dec t)=true)):=by
 induction n with
 | zero =>
  intro l hl;obtain rfl:l=[]:=by cases l<;>simp_all
  rw[JgP];exact⟨by simp,[],by simp[encs]⟩
 | succ n ih =>
  intro l hl
  by_cases h:l=[]
  . subst h;rw[JgP];exact⟨by simp,[],by simp[encs]⟩
  by_cases hb:badB (dec l)=true
  . rw[Jiy h hb];exact⟨by simp,l,by simp[encs],by simp,λ_=>⟨h,hb⟩⟩
  have hb:badB (dec l)=false:=by simpa using hb
  obtain⟨g1,g2⟩:=Jqe h hb;have w1:=JgD l;have w2:=JnD h;obtain⟨i1,t,i2,i3,i4⟩:=ih (l.drop (dec l).2) (by simp;omega);rw[Jf9 h hb];have hw:(dec l).2=(enc (dec l).1).length:=by rw[←g2];simp;omega
  refine⟨?_,t,?_,i3,i4⟩
  . intro p hp
    rcases List.mem_cons.1 hp with rfl|hp
    . exact⟨g1,hw⟩
    . exact i1 p hp
  . simp only[List.map_cons,JbS]
    rw[←g2,List.append_assoc,←i2];exact(List.take_append_drop _ _).symm
def Ja0 (l:List UInt8):List Nat:=(scan l).1.map (·.1)
theorem Jd4(h:r∈Ja0 l):Jbp r:=by
 obtain⟨p,hp,rfl⟩:=List.mem_map.1 h;exact((Jf8 l.length l (nlr _)).1 p hp).1
theorem JbD(h:(scan l).2=true):encs (Ja0 l)=l:=by
 obtain⟨_,t,h1,h2,_⟩:=Jf8 l.length l (nlr _);rw[h2 h]at h1;exact(h1.trans (List.append_nil _)).symm
theorem Jmi(rs:List Nat):rs.length<=(encs rs).length:=by
 induction rs with
 | nil=>simp[encs]
 | cons r rs ih =>
  have h:(enc r).length≠0:=by simpa using Jqc r
  rw[JbS,List.length_append,List.length_cons];omega
theorem JgQ(l:List UInt8):(scan l).1.length<=l.length:=by
 obtain⟨_,t,h1,_⟩:=Jf8 l.length l (nlr _);have h:=Jmi ((scan l).1.map (·.1));rw[List.length_map]at h;have h2:=congrArg List.length h1;rw[List.length_append]at h2;omega
theorem Jo4(l:List UInt8):∀p∈(scan l).1,p.2<=4:=by
 intro p hp;rw[((Jf8 l.length l (nlr _)).1 p hp).2];have:=(encodeRuneZ_length p.1).2;simpa[enc,encodeRune] using this
/-! ### Halves -/
def hal (r:Nat):List Nat:=if r<65536 then [r] else [55296+(r - 65536) / 1024,56320+(r - 65536) % 1024]
def hals (rs:List Nat):List Nat:=rs.flatMap hal
theorem get!_getD (s:ByteArray)(i:Nat):s.get! i=s.data.toList.getD i 0:=by
 simp only[ByteArray.get!,List.getD_eq_getElem?_getD,Array.getElem?_toList]
 cases h:s.data[i]? with
 | none=>rw[getElem!_def];simp[h];rfl
 | some x=>rw[getElem!_def];simp[h]
theorem JeS(s:ByteArray)(k:Nat):Utf8.decode (s.extract k s.size) 0=dec (s.data.toList.drop k):=by
 have e1:(s.extract k s.size).data.toList=s.data.toList.drop k:=by
  rw[extract_data,List.take_of_length_le (by rw[List.length_drop,Array.length_toList];exact nlr _)]
 have e:(s.extract k s.size).size=(s.data.toList.drop k).length:=by rw[←e1,Array.length_toList];rfl
 rw[decode_at,e,get!_getD,get!_getD,get!_getD,get!_getD,e1];rfl
def Jgq (l:List UInt8):Nat:=((scan l).1.map (·.2)).sum
theorem Jht(h:badB p=true):p.1=65533/\p.2=1:=by simpa[badB] using h
theorem Jlf(h:badB p=false):p.1≠65533\/(p.1=65533/\p.2≠1):=by
 simp[badB]at h
 by_cases h1:p.1=65533
 . exact .inr ⟨h1,h h1⟩
 . exact .inl h1
end
def isAt (w w':World) (v:Value) (at_:Int):Prop :=
 ∃b,v=.iface 229 (.pointer (some ⟨b,0,none⟩))/\w.heap.size<=b/\b<w'.heap.size/\w'.cell? ⟨b,0,none⟩=some (.int .i64 3)/\w'.cell? ⟨b,1,none⟩=some (.int .i64 at_)
theorem Jm5(n:Int)(w:World) :
    Cg 136 #[I6 n] w λe w'=>(∃v,e=.returned v/\isAt w w' v n)/\Bw w w':=by
 go_enter func136,ntmps136
 go_wp2;go_ret;refine⟨⟨_,rfl,w.heap.size,rfl,nlr _,by simp,by simp[go_sem],by simp[go_sem]⟩,zA _ _⟩
theorem Jtk{w0 w w':World}{v:Value}{n:Int}(h:isAt w w' v n)(hb:w0.heap.size<=w.heap.size):isAt w0 w' v n:=by
 obtain⟨b,rfl,h1,h2⟩:=h;exact⟨b,rfl,Nat.le_trans hb h1,h2⟩
structure Takes (W:World) (F:Nat) (cap:Array Value) (l:List (Nat×Nat)) (I:List (Nat×Nat)->World->Prop):Prop where
 enters:∀args w,(callFunc F args).run prog w=.ok (.enter F args) w
 stays:∀done w w',I done w->Bw w w'->I done w'
 step:∀done p rest,l=done++p :: rest->∀w,I done w->Bw W w ->
  Cg F (#[.int .i32 p.1,I6 p.2]++cap) w λe w'=>e=.returned (.bool true)/\I (done++[p]) w'/\Bw W w'
theorem Jml(s:ByteArray)(hs:s.size<=maxLen)(F:Nat)(cap:Array Value)(W:World)(hT:Lib.Utf8Tabs 3 4 W)(I:List (Nat×Nat)->World->Prop)
    (H:Takes W F cap (scan s.data.toList).1 I) (w:World) (hw:Bw W w) (h0:I [] w) :
    Cg 85 #[.string s,.func (.func F) #[] cap] w λe w'=>Bw W w'/\I (scan s.data.toList).1 w' /\
     (((scan s.data.toList).2=true/\e=.returned .nilIface)\/((scan s.data.toList).2=false/\∃v,e=.returned v/\isAt W w' v (Jgq s.data.toList))):=by
 unfold maxLen at hs;have hent:=H.enters
 have key:∀done k,(scan s.data.toList).1=done++(scan (s.data.toList.drop k)).1->(done.map (·.2)).sum=k->(scan s.data.toList).2=(scan (s.data.toList.drop k)).2 ->
     (scan (s.data.toList.drop k)).1=[]->Jgq s.data.toList=k:=by
  intro done k h1 h2 _ h4;unfold Jgq;rw[h1,h4,List.append_nil,h2]
 go_enter func85,ntmps85
 go_wp2
 go_loopw [5,6,7,12] (λat_ _ _ _ wr=>∃(k:Nat) (done:List (Nat×Nat)),k<=s.size/\at_=.int .i64 k/\(scan s.data.toList).1=done++(scan (s.data.toList.drop k)).1/\(done.map (·.2)).sum=k /\
     (scan s.data.toList).2=(scan (s.data.toList.drop k)).2/\I done wr/\Bw W wr) (λat_ _ _ _ _=>s.size - (intOf at_).toNat)
 case atStart=>exact⟨0,[],Nat.zero_le _,rfl,by rw[List.drop_zero];rfl,rfl,by rw[List.drop_zero],h0,hw⟩
 case round =>
  obtain⟨k,done,hk,rfl,hd1,hd2,hd3,hI,hwr⟩:=hrel;have hTr:=Go.Proofs.Utf8Tabs_below hT hwr
  by_cases hlt:k<s.size
  . have hne:s.data.toList.drop k≠[]:=by
      intro e;have:=congrArg List.length e;rw[List.length_drop,List.length_nil,←Lib.size_eq]at this;omega
    have hdec:Lib.decodeGo (s.extract k s.size)=dec (s.data.toList.drop k):=by
     unfold Lib.decodeGo;rw[if_neg (by rw[ByteArray.size_extract];omega),JeS]
    have hge:=JgD (s.data.toList.drop k);have hle:=JnD hne;have hle4:=JtA (s.data.toList.drop k);have cD:=utf8_DecodeRuneInString (s.extract k s.size) wr hTr;rw[hdec]at cD
    by_cases hb:badB (dec (s.data.toList.drop k))=true
    . have hs2:=Jiy hne hb
      have hpl:Hid (Jgq s.data.toList=k):=key done k hd1 hd2 hd3 (by rw[hs2]);have hf:(scan s.data.toList).2=false:=by rw[hd3,hs2]
      have hfin:Hid (I (scan s.data.toList).1 wr):=by show I _ wr;rw[hd1,hs2,List.append_nil];exact hI
      have hb':(dec (s.data.toList.drop k)).1=65533/\(dec (s.data.toList.drop k)).2=1:=Jht hb;rw[hb'.1,hb'.2]at cD;clear hdec hge hle hle4 hb hb' hd1 hd2 hd3 hs2 hne key hI
      go_wp2_with (first | (go_at_call 94;refine cD.mono ?_;rintro e w1 ⟨rfl,hb1⟩) | (go_at_call 136;refine(Jm5 _ _).mono ?_;rintro e w2 ⟨⟨v,rfl,hv⟩,hb2⟩))
      go_ret;have hb12:Bw wr w2:=hb1.trans (hb2.mono hb1.size);refine⟨hwr.trans (hb12.mono hwr.size),H.stays _ _ _ hfin hb12,.inr ⟨hf,v,rfl,?_⟩⟩;rw[hpl];exact Jtk hv (Nat.le_trans hwr.size hb1.size)
    . have hb:badB (dec (s.data.toList.drop k))=false:=Bool.eq_false_iff.2 hb
      have hs2:=Jf9 hne hb;have hl:(scan s.data.toList).1=done++dec (s.data.toList.drop k) :: (scan ((s.data.toList.drop k).drop (dec (s.data.toList.drop k)).2)).1:=by rw[hd1,hs2]
      have hl':(scan s.data.toList).2=(scan ((s.data.toList.drop k).drop (dec (s.data.toList.drop k)).2)).2:=by rw[hd3,hs2]
      rw[List.drop_drop]at hl hl';rw[List.length_drop,←Lib.size_eq]at hle;have hstep:=H.step done _ _ hl;obtain⟨R,hR⟩:∃R,R=(dec (s.data.toList.drop k)).1:=⟨_,rfl⟩;obtain⟨K,hK⟩:∃K,K=(dec (s.data.toList.drop k)).2:=⟨_,rfl⟩;have hp:dec (s.data.toList.drop k)=(R,K):=by rw[hR,hK]
      rw[hp]at cD hb hge hle hle4 hl hl' hstep;have hnext:Hid ((scan s.data.toList).1=done++[(R,K)]++(scan (s.data.toList.drop (k+K))).1):=by
       show _=_;rw[hl,List.append_assoc];rfl
      have hnext2:Hid (((done++[(R,K)]).map (·.2)).sum=k+K):=by
       show _=_;rw[List.map_append,List.sum_append,hd2];rfl
      have hnext3:=hdz hl';simp only[]at hge hle;clear hdec hd1 hd2 hd3 hs2 hne key hle4 hl hl' hR hK hp;have hbF:=Jlf hb;clear hb
      rcases hbF with hr|⟨hr,hr2⟩
      . have hr0:((R:Int)==65533)=false:=by
          rw[beq_eq_false_iff_ne];intro e;exact hr (by omega)
        clear hr
        go_wp2_with (first | (go_at_call 94;refine cD.mono ?_;rintro e w1 ⟨rfl,hb1⟩) | (go_at_fn F;refine(hstep w1 (H.stays _ _ _ hI hb1) (hwr.trans (hb1.mono hwr.size))).mono ?_;rintro e w2 ⟨rfl,hI2,hb2⟩))
        go_roundw
        case rel=>exact⟨k+K,done++[(R,K)],by omega,by go_num,hnext,hnext2,hnext3,hI2,hb2⟩
        case measure=>simp[intOf];omega
      . have hr0:((K:Int)==1)=false:=by
          rw[beq_eq_false_iff_ne];intro e;exact hr2 (by omega)
        subst hr;clear hr2
        go_wp2_with (first | (go_at_call 94;refine cD.mono ?_;rintro e w1 ⟨rfl,hb1⟩) | (go_at_fn F;refine(hstep w1 (H.stays _ _ _ hI hb1) (hwr.trans (hb1.mono hwr.size))).mono ?_;rintro e w2 ⟨rfl,hI2,hb2⟩))
        go_roundw
        case rel=>exact⟨k+K,done++[(65533,K)],by omega,by go_num,hnext,hnext2,hnext3,hI2,hb2⟩
        case measure=>simp[intOf];omega
  . have hend:s.data.toList.drop k=[]:=List.drop_eq_nil_of_le (by rw[←Lib.size_eq];omega)
    rw[hend,JgP]at hd1 hd3;rw[List.append_nil]at hd1;have hfin:Hid (I (scan s.data.toList).1 wr):=by show I _ wr;rw[hd1];exact hI
    clear hd1 hend key hTr;go_wp2;go_ret;refine⟨hwr,hfin,?_⟩
    first | exact rfl | exact .inl ⟨hd3,rfl⟩
section
open Go.Extern.Stop Go.Stop Go.Extern
theorem JvQ(a:Nat)(n:Int)(t:Nat)(old:Value)(w:World)(hg:JbM w)(ha:w.cell? (Ad a 0)=some (I6 n))(ht:w.cell? (Ad t 0)=some old)(hf:w.frozen? (Ad t 0)=false) :
    Cg 152 #[.iface 229 (Pd a 0),.iface 200 (Pd t 0)] w
     λe w'=>e=.returned (.bool true)/\w'.cell? (Ad t 0)=some (I6 n)/\Below t w w':=by
 have hVO:=@run_callFunc_extern Tryz.prog 197 _ (λargs=>ReflectliteValue.unpack (args.getD 0 (.tuple #[]))) Tryz.func197 (by kernel_rfl) (by kernel_rfl) (by kernel_rfl) (by kernel_rfl);have hTy:=@run_callFunc_extern Tryz.prog 198 _ (ReflectliteValue.methodAny (ReflectliteValue.valueError "reflectlite.Value.Type" 0) (λt _ _ _=>ReflectliteType.toType t)) Tryz.func198 (by kernel_rfl) (by kernel_rfl) (by kernel_rfl) (by kernel_rfl);have hIN:=@run_callFunc_extern Tryz.prog 199 _ (ReflectliteValue.method (ReflectliteValue.valueError "reflectlite.Value.IsNil" 0) ReflectliteValue.isNil) Tryz.func199 (by kernel_rfl) (by kernel_rfl) (by kernel_rfl) (by kernel_rfl);have hKd:=@run_callFunc_extern Tryz.prog 289 _ (ReflectliteType.abiMethod λt=>do pure (.int .u8 (← Rtype.kind t))) Tryz.func289 (by kernel_rfl) (by kernel_rfl) (by kernel_rfl) (by kernel_rfl);have hEl:=@run_callFunc_extern Tryz.prog 306 _ (ReflectliteType.method ReflectliteType.elem) Tryz.func306 (by kernel_rfl) (by kernel_rfl) (by kernel_rfl) (by kernel_rfl);have hIm:=@run_callFunc_extern Tryz.prog 307 _ (ReflectliteType.relation "Implements" ReflectliteType.implements_) Tryz.func307 (by kernel_rfl) (by kernel_rfl) (by kernel_rfl) (by kernel_rfl);have f6:=Jlh;have f7:=JtO;have mK:=Jhu;have mE:=Jhv;have mI:=Jes;have k92:=Jqj;have k23:=Jqk;have e92:=JtU;have i23:=Jhw;have htl:=blt w _ ht;have hal:=blt w _ ha;have hgl:=blt w _ hg;obtain⟨o1,ho1⟩:∃o,o=Oc #[Pd t 0] 200:=⟨_,rfl⟩;obtain⟨o2,ho2⟩:∃o,o=Oc #[Pd 9 200,Pd w.heap.size 0,.int .u64 150] 240:=⟨_,rfl⟩;have hn8:=Jql (Ad w.heap.size 0) (Ad t 0) ((w.alloc o1).alloc o2) (by rw[World.cell?_alloc_lt _ _ (Ad w.heap.size 0) (by rw[wsa];exact Nat.lt_succ_self _),ho1];simp[go_sem]);have hg2:((w.alloc o1).alloc o2).cell? (Ad 2 0)=some (.iface 297 (.agg #[Pd 9 35])):=by
  rw[World.cell?_alloc_lt _ _ (Ad 2 0) (by rw[wsa];exact Nat.lt_succ_of_lt hgl),World.cell?_alloc_lt _ _ (Ad 2 0) hgl];exact hg
 have hb2:Bw w ((w.alloc o1).alloc o2):=(zA _ _).alloc (by rw[wsa];exact Nat.le_succ _) _
 have cA:=JvH a n t w.heap.size old ((w.alloc o1).alloc o2)
  (by rw[zC hb2 a 0 hal];exact ha)
  (by rw[World.cell?_alloc_lt _ _ (Ad w.heap.size 0) (by rw[wsa];exact Nat.lt_succ_self _),ho1];simp[go_sem])
  (by rw[zC hb2 t 0 htl];exact ht)
  (by rw[hb2.frozen (p:=(Ad t 0)) htl];exact hf)
 unfold target at cA;subst ho1 ho2;have HB:Hid (Below t w _):=hb2.mono (Nat.le_of_lt htl);clear ha ht hf hg hb2
 go_enter func152,ntmps152
 go_wp2_with (go_at_call 200;refine cA.mono ?_;rintro e wx ⟨rfl,hc,hbx⟩)
 go_ret;exact⟨rfl,hc,HB.out.trans hbx⟩
theorem JvP(w:World):Cg 93 #[.nilIface] w λe w'=>e=.returned (I6 0)/\w'=w:=by
 go_enter func93,ntmps93
 go_wp2;go_ret;exact⟨rfl,rfl⟩
theorem JhP(a:Nat)(n:Int)(w:World)(hg:JbM w)(ha:w.cell? (Ad a 0)=some (I6 n)) :
    Cg 93 #[.iface 229 (Pd a 0)] w (Rt w (I6 n)):=by
 have hal:=blt w _ ha;have hgl:=blt w _ hg;have hb1:Bw w (w.alloc (Oc #[I6 0] 25)):=zA _ _
 have cA:=JvQ a n w.heap.size (I6 0) (w.alloc (Oc #[I6 0] 25)) (by unfold JbM;rw[zC hb1 2 0 hgl];exact hg)
  (by rw[zC hb1 a 0 hal];exact ha) (by simp[go_sem]) (by simp[go_sem])
 clear hg ha
 go_enter func93,ntmps93
 go_wp2_with (go_at_call 152;refine cA.mono ?_;rintro e wx ⟨rfl,hc,hbx⟩)
 go_ret;exact⟨rfl,hb1.trans hbx⟩
theorem JaQ{w w':World}(h:JbM w)(hb:Bw w w'):JbM w':=by
 unfold JbM;rw[zC hb 2 0 (blt w _ h)];exact h
end
section
variable {w w' : World}{B e size n a : Nat}{v : Value}{xs : List Value}
theorem Jbl(h:w.ownsRow B e size v n xs)(hb:Bw w w'):w'.ownsRow B e size v n xs:=by
 refine⟨h.1,?_⟩
 rcases h.2 with hn|⟨g,cap,cur,rfl,hg,hgg,rest⟩
 . exact .inl hn
 . exact .inr ⟨g,cap,cur,rfl,hg,by rw[hb.block g (alt hgg)];exact hgg,rest⟩
theorem Jak(h:w.ownsRow B e size v n xs):∃p c,v=.slice p n c:=by
 rcases h.2 with ⟨rfl,rfl⟩|⟨g,cap,cur,rfl,_⟩
 . exact⟨_,_,rfl⟩
 . exact⟨_,_,rfl⟩
def Jem (w:World) (e a:Nat) (xs:List Value):Prop :=
 ∃p c,w.cell? (Ad a 0)=some (.slice p xs.length c)/\w.frozen? (Ad a 0)=false/\w.ownsRow (a+1) e 1 (.slice p xs.length c) xs.length xs
theorem JhE(h:Jem w e a xs):a<w.heap.size:=by
 obtain⟨p,c,h1,_⟩:=h;exact blt w _ h1
theorem Jhf(h:Jem w e a xs)(hb:Bw w w'):Jem w' e a xs:=by
 have hlt:=JhE h;obtain⟨p,c,h1,h2,h3⟩:=h;exact⟨p,c,by rw[zC hb a 0 hlt];exact h1,by rw[hb.frozen (p:=(Ad a 0)) hlt];exact h2,Jbl h3 hb⟩
theorem Jig(w:World)(e T:Nat):Jem (w.alloc (Oc #[.slice none 0 0] T)) e w.heap.size [] :=
 ⟨none,0,by simp[go_sem],by simp[go_sem],World.ownsRow_nil _ _ _ _⟩
theorem Jif{w w1:World}{e a:Nat}{xs ys:List Value}{p:Option Addr}{c:Nat}{o:Obj}{v':Value}(hlt:a<w.heap.size)(h2:w.frozen? (Ad a 0)=false)(hc:w.cell? (Ad a 0)=some (.slice p xs.length c))
    (hown:w.ownsRow (a+1) e 1 (.slice p xs.length c) xs.length xs)
    (hown1:w1.ownsRow (a+1) e 1 v' (xs.length+ys.length) (xs++ys)) (hg:(w.alloc o).grownBy w1 (Value.slice p xs.length c).ownBlock) :
    Jem (w1.setCell (Ad a 0) v') e a (xs++ys)/\Below a w (w1.setCell (Ad a 0) v')/\w1.cell? (Ad a 0)=some (.slice p xs.length c)/\w1.frozen? (Ad a 0)=false/\w.heap.size<=w1.heap.size:=by
 have hrow:∀k,(Value.slice p xs.length c).ownBlock=some k->a+1<=k:=λk hk=>(hown.lt k hk).1;have hb1:Below (a+1) w w1:=((brf (a+1) w).alloc hlt o).grown hg (by rw[wsa];omega) hrow;have hc1:w1.cell? (Ad a 0)=some (.slice p xs.length c):=by rw[zC hb1 a 0 (Nat.lt_succ_self a)];exact hc
 have hf1:w1.frozen? (Ad a 0)=false:=by rw[hb1.frozen (p:=(Ad a 0)) (Nat.lt_succ_self a)];exact h2
 obtain⟨p',c',rfl⟩:=Jak hown1;refine⟨⟨p',c',?_,?_,?_⟩,(hb1.mono (Nat.le_succ a)).setCell (nlr _) _,hc1,hf1,hb1.size⟩
 . rw[List.length_append];exact World.cell?_setCell_same _ _ _ hc1
 . rw[World.frozen?_setCell];exact hf1
 . rw[List.length_append];exact ownsRow_setCell_below hown1 (Nat.lt_succ_self a) _
theorem info21:(prog.info? 21).map (λi=>(i.zero,i.size,i.bytes))=some (some (.int .i32 0),1,4):=by kernel_rfl
theorem Jwg:(prog.info? 186).map (λi=>(i.zero,i.size,i.bytes))=some (some (.int .u16 0),1,2):=by kernel_rfl
theorem JqK(r n:Int)(a:Nat)(w:World)(xs:List Value)(h:Jem w 21 a xs)(hlen:xs.length<1000000000) :
    Cg 196 #[.int .i32 r,I6 n,Pd a 0] w λe w'=>e=.returned (.bool true)/\Jem w' 21 a (xs++[.int .i32 r])/\Below a w w':=by
 obtain⟨i0,hi,hz0,hz1,hz2⟩:=info_parts info21;have hlt:=JhE h;obtain⟨p,c,hc,hf,hown⟩:=h
 go_enter func196,ntmps196
 go_wp2_with (at_builtin;refine wpList_append_own _ rfl _ _ 132 rfl (a+1) 21 i0 (.int .i32 0) 1 4 underlying132 hi hz0 hz1 hz2 rfl (by decide) _ _ _ rfl (hown.alloc _) (Ad w.heap.size 0) 1 1 [.int .i32 r] rfl rfl (cell_one_new _ _ _) (ints_oneCell .i32 [r]) ?c3 ?c4 ?c5 ?_)
 case c3=>unfold maxLen;omega
 case c4=>omega
 case c5=>first | omega | (simp;omega)
 intro v' w1 hown1 hg _;obtain⟨R1,R2,R3,R4,R5⟩:=Jif (ys:=[.int .i32 r]) hlt hf hc hown hown1 hg;obtain⟨p',c',hv⟩:=Jak hown1;clear hown hown1 hg hc hf;rw[hv]at R1 R2 ⊢;go_wp2;go_ret;exact⟨rfl,R1,R2⟩
def Jdh (r:Nat):List Value:=(hal r).map λh:Nat=>Value.int .u16 (h:Int)
theorem and1023(r:Int)(h0:0<=r)(h1:r<=1114111):bits BinOp.and IntKind.i32 r 1023=r % 1024:=by
 obtain⟨x,rfl⟩:∃x:Nat,r=x:=⟨r.toNat,by omega⟩;show IntKind.i32.wrap ((BitVec.ofInt 32 (x:Int) &&& BitVec.ofInt 32 ((1023:Nat):Int)).toNat:Int)=_;have hm:x &&& 1023=x % 1024:=Nat.and_two_pow_sub_one_eq_mod x 10;rw[BitVec.toNat_and,ofInt_u32 x (by omega),ofInt_u32 1023 (by omega),hm];exact(Lib.wrap_i32_small _ (by omega)).trans (Int.natCast_emod x 1024)
theorem Jis(r:Int)(h0:0<=r)(h1:r<65536)(B n:Nat)(w:World)(v:Value)(xs:List Value)(hown:w.ownsRow B 186 1 v n xs)(hlen:n<1000000000)(hB:B<=w.heap.size) :
    Cg 194 #[v,.int .i32 r] w λe w'=>∃v' o,e=.returned v'/\w'.ownsRow B 186 1 v' (n+1) (xs++[.int .u16 r])/\(w.alloc o).grownBy w' v.ownBlock:=by
 obtain⟨i0,hi,hz0,hz1,hz2⟩:=info_parts Jwg;obtain⟨p,c,rfl⟩:=Jak hown
 go_enter func194,ntmps194
 go_wp2_with (at_builtin;refine wpList_append_own _ rfl _ _ 131 rfl B 186 i0 (.int .u16 0) 1 2 underlying131 hi hz0 hz1 hz2 rfl (by decide) _ _ _ rfl (hown.alloc _) (Ad w.heap.size 0) 1 1 [.int .u16 r] rfl rfl (cell_one_new _ _ _) (ints_oneCell .u16 [r]) ?c3 ?c4 ?c5 ?_)
 case c3=>unfold maxLen;omega
 case c4=>omega
 case c5=>first | omega | (simp;omega)
 intro v' w1 hown1 hg _;obtain⟨p',c',hv⟩:=Jak hown1;clear hown hi hz0 hz1 hz2;rw[hv]at hown1 ⊢;go_wp2;go_ret;exact⟨_,_,rfl,hown1,hg⟩
theorem Jir(r:Int)(h1:¬r<65536)(h2:r<=1114111)(B n:Nat)(w:World)(v:Value)(xs:List Value)(hown:w.ownsRow B 186 1 v n xs)(hlen:n<1000000000)(hB:B<=w.heap.size) :
    Cg 194 #[v,.int .i32 r] w λe w'=>∃v' o,e=.returned v'/\w'.ownsRow B 186 1 v' (n+2) (xs++[.int .u16 (55296+(r - 65536) / 1024),.int .u16 (56320+(r - 65536) % 1024)])/\(w.alloc o).grownBy w' v.ownBlock:=by
 obtain⟨i0,hi,hz0,hz1,hz2⟩:=info_parts Jwg;obtain⟨p,c,rfl⟩:=Jak hown;have ha:=and1023 (r - 65536) (by omega) (by omega)
 go_enter func194,ntmps194
 go_wp2_with (at_builtin;refine wpList_append_own _ rfl _ _ 131 rfl B 186 i0 (.int .u16 0) 1 2 underlying131 hi hz0 hz1 hz2 rfl (by decide) _ _ _ rfl (hown.alloc _) (Ad w.heap.size 0) 2 2 [.int .u16 (55296+(r - 65536) / 1024),.int .u16 (56320+(r - 65536) % 1024)] rfl rfl (cell_two_new _ _ _ _) (ints_oneCell .u16 [55296+(r - 65536) / 1024,56320+(r - 65536) % 1024]) ?c3 ?c4 ?c5 ?_)
 case c3=>unfold maxLen;omega
 case c4=>omega
 case c5=>first | omega | (simp;omega)
 intro v' w1 hown1 hg _;obtain⟨p',c',hv⟩:=Jak hown1;clear hown hi hz0 hz1 hz2;rw[hv]at hown1 ⊢;go_wp2;go_ret;exact⟨_,_,rfl,hown1,hg⟩
end
section
variable {r a B : Nat}{w w' : World}{n1 n2 n3 n4 : Int}
theorem Jie(h:r<65536):Jdh r=[.int .u16 r]:=by simp[Jdh,hal,h]
theorem Jid(h:¬r<65536):Jdh r=[.int .u16 (55296+((r:Int) - 65536) / 1024),.int .u16 (56320+((r:Int) - 65536) % 1024)]:=by
 simp only[Jdh,hal,h,if_false,List.map_cons,List.map_nil];rw[show((55296+(r - 65536) / 1024:Nat):Int)=55296+((r:Int) - 65536) / 1024 by omega,show((56320+(r - 65536) % 1024:Nat):Int)=56320+((r:Int) - 65536) % 1024 by omega]
theorem Jpb(r:Nat):(Jdh r).length<=2:=by
 by_cases h:r<65536
 . rw[Jie h];simp
 . rw[Jid h];simp
theorem Jit(r:Nat)(h2:r<=1114111)(B n:Nat)(w:World)(v:Value)(xs:List Value)(hown:w.ownsRow B 186 1 v n xs)(hlen:n<1000000000)(hB:B<=w.heap.size) :
    Cg 194 #[v,.int .i32 r] w λe w'=>∃p c o m,e=.returned (.slice p m c)/\m=n+(Jdh r).length/\w'.ownsRow B 186 1 (.slice p m c) m (xs++Jdh r)/\(w.alloc o).grownBy w' v.ownBlock:=by
 by_cases h:r<65536
 . rw[Jie h]
   refine(Jis r (by omega) (by omega) B n w v xs hown hlen hB).mono ?_;rintro e w' ⟨v',o,rfl,h1,h2⟩;obtain⟨p,c,rfl⟩:=Jak h1;exact⟨p,c,o,_,rfl,rfl,h1,h2⟩
 . rw[Jid h]
   refine(Jir r (by omega) (by omega) B n w v xs hown hlen hB).mono ?_;rintro e w' ⟨v',o,rfl,h1,h2⟩;obtain⟨p,c,rfl⟩:=Jak h1;exact⟨p,c,o,_,rfl,rfl,h1,h2⟩
theorem Jpa(r:Nat)(hr:r<=1114111)(n:Int)(a:Nat)(w:World)(xs:List Value)(h:Jem w 186 a xs)(hlen:xs.length<1000000000) :
    Cg 193 #[.int .i32 r,I6 n,Pd a 0] w λe w'=>e=.returned (.bool true)/\Jem w' 186 a (xs++Jdh r)/\Below a w w':=by
 have hlt:=JhE h;obtain⟨p,c,hc,hf,hown⟩:=h;have cA:=Jit r hr (a+1) xs.length w _ xs hown hlen hlt;obtain⟨ys,hys⟩:∃ys,ys=Jdh r:=⟨_,rfl⟩;rw[←hys]at cA ⊢;clear hr hys;generalize (r:Int)=R at cA ⊢;have NX:=λ(w1:World) (o:Obj) (v':Value)=>@Jif w w1 186 a xs ys p c o v' hlt hf hc hown;have HN:=hdz NX;clear NX hown
 go_enter func193,ntmps193
 go_wp2_with (go_at_call 194;refine cA.mono ?_;rintro e w1 ⟨p',c',o,m,rfl,hm,hown1,hg⟩;have Rs:=HN.out w1 o _ (by rw[←hm];exact hown1) hg;obtain⟨R1,R2,R3,R4,R5⟩:=Rs;clear hown1 hg hm)
 go_ret;exact⟨rfl,R1,R2⟩
theorem JgV(a1 a2 a3 a4 b1 b2 b3 b4:Int)(w:World) :
    Cg 87 #[.agg #[I6 a1,I6 a2,I6 a3,I6 a4],.agg #[I6 b1,I6 b2,I6 b3,I6 b4]] w
     (Rt w (.agg #[I6 (wrap64 (a1+b1)),I6 (wrap64 (a2+b2)),I6 (wrap64 (a3+b3)),I6 (wrap64 (a4+b4))])):=by
 go_enter func87,ntmps87
 go_wp2;refine bodyPost_ret (v:=.agg #[I6 (wrap64 (a1+b1)),I6 (wrap64 (a2+b2)),I6 (wrap64 (a3+b3)),I6 (wrap64 (a4+b4))]) (by simp[results,results87,go_sem]) rfl ⟨rfl,?_⟩;exact((zA _ _).alloc (by simp) _).alloc (by simp[Nat.le_add_right,Nat.add_assoc]) _
def cH (r:Nat):Int:=if r<65536 then 1 else 2
def cL (r:Nat):Int:=if r=10 then 1 else 0
theorem Jii(r:Nat)(n:Int)(w:World) :
    Cg 88 #[.int .i32 r,I6 n] w
     (Rt w (.agg #[I6 n,I6 (cH r),I6 1,I6 (cL r)])):=by
 by_cases h1:r<65536
 . have e1:cH r=1:=if_pos h1
   by_cases h2:r=10
   . have e2:cL r=1:=if_pos h2
     rw[e1,e2];subst h2;clear h1 e1 e2
     go_enter func88,ntmps88
     go_wp2;refine bodyPost_ret (v:=.agg #[I6 n,I6 1,I6 1,I6 1]) (by simp[results,results88,go_sem]) rfl ⟨rfl,?_⟩;exact(zA _ _).alloc (by simp) _
   . have e2:cL r=0:=if_neg h2
     rw[e1,e2];have k1:(r:Int)<65536:=by omega
     have k2:((r:Int)==10)=false:=by rw[beq_eq_false_iff_ne];omega
     clear e1 e2 h1 h2;generalize (r:Int)=R at k1 k2 ⊢
     go_enter func88,ntmps88
     go_wp2;refine bodyPost_ret (v:=.agg #[I6 n,I6 1,I6 1,I6 0]) (by simp[results,results88,go_sem]) rfl ⟨rfl,?_⟩;exact(zA _ _).alloc (by simp) _
 . have e1:cH r=2:=if_neg h1
   have e2:cL r=0:=if_neg (by omega);rw[e1,e2]
   . have k1:¬(r:Int)<65536:=by omega
     have k2:((r:Int)==10)=false:=by rw[beq_eq_false_iff_ne];omega
     clear e1 e2 h1;generalize (r:Int)=R at k1 k2 ⊢
     go_enter func88,ntmps88
     go_wp2;refine bodyPost_ret (v:=.agg #[I6 n,I6 2,I6 1,I6 0]) (by simp[results,results88,go_sem]) rfl ⟨rfl,?_⟩;exact(zA _ _).alloc (by simp) _
def counted (w:World) (a:Nat) (n1 n2 n3 n4:Int):Prop :=
 (w.cell? (Ad a 0)=some (I6 n1)/\w.cell? (Ad a 1)=some (I6 n2)/\w.cell? (Ad a 2)=some (I6 n3)/\w.cell? (Ad a 3)=some (I6 n4)) /\
 (w.frozen? (Ad a 0)=false/\w.frozen? (Ad a 1)=false/\w.frozen? (Ad a 2)=false/\w.frozen? (Ad a 3)=false)
theorem Jca(h:counted w a n1 n2 n3 n4):a<w.heap.size:=blt w _ h.1.1
theorem JaR(h:counted w a n1 n2 n3 n4)(hb:Below B w w')(hlt:a<B):counted w' a n1 n2 n3 n4:=by
 obtain⟨⟨a0,a1,a2,a3⟩,b0,b1,b2,b3⟩:=h;refine⟨⟨?_,?_,?_,?_⟩,?_,?_,?_,?_⟩
 . rw[zC hb a 0 hlt];exact a0
 . rw[zC hb a 1 hlt];exact a1
 . rw[zC hb a 2 hlt];exact a2
 . rw[zC hb a 3 hlt];exact a3
 . rw[hb.frozen (p:=(Ad a 0)) hlt];exact b0
 . rw[hb.frozen (p:=(Ad a 1)) hlt];exact b1
 . rw[hb.frozen (p:=(Ad a 2)) hlt];exact b2
 . rw[hb.frozen (p:=(Ad a 3)) hlt];exact b3
theorem Jad(h:counted w a n1 n2 n3 n4)(hb:Bw w w'):counted w' a n1 n2 n3 n4:=JaR h hb (Jca h)
theorem JaN{m1 m2 m3 m4:Int}(h:counted w a n1 n2 n3 n4) :
    counted ((((w.setCell (Ad a 0) (I6 m1)).setCell (Ad a 1) (I6 m2)).setCell (Ad a 2) (I6 m3)).setCell (Ad a 3) (I6 m4)) a m1 m2 m3 m4:=by
 obtain⟨⟨a0,a1,a2,a3⟩,b0,b1,b2,b3⟩:=h;refine⟨⟨?_,?_,?_,?_⟩,?_,?_,?_,?_⟩
 all_goals simp[go_sem,a0,a1,a2,a3,b0,b1,b2,b3]
theorem Jhs(hb:Below B w w')(hB:B<=a)(v1 v2 v3 v4:Value) :
    Below B w ((((w'.setCell (Ad a 0) v1).setCell (Ad a 1) v2).setCell (Ad a 2) v3).setCell (Ad a 3) v4) :=
 (((hb.setCell (p:=(Ad a 0)) hB _).setCell (p:=(Ad a 1)) hB _).setCell (p:=(Ad a 2)) hB _).setCell (p:=(Ad a 3)) hB _
theorem JkQ(r:Nat)(n:Int)(a:Nat)(w:World)(n1 n2 n3 n4:Int)(h:counted w a n1 n2 n3 n4) :
    Cg 86 #[.int .i32 r,I6 n,Pd a 0] w λe w'=>e=.returned (.bool true) /\
     counted w' a (wrap64 (n1+n)) (wrap64 (n2+cH r)) (wrap64 (n3+1)) (wrap64 (n4+cL r))/\Below a w w':=by
 have hlt:=Jca h;have HC:=hdz h;obtain⟨⟨a0,a1,a2,a3⟩,b0,b1,b2,b3⟩:=h;have cO:=λ(w:World)=>Jii r n w;generalize cH r=x2 at cO ⊢;generalize cL r=x4 at cO ⊢;generalize (r:Int)=R at cO ⊢
 go_enter func86,ntmps86
 go_wp2
 go_region_with (first | (go_at_call 88;refine(cO _).mono ?_;rintro e w1 ⟨rfl,hb1⟩;have HC1:counted w1 a n1 n2 n3 n4:=JaR (w:=w.drew) HC.out hb1 hlt;have HD1:=hdz HC1;obtain⟨⟨c0,c1,c2,c3⟩,d0,d1,d2,d3⟩:=HC1) | (go_at_call 87;refine(JgV _ _ _ _ _ _ _ _ _).mono ?_;rintro e w2 ⟨rfl,hb2⟩;have HC2:counted w2 a n1 n2 n3 n4:=JaR (w:=w1) HD1.out hb2 (Nat.lt_of_lt_of_le hlt hb1.size);have HD2:=hdz HC2;obtain⟨⟨c0,c1,c2,c3⟩,d0,d1,d2,d3⟩:=HC2))
 all_goals
  have hbb:Below a w w2:=(Below.drew (brf a w)).trans ((hb1.trans (hb2.mono hb1.size)).mono (Nat.le_of_lt hlt));clear a0 a1 a2 a3 b0 b1 b2 b3 HC HD1 hb1 hb2 c0 c1 c2 c3 d0 d1 d2 d3;go_wp2;go_ret;exact⟨rfl,JaN HD2.out,Jhs hbb (nlr _) _ _ _ _⟩
/-! ### What is gathered over runes -/
def Jdk (l:List (Nat×Nat)):List Value:=l.map λp=>Value.int .i32 (p.1:Int)
def Jc6 (l:List (Nat×Nat)):List Value:=l.flatMap λp=>Jdh p.1
def sum1 (l:List (Nat×Nat)):Int:=(l.map λp=>(p.2:Int)).sum
def sum2 (l:List (Nat×Nat)):Int:=(l.map λp=>cH p.1).sum
def sum4 (l:List (Nat×Nat)):Int:=(l.map λp=>cL p.1).sum
theorem Jo5(W:World)(a:Nat)(l:List (Nat×Nat))(ha:W.heap.size<=a)(hl:l.length<1000000000) :
    Takes W 196 #[Pd a 0] l λdone w=>Jem w 21 a (Jdk done) where
 enters:=enters_of func196 (by kernel_rfl) rfl
 stays:=λ_ _ _ h hb=>Jhf h hb
 step := λdone p rest e w hI hw=>by
  have hlen:(Jdk done).length<1000000000:=by
   have:=congrArg List.length e;rw[List.length_append]at this;unfold Jdk;rw[List.length_map];omega
  refine(JqK p.1 p.2 a w _ hI hlen).mono ?_;rintro e w' ⟨rfl,h1,h2⟩;refine⟨rfl,?_,hw.trans (h2.mono ha)⟩;unfold Jdk;rw[List.map_append];exact h1
theorem JnP(l:List (Nat×Nat)):(Jc6 l).length<=2*l.length:=by
 induction l with
 | nil=>simp[Jc6]
 | cons p l ih =>
  have:=Jpb p.1;unfold Jc6 at ih ⊢;rw[List.flatMap_cons,List.length_append,List.length_cons];omega
theorem Jnx(W:World)(a:Nat)(l:List (Nat×Nat))(ha:W.heap.size<=a)(hl:l.length<500000000)(hr:∀p∈l,Jbp p.1) :
    Takes W 193 #[Pd a 0] l λdone w=>Jem w 186 a (Jc6 done) where
 enters:=enters_of func193 (by kernel_rfl) rfl
 stays:=λ_ _ _ h hb=>Jhf h hb
 step := λdone p rest e w hI hw=>by
  have hlen:(Jc6 done).length<1000000000:=by
   have:=congrArg List.length e;rw[List.length_append]at this;have:=JnP done;omega
  have hp:p.1<=1114111:=by
   have:=hr p (by rw[e];simp);unfold Jbp at this;omega
  refine(Jpa p.1 hp p.2 a w _ hI hlen).mono ?_;rintro e w' ⟨rfl,h1,h2⟩;refine⟨rfl,?_,hw.trans (h2.mono ha)⟩;unfold Jc6;rw[List.flatMap_append,List.flatMap_cons,List.flatMap_nil,List.append_nil];exact h1
theorem JvF(r:Nat):0<=cH r/\cH r<=2:=by unfold cH;split<;>omega
theorem JvE(r:Nat):0<=cL r/\cL r<=1:=by unfold cL;split<;>omega
theorem JiO(l:List (Nat×Nat)):0<=sum2 l/\sum2 l<=2*l.length:=by
 induction l with
 | nil=>simp[sum2]
 | cons p l ih=>have:=JvF p.1;unfold sum2 at ih ⊢;rw[List.map_cons,List.sum_cons,List.length_cons];omega
theorem JiN(l:List (Nat×Nat)):0<=sum4 l/\sum4 l<=l.length:=by
 induction l with
 | nil=>simp[sum4]
 | cons p l ih=>have:=JvE p.1;unfold sum4 at ih ⊢;rw[List.map_cons,List.sum_cons,List.length_cons];omega
theorem JlC(l:List (Nat×Nat))(h:∀p∈l,p.2<=4):0<=sum1 l/\sum1 l<=4*l.length:=by
 induction l with
 | nil=>simp[sum1]
 | cons p l ih =>
  have h1:=h p (by simp);have:=ih λq hq=>h q (by simp[hq]);unfold sum1 at this ⊢;rw[List.map_cons,List.sum_cons,List.length_cons];omega
theorem Jar{n:Int}(h0:0<=n)(h1:n<9223372036854775808):wrap64 n=n:=by unfold wrap64;omega
theorem Jph(W:World)(a:Nat)(l:List (Nat×Nat))(ha:W.heap.size<=a)(hl:l.length<1000000000)(hr:∀p∈l,p.2<=4) :
    Takes W 86 #[Pd a 0] l λdone w=>counted w a (sum1 done) (sum2 done) (done.length:Int) (sum4 done) where
 enters:=enters_of func86 (by kernel_rfl) rfl
 stays:=λ_ _ _ h hb=>Jad h hb
 step:=λdone p rest e w hI hw=>by
  have hlen:=congrArg List.length e;rw[List.length_append]at hlen;have h1:=JlC done λq hq=>hr q (by rw[e];simp[hq]);have h2:=JiO done;have h4:=JiN done;have hp:=hr p (by rw[e];simp);have hp2:=JvF p.1;have hp4:=JvE p.1;refine(JkQ p.1 p.2 a w _ _ _ _ hI).mono ?_;rintro e w' ⟨rfl,k1,k2⟩;refine⟨rfl,?_,hw.trans (k2.mono ha)⟩;rw[Jar (by omega) (by omega),Jar (by omega) (by omega),Jar (by omega) (by omega),Jar (by omega) (by omega)]at k1;have e1:sum1 (done++[p])=sum1 done+p.2:=by simp[sum1]
  have e2:sum2 (done++[p])=sum2 done+cH p.1:=by simp[sum2]
  have e3:(((done++[p]).length:Nat):Int)=done.length+1:=by simp
  have e4:sum4 (done++[p])=sum4 done+cL p.1:=by simp[sum4]
  rw[e1,e2,e3,e4];exact k1
end
def Jvg (w w':World) (e:Nat) (v:Value) (xs:List Value):Prop:=∃p c,v=.slice p xs.length c/\w'.ownsRow w.heap.size e 1 v xs.length xs
theorem JlR{w:World}{B B' e size n:Nat}{v:Value}{xs:List Value}(h:w.ownsRow B e size v n xs)(hB:B'<=B):w.ownsRow B' e size v n xs:=by
 refine⟨h.1,?_⟩
 rcases h.2 with hn|⟨g,cap,cur,rfl,hg,rest⟩
 . exact .inl hn
 . exact .inr ⟨g,cap,cur,rfl,Nat.le_trans hB hg,rest⟩
theorem Jud(s:ByteArray)(hs:s.size<400000000)(w:World)(hT:Lib.Utf8Tabs 3 4 w) :
    Cg 150 #[.string s] w λe w'=>∃v x,e=.returned (.tuple #[v,x])/\Bw w w' /\
     (((scan s.data.toList).2=true/\x=.nilIface/\Jvg w w' 21 v (Jdk (scan s.data.toList).1)) \/
      ((scan s.data.toList).2=false/\v=.slice none 0 0/\isAt w w' x (Jgq s.data.toList))):=by
 have hlen:=JgQ s.data.toList;rw[←Lib.size_eq]at hlen;have hb0:Bw w (w.alloc (Oc #[.slice none 0 0] 132)):=zA _ _;have cE:=Jml s (by unfold maxLen;omega) 196 #[Pd w.heap.size 0] w hT _ (Jo5 w w.heap.size (scan s.data.toList).1 (nlr _) (by omega)) _ hb0 (Jig w 21 132);clear hlen hs hb0;generalize Jgq s.data.toList=pl at cE ⊢;generalize scan s.data.toList=sc at cE ⊢;obtain⟨rs,ok⟩:=sc;simp only[]at cE ⊢;generalize Jdk rs=xs at cE ⊢
 go_enter func150,ntmps150
 go_wp2_with (go_at_call 85;refine cE.mono ?_;rintro e w1 ⟨hb1,⟨p,c,g1,g2,g3⟩,⟨rfl,rfl⟩|⟨rfl,v,rfl,⟨b,rfl,v1,v2,v3,v4⟩⟩⟩)
 . go_ret2
   have hr:Jvg w w1 21 (.slice p xs.length c) xs:=⟨_,_,rfl,JlR g3 (Nat.le_succ _)⟩;refine⟨_,_,rfl,hb1,?_⟩
   first | exact⟨rfl,hr⟩ | exact .inl ⟨rfl,rfl,hr⟩
 . go_ret2
   have hv:isAt w w1 (.iface 229 (Pd b 0)) pl:=⟨b,rfl,v1,v2,v3,v4⟩;refine⟨_,_,rfl,hb1,?_⟩
   first | exact⟨rfl,hv⟩ | exact .inr ⟨rfl,rfl,hv⟩
theorem JrM(s:ByteArray)(hs:s.size<400000000)(w:World)(hT:Lib.Utf8Tabs 3 4 w) :
    Cg 146 #[.string s] w λe w'=>∃v x,e=.returned (.tuple #[v,x])/\Bw w w' /\
     (((scan s.data.toList).2=true/\x=.nilIface/\Jvg w w' 186 v (Jc6 (scan s.data.toList).1)) \/
      ((scan s.data.toList).2=false/\v=.slice none 0 0/\isAt w w' x (Jgq s.data.toList))):=by
 have hlen:=JgQ s.data.toList;rw[←Lib.size_eq]at hlen;have hb0:Bw w (w.alloc (Oc #[.slice none 0 0] 131)):=zA _ _;have cE:=Jml s (by unfold maxLen;omega) 193 #[Pd w.heap.size 0] w hT _ (Jnx w w.heap.size (scan s.data.toList).1 (nlr _) (by omega) λp hp=>((Jf8 s.data.toList.length _ (nlr _)).1 p hp).1) _ hb0 (Jig w 186 131);clear hlen hs hb0;generalize Jgq s.data.toList=pl at cE ⊢;generalize scan s.data.toList=sc at cE ⊢;obtain⟨rs,ok⟩:=sc;simp only[]at cE ⊢;generalize Jc6 rs=xs at cE ⊢
 go_enter func146,ntmps146
 go_wp2_with (go_at_call 85;refine cE.mono ?_;rintro e w1 ⟨hb1,⟨p,c,g1,g2,g3⟩,⟨rfl,rfl⟩|⟨rfl,v,rfl,⟨b,rfl,v1,v2,v3,v4⟩⟩⟩)
 . go_ret2
   have hr:Jvg w w1 186 (.slice p xs.length c) xs:=⟨_,_,rfl,JlR g3 (Nat.le_succ _)⟩;refine⟨_,_,rfl,hb1,?_⟩
   first | exact⟨rfl,hr⟩ | exact .inl ⟨rfl,rfl,hr⟩
 . go_ret2
   have hv:isAt w w1 (.iface 229 (Pd b 0)) pl:=⟨b,rfl,v1,v2,v3,v4⟩;refine⟨_,_,rfl,hb1,?_⟩
   first | exact⟨rfl,hv⟩ | exact .inr ⟨rfl,rfl,hv⟩
theorem JnH(w:World):counted ((w.alloc (Oc #[I6 0,I6 0,I6 0,I6 0] 78)).alloc (Oc #[I6 0,I6 0,I6 0,I6 0] 78)) w.heap.size 0 0 0 0:=by
 refine⟨⟨?_,?_,?_,?_⟩,?_,?_,?_,?_⟩<;>simp[go_sem]
theorem JnG(w:World):counted ((w.alloc (Oc #[I6 0,I6 0,I6 0,I6 0] 78)).alloc (Oc #[I6 0,I6 0,I6 0,I6 0] 78)) (w.heap.size+1) (sum1 []) (sum2 []) (([]:List (Nat×Nat)).length:Int) (sum4 []):=by
 refine⟨⟨?_,?_,?_,?_⟩,?_,?_,?_,?_⟩<;>simp[go_sem,sum1,sum2,sum4]
theorem JnI(w:World)(l:List (Nat×Nat))(hl:l.length<1000000000)(hr:∀p∈l,p.2<=4) :
    Takes w 86 #[.pointer (some (Ad (w.heap.size+1) 0))] l λdone w'=>counted w' (w.heap.size+1) (sum1 done) (sum2 done) (done.length:Int) (sum4 done)/\counted w' w.heap.size 0 0 0 0:=by
 have T:=Jph w (w.heap.size+1) l (Nat.le_succ _) hl hr;refine⟨T.enters,λdone w1 w2 h hb=>⟨T.stays done w1 w2 h.1 hb,Jad h.2 hb⟩,λdone p rest e w1 hI hw=>?_⟩;have h1:=JlC done λq hq=>hr q (by rw[e];simp[hq]);have hlen:=congrArg List.length e;rw[List.length_append]at hlen;have h2:=JiO done;have h4:=JiN done;have hp:=hr p (by rw[e];simp);have hp2:=JvF p.1;have hp4:=JvE p.1;refine(JkQ p.1 p.2 (w.heap.size+1) w1 _ _ _ _ hI.1).mono ?_;rintro e w2 ⟨rfl,k1,k2⟩;refine⟨rfl,⟨?_,JaR hI.2 k2 (Nat.lt_succ_self _)⟩,hw.trans (k2.mono (Nat.le_succ _))⟩;rw[Jar (by omega) (by omega),Jar (by omega) (by omega),Jar (by omega) (by omega),Jar (by omega) (by omega)]at k1;have e1:sum1 (done++[p])=sum1 done+p.2:=by simp[sum1]
 have e2:sum2 (done++[p])=sum2 done+cH p.1:=by simp[sum2]
 have e3:(((done++[p]).length:Nat):Int)=done.length+1:=by simp
 have e4:sum4 (done++[p])=sum4 done+cL p.1:=by simp[sum4]
 rw[e1,e2,e3,e4];exact k1
def cnt (n1 n2 n3 n4:Int):Value:=.agg #[I6 n1,I6 n2,I6 n3,I6 n4]
theorem JfS(s:ByteArray)(hs:s.size<400000000)(w:World)(hT:Lib.Utf8Tabs 3 4 w) :
    Cg 47 #[.string s] w λe w'=>∃v x,e=.returned (.tuple #[v,x])/\Bw w w' /\
     (((scan s.data.toList).2=true/\x=.nilIface/\v=cnt (sum1 (scan s.data.toList).1) (sum2 (scan s.data.toList).1) (scan s.data.toList).1.length (sum4 (scan s.data.toList).1)) \/
      ((scan s.data.toList).2=false/\v=cnt 0 0 0 0/\isAt w w' x (Jgq s.data.toList))):=by
 have hlen:=JgQ s.data.toList;rw[←Lib.size_eq]at hlen;have hb0:Bw w ((w.alloc (.cells #[.int .i64 0,.int .i64 0,.int .i64 0,.int .i64 0] 78)).alloc (.cells #[.int .i64 0,.int .i64 0,.int .i64 0,.int .i64 0] 78)):=(zA _ _).alloc (by rw[wsa];omega) _
 have cE:=Jml s (by unfold maxLen;omega) 86 #[.pointer (some ⟨w.heap.size+1,0,none⟩)] w hT
  (λdone w'=>counted w' (w.heap.size+1) (sum1 done) (sum2 done) (done.length:Int) (sum4 done)/\counted w' w.heap.size 0 0 0 0)
  (JnI w (scan s.data.toList).1 (by omega) (Jo4 _)) _ hb0 ⟨JnG w,JnH w⟩
 clear hlen hs hb0;generalize Jgq s.data.toList=pl at cE ⊢;generalize scan s.data.toList=sc at cE ⊢;obtain⟨rs,ok⟩:=sc;simp only[]at cE ⊢;generalize sum1 rs=n1 at cE ⊢;generalize sum2 rs=n2 at cE ⊢;generalize sum4 rs=n4 at cE ⊢;generalize (rs.length:Int)=n3 at cE ⊢
 go_enter func47,ntmps47
 go_wp2_with (go_at_call 85;refine cE.mono ?_;rintro e w1 ⟨hb1,⟨⟨⟨a0,a1,a2,a3⟩,b0,b1,b2,b3⟩,⟨c0,c1,c2,c3⟩,d0,d1,d2,d3⟩,⟨rfl,rfl⟩|⟨rfl,v,rfl,⟨b,rfl,v1,v2,v3,v4⟩⟩⟩)
 . refine bodyPost_ret (v:=.tuple #[cnt n1 n2 n3 n4,.nilIface]) (by simp[results,results47,go_sem,cnt,c0,c1,c2,c3]) rfl ?_
   refine⟨_,_,rfl,?_,?_⟩
   . exact Jhs hb1 (nlr _) _ _ _ _
   . first | exact⟨rfl,rfl⟩ | exact .inl ⟨rfl,rfl,rfl⟩
 . have hne:b≠w.heap.size:=by
     intro e;subst e;rw[c0]at v3
     cases v3
   refine bodyPost_ret (v:=.tuple #[cnt 0 0 0 0,.iface 229 (.pointer (some ⟨b,0,none⟩))]) (by simp[results,results47,go_sem,cnt,c0,c1,c2,c3]) rfl ?_;refine⟨_,_,rfl,?_,?_⟩
   . exact Jhs hb1 (nlr _) _ _ _ _
   . have hv:isAt w ((((w1.setCell ⟨w.heap.size,0,none⟩ (.int .i64 0)).setCell ⟨w.heap.size,1,none⟩ (.int .i64 0)).setCell ⟨w.heap.size,2,none⟩ (.int .i64 0)).setCell ⟨w.heap.size,3,none⟩ (.int .i64 0)) (.iface 229 (.pointer (some ⟨b,0,none⟩))) pl :=
       ⟨b,rfl,v1,by simpa using v2,by simp[go_sem,v3],by simp[go_sem,v4]⟩
     first | exact⟨rfl,hv⟩ | exact .inr ⟨rfl,rfl,hv⟩
theorem Jkt{w:World}{B n:Nat}{v:Value}{l:List UInt8}(hn:n=l.length)(h:w.ownsRow B 5 1 v n (Lib.byteCells l)):(convert 29 9 v).run prog w=.ok (Sx l) w:=by
 subst hn;obtain⟨h0,hrow⟩:=h
 rcases hrow with ⟨rfl,h2⟩|⟨g,cap,cur,rfl,h2,h3,h4,h5,h6,h7⟩
 . obtain rfl:l=[]:=List.eq_nil_of_length_eq_zero h2
   kernel_rfl
 . refine run_convert_bytes_back w 29 9 5 (Ad g 0) cap l underlying29 underlying5 underlying9 λj hj=>?_
   rw[Nat.mul_one]at h7;have hc:cur[j]?=some (.int .u8 (l[j].toNat:Int)):=by
    rw[←Array.getElem?_toList];have:=congrArg (·[j]?) h7;simp only[List.getElem?_take,hj,if_true,Lib.byteCells,List.getElem?_map]at this;rw[this,lgg hj];rfl
   have ea:((Ad g 0):Addr).add j=(Ad g j):=by simp[Addr.add]<;>omega
   rw[ea];unfold World.cell?;simp[h3,hc]
def toI (l:List Nat):List Int:=l.map λn:Nat=>(n:Int)
theorem hal_ne(r:Nat):hal r≠[]:=by unfold hal;split<;>simp
theorem Jtr(r:Nat)(rs:List Nat):hals (r :: rs)=hal r++hals rs:=rfl
theorem Jvq(rs:List Nat):(hals rs).length<=2*rs.length/\rs.length<=(hals rs).length:=by
 induction rs with
 | nil=>simp[hals]
 | cons r rs ih =>
  have h0:(hal r).length≠0:=by simpa using hal_ne r
  have h1:(hal r).length<=2:=by unfold hal;split<;>simp
  rw[Jtr,List.length_append,List.length_cons];omega
theorem JrB(l:List UInt8):Jdk (scan l).1=(toI (Ja0 l)).map (Value.int .i32):=by
 unfold Jdk Ja0 toI;rw[List.map_map,List.map_map];rfl
theorem JrA(l:List UInt8):Jc6 (scan l).1=(toI (hals (Ja0 l))).map (Value.int .u16):=by
 unfold Jc6 Ja0 hals toI;generalize (scan l).1=ps
 induction ps with
 | nil=>rfl
 | cons p ps ih =>
  rw[List.flatMap_cons,ih,List.map_cons,List.flatMap_cons,List.map_append,List.map_append]
  congr 1
  unfold Jdh;rw[List.map_map];rfl
section
open Go.Extern.Stop Go.Stop Go.Extern
theorem Juh(n:Int)(t:Nat)(old:Value)(w:World)(hg:JbM w)(ht:w.cell? (Ad t 0)=some old)(hf:w.frozen? (Ad t 0)=false) :
    Cg 152 #[.iface 25 (I6 n),.iface 200 (Pd t 0)] w
     λe w'=>e=.returned (.bool true)/\w'.cell? (Ad t 0)=some (I6 n)/\Below t w w':=by
 have hVO:=@run_callFunc_extern Tryz.prog 197 _ (λargs=>ReflectliteValue.unpack (args.getD 0 (.tuple #[]))) Tryz.func197 (by kernel_rfl) (by kernel_rfl) (by kernel_rfl) (by kernel_rfl);have hTy:=@run_callFunc_extern Tryz.prog 198 _ (ReflectliteValue.methodAny (ReflectliteValue.valueError "reflectlite.Value.Type" 0) (λt _ _ _=>ReflectliteType.toType t)) Tryz.func198 (by kernel_rfl) (by kernel_rfl) (by kernel_rfl) (by kernel_rfl);have hIN:=@run_callFunc_extern Tryz.prog 199 _ (ReflectliteValue.method (ReflectliteValue.valueError "reflectlite.Value.IsNil" 0) ReflectliteValue.isNil) Tryz.func199 (by kernel_rfl) (by kernel_rfl) (by kernel_rfl) (by kernel_rfl);have hKd:=@run_callFunc_extern Tryz.prog 289 _ (ReflectliteType.abiMethod λt=>do pure (.int .u8 (← Rtype.kind t))) Tryz.func289 (by kernel_rfl) (by kernel_rfl) (by kernel_rfl) (by kernel_rfl);have hEl:=@run_callFunc_extern Tryz.prog 306 _ (ReflectliteType.method ReflectliteType.elem) Tryz.func306 (by kernel_rfl) (by kernel_rfl) (by kernel_rfl) (by kernel_rfl);have hIm:=@run_callFunc_extern Tryz.prog 307 _ (ReflectliteType.relation "Implements" ReflectliteType.implements_) Tryz.func307 (by kernel_rfl) (by kernel_rfl) (by kernel_rfl) (by kernel_rfl);have f6:=Jlh;have f7:=JtO;have mK:=Jhu;have mE:=Jhv;have mI:=Jes;have k92:=Jqj;have k23:=Jqk;have e92:=JtU;have i23:=Jhw;have htl:=blt w _ ht;have hgl:=blt w _ hg;obtain⟨o1,ho1⟩:∃o,o=Oc #[Pd t 0] 200:=⟨_,rfl⟩;obtain⟨o2,ho2⟩:∃o,o=Oc #[Pd 9 200,Pd w.heap.size 0,.int .u64 150] 240:=⟨_,rfl⟩;have hn8:=Jql (Ad w.heap.size 0) (Ad t 0) ((w.alloc o1).alloc o2) (by rw[World.cell?_alloc_lt _ _ (Ad w.heap.size 0) (by rw[wsa];exact Nat.lt_succ_self _),ho1];simp[go_sem]);have hg2:((w.alloc o1).alloc o2).cell? (Ad 2 0)=some (.iface 297 (.agg #[Pd 9 35])):=by
  rw[World.cell?_alloc_lt _ _ (Ad 2 0) (by rw[wsa];exact Nat.lt_succ_of_lt hgl),World.cell?_alloc_lt _ _ (Ad 2 0) hgl];exact hg
 have hb2:Bw w ((w.alloc o1).alloc o2):=(zA _ _).alloc (by rw[wsa];exact Nat.le_succ _) _
 have cA:=JtR n t w.heap.size old ((w.alloc o1).alloc o2)
  (by rw[World.cell?_alloc_lt _ _ (Ad w.heap.size 0) (by rw[wsa];exact Nat.lt_succ_self _),ho1];simp[go_sem])
  (by rw[zC hb2 t 0 htl];exact ht)
  (by rw[hb2.frozen (p:=(Ad t 0)) htl];exact hf)
 unfold target at cA;subst ho1 ho2;have HB:Hid (Below t w _):=hb2.mono (Nat.le_of_lt htl);clear ht hf hg hb2
 go_enter func152,ntmps152
 go_wp2_with (go_at_call 200;refine cA.mono ?_;rintro e wx ⟨rfl,hc,hbx⟩)
 go_ret;exact⟨rfl,hc,HB.out.trans hbx⟩
theorem JjO(n:Int)(w:World)(hg:JbM w) :
    Cg 93 #[.iface 25 (I6 n)] w (Rt w (I6 n)):=by
 have hgl:=blt w _ hg;have hb1:Bw w (w.alloc (Oc #[I6 0] 25)):=zA _ _
 have cA:=Juh n w.heap.size (I6 0) (w.alloc (Oc #[I6 0] 25)) (by unfold JbM;rw[zC hb1 2 0 hgl];exact hg)
  (by simp[go_sem]) (by simp[go_sem])
 clear hg
 go_enter func93,ntmps93
 go_wp2_with (go_at_call 152;refine cA.mono ?_;rintro e wx ⟨rfl,hc,hbx⟩)
 go_ret;exact⟨rfl,hb1.trans hbx⟩
def errV (n:Int):Value:=if n=0 then .nilIface else .iface 25 (I6 n)
end
end Go.Proofs.YtbkeomcicobohaaGreatDoor
namespace Go.Proofs
open Go.Shelf
def Tryz.laysM171_ren:Go.Shelf.Ren:=⟨λ| 171=>12 | 243=>22 | 246=>46 | 283=>81 | 284=>82 | 285=>83 | 286=>84 | 129=>132 | 317=>131 | 318=>133 | 319=>134 | 320=>135 | 337=>184 | 338=>185 | n=>n,λ| 3=>3 | 9=>9 | 2=>2 | 4=>4 | 171=>121 | 0=>0 | 53=>122 | 37=>29 | 5=>5 | 173=>125 | 212=>176 | 51=>177 | 20=>20 | 213=>178 | 46=>174 | 232=>292 | 233=>293 | n=>n,λ| 17=>1 | 18=>5 | 19=>6 | n=>n⟩
theorem Tryz.laysM171:Go.Proofs.LaysM.n171 Tryz.prog Tryz.laysM171_ren:={
 mixed:=by kernel_rfl
 f129:=Tryz.func132.trans (congrArg some (by kernel_rfl))
 f171:=Tryz.func12.trans (congrArg some (by kernel_rfl))
 f243:=Tryz.func22.trans (congrArg some (by kernel_rfl))
 f246:=Tryz.func46.trans (congrArg some (by kernel_rfl))
 f283:=Tryz.func81.trans (congrArg some (by kernel_rfl))
 f284:=Tryz.func82.trans (congrArg some (by kernel_rfl))
 f285:=Tryz.func83.trans (congrArg some (by kernel_rfl))
 f286:=Tryz.func84.trans (congrArg some (by kernel_rfl))
 f317:=Tryz.func131.trans (congrArg some (by kernel_rfl))
 f318:=Tryz.func133.trans (congrArg some (by kernel_rfl))
 f319:=Tryz.func134.trans (congrArg some (by kernel_rfl))
 f320:=Tryz.func135.trans (congrArg some (by kernel_rfl))
 f337:=Tryz.func184.trans (congrArg some (by kernel_rfl))
 f338:=Tryz.func185.trans (congrArg some (by kernel_rfl))
 t0:=Tryz.underlying0
 a0:=Tryz.isAgg0
 z0:=Tryz.sizeOf0
 v0:=Tryz.zeroValue0
 t2:=Tryz.underlying2
 a2:=Tryz.isAgg2
 z2:=Tryz.sizeOf2
 v2:=Tryz.zeroValue2
 t3:=Tryz.underlying3
 a3:=Tryz.isAgg3
 z3:=Tryz.sizeOf3
 v3:=Tryz.zeroValue3
 t4:=Tryz.underlying4
 a4:=Tryz.isAgg4
 z4:=Tryz.sizeOf4
 v4:=Tryz.zeroValue4
 t5:=Tryz.underlying5
 a5:=Tryz.isAgg5
 z5:=Tryz.sizeOf5
 v5:=Tryz.zeroValue5
 t9:=Tryz.underlying9
 a9:=Tryz.isAgg9
 z9:=Tryz.sizeOf9
 v9:=Tryz.zeroValue9
 t20:=Tryz.underlying20
 a20:=Tryz.isAgg20
 z20:=Tryz.sizeOf20
 v20:=Tryz.zeroValue20
 t37:=Tryz.underlying29
 a37:=Tryz.isAgg29
 z37:=Tryz.sizeOf29
 v37:=Tryz.zeroValue29
 t46:=Tryz.underlying174
 a46:=Tryz.isAgg174
 z46:=Tryz.sizeOf174
 v46:=Tryz.zeroValue174
 t51:=Tryz.underlying177
 a51:=Tryz.isAgg177
 z51:=Tryz.sizeOf177
 v51:=Tryz.zeroValue177
 t53:=Tryz.underlying122
 a53:=Tryz.isAgg122
 z53:=Tryz.sizeOf122
 v53:=Tryz.zeroValue122
 t171:=Tryz.underlying121
 a171:=Tryz.isAgg121
 z171:=Tryz.sizeOf121
 v171:=Tryz.zeroValue121
 t173:=Tryz.underlying125
 a173:=Tryz.isAgg125
 z173:=Tryz.sizeOf125
 v173:=Tryz.zeroValue125
 t212:=Tryz.underlying176
 a212:=Tryz.isAgg176
 z212:=Tryz.sizeOf176
 v212:=Tryz.zeroValue176
 t213:=Tryz.underlying178
 a213:=Tryz.isAgg178
 z213:=Tryz.sizeOf178
 t232:=Tryz.underlying292
 a232:=Tryz.isAgg292
 z232:=Tryz.sizeOf292
 v232:=Tryz.zeroValue292
 t233:=Tryz.underlying293
 a233:=Tryz.isAgg293
 z233:=Tryz.sizeOf293
 v233:=Tryz.zeroValue293
 g17:=by kernel_rfl
 g18:=by kernel_rfl
 g19:=by kernel_rfl
 i0:=by kernel_rfl
 i2:=by kernel_rfl
 i3:=by kernel_rfl
 i4:=by kernel_rfl
 i5:=by kernel_rfl
 i9:=by kernel_rfl
 i20:=by kernel_rfl
 i37:=by kernel_rfl
 i46:=by kernel_rfl
 i51:=by kernel_rfl
 i53:=by kernel_rfl
 i171:=by kernel_rfl
 i173:=by kernel_rfl
 i212:=by kernel_rfl
 i232:=by kernel_rfl
 i233:=by kernel_rfl
 m17:=by kernel_rfl
 m18:=by kernel_rfl
 m19:=by kernel_rfl }
open Go.RowKit Go.Sort Go.Lib in
theorem Tryz.strconv_Itoa(n:Int)(h0: -9223372036854775808<=n)(h1:n<=9223372036854775807)(w:World)(htab:Lib.TabIs Tryz.prog w "internal/strconv.uint64pow10" .u64 Lib.pow10Tab) :
    Calls Tryz.prog 12 #[.int .i64 n] w λe w'=>e=.returned (.string ⟨(Lib.itoa n).toArray⟩)/\∃k os,w'=grow (w.drewN k) os:=Any.strconv_Itoa Tryz.laysM171 n h0 h1 w htab
def Tryz.laysM173_ren:Go.Shelf.Ren:=⟨λ| 173=>106 | 246=>46 | 283=>81 | 284=>82 | 285=>83 | 286=>84 | 129=>132 | 317=>131 | 318=>133 | 319=>134 | 320=>135 | 337=>184 | 338=>185 | n=>n,λ| 2=>2 | 3=>3 | 9=>9 | 4=>4 | 171=>121 | 0=>0 | 53=>122 | 37=>29 | 5=>5 | 173=>125 | 212=>176 | 51=>177 | 20=>20 | 213=>178 | 46=>174 | 232=>292 | 233=>293 | n=>n,λ| 17=>1 | 18=>5 | 19=>6 | n=>n⟩
theorem Tryz.laysM173:Go.Proofs.LaysM.n173 Tryz.prog Tryz.laysM173_ren:={
 mixed:=by kernel_rfl
 f129:=Tryz.func132.trans (congrArg some (by kernel_rfl))
 f173:=Tryz.func106.trans (congrArg some (by kernel_rfl))
 f246:=Tryz.func46.trans (congrArg some (by kernel_rfl))
 f283:=Tryz.func81.trans (congrArg some (by kernel_rfl))
 f284:=Tryz.func82.trans (congrArg some (by kernel_rfl))
 f285:=Tryz.func83.trans (congrArg some (by kernel_rfl))
 f286:=Tryz.func84.trans (congrArg some (by kernel_rfl))
 f317:=Tryz.func131.trans (congrArg some (by kernel_rfl))
 f318:=Tryz.func133.trans (congrArg some (by kernel_rfl))
 f319:=Tryz.func134.trans (congrArg some (by kernel_rfl))
 f320:=Tryz.func135.trans (congrArg some (by kernel_rfl))
 f337:=Tryz.func184.trans (congrArg some (by kernel_rfl))
 f338:=Tryz.func185.trans (congrArg some (by kernel_rfl))
 t0:=Tryz.underlying0
 a0:=Tryz.isAgg0
 z0:=Tryz.sizeOf0
 v0:=Tryz.zeroValue0
 t2:=Tryz.underlying2
 a2:=Tryz.isAgg2
 z2:=Tryz.sizeOf2
 v2:=Tryz.zeroValue2
 t3:=Tryz.underlying3
 a3:=Tryz.isAgg3
 z3:=Tryz.sizeOf3
 v3:=Tryz.zeroValue3
 t4:=Tryz.underlying4
 a4:=Tryz.isAgg4
 z4:=Tryz.sizeOf4
 v4:=Tryz.zeroValue4
 t5:=Tryz.underlying5
 a5:=Tryz.isAgg5
 z5:=Tryz.sizeOf5
 v5:=Tryz.zeroValue5
 t9:=Tryz.underlying9
 a9:=Tryz.isAgg9
 z9:=Tryz.sizeOf9
 v9:=Tryz.zeroValue9
 t20:=Tryz.underlying20
 a20:=Tryz.isAgg20
 z20:=Tryz.sizeOf20
 v20:=Tryz.zeroValue20
 t37:=Tryz.underlying29
 a37:=Tryz.isAgg29
 z37:=Tryz.sizeOf29
 v37:=Tryz.zeroValue29
 t46:=Tryz.underlying174
 a46:=Tryz.isAgg174
 z46:=Tryz.sizeOf174
 v46:=Tryz.zeroValue174
 t51:=Tryz.underlying177
 a51:=Tryz.isAgg177
 z51:=Tryz.sizeOf177
 v51:=Tryz.zeroValue177
 t53:=Tryz.underlying122
 a53:=Tryz.isAgg122
 z53:=Tryz.sizeOf122
 v53:=Tryz.zeroValue122
 t171:=Tryz.underlying121
 a171:=Tryz.isAgg121
 z171:=Tryz.sizeOf121
 v171:=Tryz.zeroValue121
 t173:=Tryz.underlying125
 a173:=Tryz.isAgg125
 z173:=Tryz.sizeOf125
 v173:=Tryz.zeroValue125
 t212:=Tryz.underlying176
 a212:=Tryz.isAgg176
 z212:=Tryz.sizeOf176
 v212:=Tryz.zeroValue176
 t213:=Tryz.underlying178
 a213:=Tryz.isAgg178
 z213:=Tryz.sizeOf178
 t232:=Tryz.underlying292
 a232:=Tryz.isAgg292
 z232:=Tryz.sizeOf292
 v232:=Tryz.zeroValue292
 t233:=Tryz.underlying293
 a233:=Tryz.isAgg293
 z233:=Tryz.sizeOf293
 v233:=Tryz.zeroValue293
 g17:=by kernel_rfl
 g18:=by kernel_rfl
 g19:=by kernel_rfl
 i0:=by kernel_rfl
 i2:=by kernel_rfl
 i3:=by kernel_rfl
 i4:=by kernel_rfl
 i5:=by kernel_rfl
 i9:=by kernel_rfl
 i20:=by kernel_rfl
 i37:=by kernel_rfl
 i46:=by kernel_rfl
 i51:=by kernel_rfl
 i53:=by kernel_rfl
 i171:=by kernel_rfl
 i173:=by kernel_rfl
 i212:=by kernel_rfl
 i232:=by kernel_rfl
 i233:=by kernel_rfl
 m17:=by kernel_rfl
 m18:=by kernel_rfl
 m19:=by kernel_rfl }
open Go.RowKit Go.Sort Go.Lib in
theorem Tryz.strconv_FormatInt_10(n:Int)(h0: -9223372036854775808<=n)(h1:n<=9223372036854775807)(w:World)(htab:Lib.TabIs Tryz.prog w "internal/strconv.uint64pow10" .u64 Lib.pow10Tab) :
    Calls Tryz.prog 106 #[.int .i64 n,.int .i64 10] w λe w'=>e=.returned (.string ⟨(Lib.itoa n).toArray⟩)/\∃k os,w'=grow (w.drewN k) os:=Any.strconv_FormatInt_10 Tryz.laysM173 n h0 h1 w htab
def Tryz.laysC174_ren:Go.Shelf.Ren:=⟨λ| 174=>105 | 247=>162 | 245=>163 | 287=>211 | 279=>212 | 280=>213 | 281=>214 | 282=>215 | 321=>252 | 322=>253 | 316=>89 | 171=>12 | 205=>254 | 243=>22 | 246=>46 | 283=>81 | 284=>82 | 285=>83 | 286=>84 | 129=>132 | 317=>131 | 318=>133 | 319=>134 | 320=>135 | 337=>184 | 338=>185 | n=>n,λ| 9=>9 | 3=>3 | 2=>2 | 75=>35 | 85=>157 | 4=>4 | 167=>264 | 5=>5 | 53=>122 | 175=>265 | 46=>174 | 168=>267 | 37=>29 | 0=>0 | 210=>316 | 21=>21 | 127=>61 | 145=>330 | 143=>328 | 171=>121 | 173=>125 | 212=>176 | 51=>177 | 20=>20 | 213=>178 | 232=>292 | 233=>293 | 80=>39 | n=>n,λ| 15=>7 | 16=>8 | 17=>1 | 18=>5 | 19=>6 | n=>n⟩
theorem Tryz.laysC174:Go.Proofs.LaysC.n174 Tryz.prog Tryz.laysC174_ren:={
 mixed:=by kernel_rfl
 f129:=Tryz.func132.trans (congrArg some (by kernel_rfl))
 f171:=Tryz.func12.trans (congrArg some (by kernel_rfl))
 f174:=Tryz.func105.trans (congrArg some (by kernel_rfl))
 f205:=Tryz.func254.trans (congrArg some (by kernel_rfl))
 f243:=Tryz.func22.trans (congrArg some (by kernel_rfl))
 f245:=Tryz.func163.trans (congrArg some (by kernel_rfl))
 f246:=Tryz.func46.trans (congrArg some (by kernel_rfl))
 f247:=Tryz.func162.trans (congrArg some (by kernel_rfl))
 f279:=Tryz.func212.trans (congrArg some (by kernel_rfl))
 f280:=Tryz.func213.trans (congrArg some (by kernel_rfl))
 f281:=Tryz.func214.trans (congrArg some (by kernel_rfl))
 f282:=Tryz.func215.trans (congrArg some (by kernel_rfl))
 f283:=Tryz.func81.trans (congrArg some (by kernel_rfl))
 f284:=Tryz.func82.trans (congrArg some (by kernel_rfl))
 f285:=Tryz.func83.trans (congrArg some (by kernel_rfl))
 f286:=Tryz.func84.trans (congrArg some (by kernel_rfl))
 f287:=Tryz.func211.trans (congrArg some (by kernel_rfl))
 f316:=Tryz.func89.trans (congrArg some (by kernel_rfl))
 f317:=Tryz.func131.trans (congrArg some (by kernel_rfl))
 f318:=Tryz.func133.trans (congrArg some (by kernel_rfl))
 f319:=Tryz.func134.trans (congrArg some (by kernel_rfl))
 f320:=Tryz.func135.trans (congrArg some (by kernel_rfl))
 f321:=Tryz.func252.trans (congrArg some (by kernel_rfl))
 f322:=Tryz.func253.trans (congrArg some (by kernel_rfl))
 f337:=Tryz.func184.trans (congrArg some (by kernel_rfl))
 f338:=Tryz.func185.trans (congrArg some (by kernel_rfl))
 t0:=Tryz.underlying0
 a0:=Tryz.isAgg0
 z0:=Tryz.sizeOf0
 v0:=Tryz.zeroValue0
 t2:=Tryz.underlying2
 a2:=Tryz.isAgg2
 z2:=Tryz.sizeOf2
 v2:=Tryz.zeroValue2
 t3:=Tryz.underlying3
 a3:=Tryz.isAgg3
 z3:=Tryz.sizeOf3
 v3:=Tryz.zeroValue3
 t4:=Tryz.underlying4
 a4:=Tryz.isAgg4
 z4:=Tryz.sizeOf4
 v4:=Tryz.zeroValue4
 t5:=Tryz.underlying5
 a5:=Tryz.isAgg5
 z5:=Tryz.sizeOf5
 v5:=Tryz.zeroValue5
 t9:=Tryz.underlying9
 a9:=Tryz.isAgg9
 z9:=Tryz.sizeOf9
 v9:=Tryz.zeroValue9
 t20:=Tryz.underlying20
 a20:=Tryz.isAgg20
 z20:=Tryz.sizeOf20
 v20:=Tryz.zeroValue20
 t21:=Tryz.underlying21
 a21:=Tryz.isAgg21
 z21:=Tryz.sizeOf21
 v21:=Tryz.zeroValue21
 t37:=Tryz.underlying29
 a37:=Tryz.isAgg29
 z37:=Tryz.sizeOf29
 v37:=Tryz.zeroValue29
 t46:=Tryz.underlying174
 a46:=Tryz.isAgg174
 z46:=Tryz.sizeOf174
 v46:=Tryz.zeroValue174
 t51:=Tryz.underlying177
 a51:=Tryz.isAgg177
 z51:=Tryz.sizeOf177
 v51:=Tryz.zeroValue177
 t53:=Tryz.underlying122
 a53:=Tryz.isAgg122
 z53:=Tryz.sizeOf122
 v53:=Tryz.zeroValue122
 t75:=Tryz.underlying35
 a75:=Tryz.isAgg35
 z75:=Tryz.sizeOf35
 v75:=Tryz.zeroValue35
 t85:=Tryz.underlying157
 a85:=Tryz.isAgg157
 z85:=Tryz.sizeOf157
 v85:=Tryz.zeroValue157
 t127:=Tryz.underlying61
 a127:=Tryz.isAgg61
 z127:=Tryz.sizeOf61
 v127:=Tryz.zeroValue61
 t143:=Tryz.underlying328
 a143:=Tryz.isAgg328
 z143:=Tryz.sizeOf328
 v143:=Tryz.zeroValue328
 t145:=Tryz.underlying330
 a145:=Tryz.isAgg330
 z145:=Tryz.sizeOf330
 v145:=Tryz.zeroValue330
 t167:=Tryz.underlying264
 a167:=Tryz.isAgg264
 z167:=Tryz.sizeOf264
 v167:=Tryz.zeroValue264
 t168:=Tryz.underlying267
 a168:=Tryz.isAgg267
 z168:=Tryz.sizeOf267
 v168:=Tryz.zeroValue267
 t171:=Tryz.underlying121
 a171:=Tryz.isAgg121
 z171:=Tryz.sizeOf121
 v171:=Tryz.zeroValue121
 t173:=Tryz.underlying125
 a173:=Tryz.isAgg125
 z173:=Tryz.sizeOf125
 v173:=Tryz.zeroValue125
 t175:=Tryz.underlying265
 a175:=Tryz.isAgg265
 z175:=Tryz.sizeOf265
 v175:=Tryz.zeroValue265
 t210:=Tryz.underlying316
 a210:=Tryz.isAgg316
 z210:=Tryz.sizeOf316
 v210:=Tryz.zeroValue316
 t212:=Tryz.underlying176
 a212:=Tryz.isAgg176
 z212:=Tryz.sizeOf176
 v212:=Tryz.zeroValue176
 t213:=Tryz.underlying178
 a213:=Tryz.isAgg178
 z213:=Tryz.sizeOf178
 t232:=Tryz.underlying292
 a232:=Tryz.isAgg292
 z232:=Tryz.sizeOf292
 v232:=Tryz.zeroValue292
 t233:=Tryz.underlying293
 a233:=Tryz.isAgg293
 z233:=Tryz.sizeOf293
 v233:=Tryz.zeroValue293
 g15:=by kernel_rfl
 g16:=by kernel_rfl
 g17:=by kernel_rfl
 g18:=by kernel_rfl
 g19:=by kernel_rfl
 t80:=Tryz.underlying39
 a80:=Tryz.isAgg39
 z80:=Tryz.sizeOf39
 v80:=Tryz.zeroValue39
 i0:=by kernel_rfl
 i2:=by kernel_rfl
 i3:=by kernel_rfl
 i4:=by kernel_rfl
 i5:=by kernel_rfl
 i9:=by kernel_rfl
 i20:=by kernel_rfl
 i21:=by kernel_rfl
 i37:=by kernel_rfl
 i46:=by kernel_rfl
 i51:=by kernel_rfl
 i53:=by kernel_rfl
 i75:=by kernel_rfl
 i80:=by kernel_rfl
 i85:=by kernel_rfl
 i127:=by kernel_rfl
 i143:=by kernel_rfl
 i145:=by kernel_rfl
 i167:=by kernel_rfl
 i168:=by kernel_rfl
 i171:=by kernel_rfl
 i173:=by kernel_rfl
 i175:=by kernel_rfl
 i210:=by kernel_rfl
 i212:=by kernel_rfl
 i232:=by kernel_rfl
 i233:=by kernel_rfl
 m15:=by kernel_rfl
 m16:=by kernel_rfl
 m17:=by kernel_rfl
 m18:=by kernel_rfl
 m19:=by kernel_rfl
 c0:=by kernel_rfl
 c2:=by kernel_rfl
 c3:=by kernel_rfl
 c4:=by kernel_rfl
 c5:=by kernel_rfl
 c9:=by kernel_rfl
 c20:=by kernel_rfl
 c21:=by kernel_rfl
 c37:=by kernel_rfl
 c46:=by kernel_rfl
 c51:=by kernel_rfl
 c53:=by kernel_rfl
 c75:=by kernel_rfl
 c80:=by kernel_rfl
 c85:=by kernel_rfl
 c127:=by kernel_rfl
 c143:=by kernel_rfl
 c145:=by kernel_rfl
 c167:=by kernel_rfl
 c168:=by kernel_rfl
 c171:=by kernel_rfl
 c173:=by kernel_rfl
 c175:=by kernel_rfl
 c210:=by kernel_rfl
 c212:=by kernel_rfl
 c213:=by kernel_rfl
 c232:=by kernel_rfl
 c233:=by kernel_rfl }
open Go.RowKit in
theorem Tryz.strconv_ParseInt_10_at64_ok(s:ByteArray)(hmax:s.size<=9223372036854775806)(v:Int)(h:Lib.parseIntB 64 s.data.toList=.ok v)(w:World) :
    Calls Tryz.prog 105 #[.string s,.int .i64 10,.int .i64 64] w λe w'=>e=.returned (.tuple #[.int .i64 v,.nilIface])/\(w'=w\/∃t,w'=Lib.bytesWorld w 5 t):=Any.strconv_ParseInt_10_at64_ok Tryz.laysC174 s hmax v h w
open Go.RowKit in
theorem Tryz.strconv_ParseInt_10_at64_syntax(s:ByteArray)(hlim:s.size<=281474976710656)(h:Lib.parseIntB 64 s.data.toList=.«syntax»)(ev:Value)(w:World)(hv:w.cell? ⟨7,0,none⟩=some ev)(hev:ev=.nilIface\/∃te pe,ev=.iface te pe) :
    Calls Tryz.prog 105 #[.string s,.int .i64 10,.int .i64 64] w λe w'=>∃N,e=.returned (.tuple #[.int .i64 (0),.iface 267 (.pointer (some ⟨N,0,none⟩))])/\w.heap.size<=N/\w'.heap[N]?=some (.cells #[.string ⟨#[80,97,114,115,101,73,110,116]⟩,.string s,ev] 316 (0,0))/\Below w.heap.size w w':=Any.strconv_ParseInt_10_at64_syntax Tryz.laysC174 s hlim h ev w hv hev
open Go.RowKit in
theorem Tryz.strconv_ParseInt_10_at64_range(s:ByteArray)(hlim:s.size<=281474976710656)(h:Lib.parseIntB 64 s.data.toList=.range)(ev:Value)(w:World)(hv:w.cell? ⟨8,0,none⟩=some ev)(hev:ev=.nilIface\/∃te pe,ev=.iface te pe) :
    Calls Tryz.prog 105 #[.string s,.int .i64 10,.int .i64 64] w λe w'=>∃N,e=.returned (.tuple #[.int .i64 (Lib.intSat 64 s.data.toList),.iface 267 (.pointer (some ⟨N,0,none⟩))])/\w.heap.size<=N/\w'.heap[N]?=some (.cells #[.string ⟨#[80,97,114,115,101,73,110,116]⟩,.string s,ev] 316 (0,0))/\Below w.heap.size w w':=Any.strconv_ParseInt_10_at64_range Tryz.laysC174 s hlim h ev w hv hev
end Go.Proofs
namespace Go.Proofs.YtbkeomcicobohaaGreatDoor
open Go.Proofs.Tryz Go.RowKit Go.Maps
section
variable {w w' : World}
def erV (e:Int):Value:=.iface 25 (I6 e)
def JaA (e:Int):Ending:=.panicked [{ v:=erV e,recovered:=false }]
theorem JgC(w:World)(k:Nat)(os:Array Obj):Bw w (Sort.grow (w.drewN k) os) :=
 ⟨rfl,rfl,rfl,by simp[Sort.grow],λi hi=>by
  show((w.drewN k).heap++os)[i]?=_;rw[Array.getElem?_append_left (by show i<w.heap.size;exact hi)];rfl⟩
theorem JoE(h:Lib.TabIs Tryz.prog w "internal/strconv.uint64pow10" .u64 Lib.pow10Tab)(hb:Bw w w'):Lib.TabIs Tryz.prog w' "internal/strconv.uint64pow10" .u64 Lib.pow10Tab:=by
 have hg:Tryz.prog.globalNamed "internal/strconv.uint64pow10" = some 1:=by kernel_rfl
 unfold Lib.TabIs World.var? at h ⊢;rw[hg]at h ⊢;simp only[Option.bind_some]at h ⊢;have hlt:1<w.heap.size:=by
  rcases Nat.lt_or_ge 1 w.heap.size with h' | h'
  . exact h'
  . rw[Array.getElem?_eq_none h']at h;cases h
 rw[hb.block _ hlt];exact h
structure EnvK (w:World):Prop where
 tab:Lib.TabIs Tryz.prog w "internal/strconv.uint64pow10" .u64 Lib.pow10Tab
 esyn:∃te pe,w.cell? (Ad 7 0)=some (.iface te pe)
 erng:∃te pe,w.cell? (Ad 8 0)=some (.iface te pe)
theorem EnvK.below(h:EnvK w)(hb:Below w.heap.size w w'):EnvK w':=by
 obtain⟨h1,⟨te,pe,h2⟩,te',pe',h3⟩:=h;exact⟨JoE h1 hb,⟨te,pe,(hb.cell (blt w _ h2)).trans h2⟩,te',pe',(hb.cell (blt w _ h3)).trans h3⟩
theorem JkI{s:List UInt8}{n:Int}(h:Lib.parseIntB 64 s=.ok n): -9223372036854775808<=n/\n<=9223372036854775807:=by
 unfold Lib.parseIntB at h
 split at h
 . cases h
 . simp only at h
   split at h
   . cases h
   . cases h
   . split at h
     . cases h
     . split at h
       . cases h
       . rename_i h1 h2
         injection h with h
         split at h<;>omega
theorem Jda(s:List UInt8)(hs:s.length<=1000000)(w:World)(he:EnvK w) :
    Cg 57 #[Sx s] w λe w'=>e=(match numW s with | some n=>.returned (I6 n) | none=>JaA 3)/\Bw w w':=by
 have hz:(ByteArray.mk s.toArray).size=s.length:=by simp[ByteArray.size]
 cases hp:Lib.parseIntB 64 s with
 | ok n =>
  obtain⟨r0,r1⟩:=JkI hp;have CP:Hid _:=strconv_ParseInt_10_at64_ok ⟨s.toArray⟩ (by omega) n hp w;have CF:Hid (∀wx,Bw w wx->Cg 106 #[I6 n,I6 10] wx (Rt wx (Sx (Lib.itoa n)))):=λwx hb =>
   (strconv_FormatInt_10 n r0 r1 wx (he.below hb).tab).mono λe w' ⟨e1,k,os,e2⟩=>⟨e1,e2 ▸ JgC wx k os⟩
  have hn:numW s=if Lib.itoa n=s then some n else none:=by unfold numW;rw[hp]
  rw[hn];have HB:∀wx,(wx=w\/∃t,wx=Lib.bytesWorld w 5 t)->Bw w wx:=by
   rintro wx (rfl|⟨t,rfl⟩)
   . exact brf _ _
   . exact Joins.below_bytesWorld _ _ _ _ (nlr _)
  by_cases hi:Lib.itoa n=s
  . rw [if_pos hi]
    have hne:(Lib.itoa n==s)=true:=by rw[hi];exact beq_self_eq_true _
    generalize Lib.itoa n=tn at *;clear hn hi hp he
    go_enter func57,ntmps57
    go_wp2_with (first
     | (go_at_call 105;refine Calls.mono CP.out ?_;rintro e w1 ⟨rfl,h1⟩;have HB1:Hid _:=HB w1 h1;clear h1)
     | (go_at_call 106;refine(CF.out _ HB1.out).mono ?_;rintro e w2 ⟨rfl,h2⟩;have HB2:=hdz (HB1.out.trans (h2.mono HB1.out.size));clear h2))
    go_ret;exact⟨rfl,HB2.out⟩
  . rw [if_neg hi]
    have hne:(Lib.itoa n==s)=false:=beq_eq_false_iff_ne.2 hi;generalize Lib.itoa n=tn at *;clear hn hi hp he
    go_enter func57,ntmps57
    go_wp2_with (first
     | (go_at_call 105;refine Calls.mono CP.out ?_;rintro e w1 ⟨rfl,h1⟩;have HB1:Hid _:=HB w1 h1;clear h1)
     | (go_at_call 106;refine(CF.out _ HB1.out).mono ?_;rintro e w2 ⟨rfl,h2⟩;have HB2:=hdz (HB1.out.trans (h2.mono HB1.out.size));clear h2))
    exact⟨rfl,rfl,HB2.out⟩
 | «syntax» =>
  obtain⟨te,pe,h7⟩:=he.esyn;have CP:Hid _:=strconv_ParseInt_10_at64_syntax ⟨s.toArray⟩ (by omega) hp _ w h7 (.inr ⟨te,pe,rfl⟩);have hn:numW s=none:=by unfold numW;rw[hp]
  rw[hn];clear hn hp he h7
  go_enter func57,ntmps57
  go_wp2_with (go_at_call 105;refine Calls.mono CP.out ?_;rintro e w1 ⟨q,rfl,h1,h2,h3⟩;have HB1:=hdz h3;clear h1 h2 h3)
  exact⟨rfl,rfl,HB1.out⟩
 | range =>
  obtain⟨te,pe,h8⟩:=he.erng;have CP:Hid _:=strconv_ParseInt_10_at64_range ⟨s.toArray⟩ (by omega) hp _ w h8 (.inr ⟨te,pe,rfl⟩);have hn:numW s=none:=by unfold numW;rw[hp]
  rw[hn];clear hn hp he h8
  go_enter func57,ntmps57
  go_wp2_with (go_at_call 105;refine Calls.mono CP.out ?_;rintro e w1 ⟨q,rfl,h1,h2,h3⟩;have HB1:=hdz h3;clear h1 h2 h3)
  exact⟨rfl,rfl,HB1.out⟩
end
section
theorem Jl7(n:Int)(h0: -9223372036854775808<=n)(h1:n<=9223372036854775807)(w:World)(he:EnvK w) :
    Cg 5 #[I6 n] w (Rt w (Sx (errT n))):=by
 have CI:Hid (Cg 12 #[I6 n] w (Rt w (Sx (Lib.itoa n)))) :=
  (strconv_Itoa n h0 h1 w he.tab).mono λe w' ⟨e1,k,os,e2⟩=>⟨e1,e2 ▸ JgC w k os⟩
 have hl:=Lib.itoa_length_le n h0 h1;have hz:¬IntKind.i64.max<(((⟨#[101,114,114,111,114,32]⟩:ByteArray).size+(⟨(Lib.itoa n).toArray⟩:ByteArray).size:Nat):Int):=by simp[ByteArray.size,IntKind.max,IntKind.bits,IntKind.signed];omega
 go_enter func5,ntmps5
 go_wp2_with (go_at_call 12;refine Calls.mono CI.out ?_;rintro e w1 ⟨rfl,h⟩;have HB:=hdz h;clear h)
 go_ret;refine⟨?_,HB.out⟩
 congr 2
theorem JlW(w:World):Cg 52 #[.nilIface] w (Rt w (.tuple #[])):=by
 go_enter func52,ntmps52
 go_wp2;go_end0;exact⟨rfl,brf _ _⟩
theorem Ji3(te:TypeId)(pe:Value)(n:Int)(w:World)(hT:Cg 93 #[.iface te pe] w (Rt w (I6 n))) :
    Cg 52 #[.iface te pe] w λe w'=>e=JaA n/\Bw w w':=by
 have CT:=hdz hT
 go_enter func52,ntmps52
 go_wp2_with (go_at_call 93;refine Calls.mono CT.out ?_;rintro e w1 ⟨rfl,h⟩;have HB:=hdz h;clear h)
 exact⟨rfl,rfl,HB.out⟩
theorem Je3(n:Int)(w:World)(hg:JbM w):Cg 52 #[errV n] w λe w'=>e=(if n=0 then .returned (.tuple #[]) else JaA n)/\Bw w w':=by
 unfold errV
 by_cases h:n=0
 . rw[if_pos h,if_pos h];exact JlW w
 . rw[if_neg h,if_neg h];exact Ji3 _ _ n w (JjO n w hg)
def Je5 (w:World) (v:Value) (us:List Int):Prop:=∃p c,v=.slice p us.length c/\us.length<=c/\c<=maxLen/\(us≠[]->∃b o,p=some (Ad b o)/\b<w.heap.size/\∀(i:Nat) (u:Int),us[i]?=some u->w.cell? (Ad b (o+i))=some (I6 u))
theorem Jnv{w w':World}{v:Value}{us:List Int}(h:Je5 w v us)(hb:Bw w w'):Je5 w' v us:=by
 obtain⟨p,c,h1,h2,h3,h4⟩:=h;refine⟨p,c,h1,h2,h3,λhne=>?_⟩;obtain⟨b,o,g1,g2,g3⟩:=h4 hne;exact⟨b,o,g1,Nat.lt_of_lt_of_le g2 hb.size,λi u hu=>(zC hb b (o+i) g2).trans (g3 i u hu)⟩
variable {w : World}{v : Value}{ss : List (List UInt8)}{B e : Nat}
def JcE (w:World) (v:Value) (ss:List (List UInt8)):Prop:=∃p c,v=.slice p ss.length c/\ss.length<=c/\c<=maxLen/\(ss≠[]->∃b o,p=some (Ad b o)/\b<w.heap.size/\∀(i:Nat) (s:List UInt8),ss[i]?=some s->w.cell? (Ad b (o+i))=some (Sx s))
theorem JhW{w':World}(h:JcE w v ss)(hb:Bw w w'):JcE w' v ss:=by
 obtain⟨p,c,h1,h2,h3,h4⟩:=h;refine⟨p,c,h1,h2,h3,λhne=>?_⟩;obtain⟨b,o,g1,g2,g3⟩:=h4 hne;exact⟨b,o,g1,Nat.lt_of_lt_of_le g2 hb.size,λi u hu=>(zC hb b (o+i) g2).trans (g3 i u hu)⟩
def intC (ns:List Int):List Value:=ns.map (Value.int .i64)
def strC (ss:List (List UInt8)):List Value:=ss.map λs=>Sx s
theorem Jk5{n:Nat}{xs:List Value}(h:w.ownsRow B e 1 v n xs):∃p c,v=.slice p n c/\n<=c/\c<=maxLen/\(n≠0->∃g,p=some (Ad g 0)/\g<w.heap.size/\∀(i:Nat)(u:Value),xs[i]?=some u->w.cell? (Ad g (0+i))=some u):=by
 have h':=h;obtain⟨h0,⟨rfl,rfl⟩|⟨g,cap,cur,rfl,hg,hc,hn,hm,_⟩⟩:=h
 . exact⟨none,0,rfl,nlr _,Nat.zero_le _,λh=>absurd rfl h⟩
 . refine⟨_,cap,rfl,hn,hm,λ_=>⟨g,rfl,(alt hc),λi u hu=>?_⟩⟩
   have:=World.ownsRow.cells (g:=g) h' rfl i u hu;rw[Addr.add_lit]at this;exact this
theorem Jvh{ns:List Int}(h:w.ownsRow B e 1 v ns.length (intC ns)):Je5 w v ns:=by
 obtain⟨p,c,h1,h2,h3,h4⟩:=Jk5 h;refine⟨p,c,h1,h2,h3,λhne=>?_⟩;obtain⟨g,g1,g2,g3⟩:=h4 λe=>hne (List.eq_nil_of_length_eq_zero e);exact⟨g,0,g1,g2,λi u hu=>g3 i _ (by unfold intC;rw[List.getElem?_map,hu];rfl)⟩
theorem JlD(h:w.ownsRow B e 1 v ss.length (strC ss)):JcE w v ss:=by
 obtain⟨p,c,h1,h2,h3,h4⟩:=Jk5 h;refine⟨p,c,h1,h2,h3,λhne=>?_⟩;obtain⟨g,g1,g2,g3⟩:=h4 λe=>hne (List.eq_nil_of_length_eq_zero e);exact⟨g,0,g1,g2,λi u hu=>g3 i _ (by unfold strC;rw[List.getElem?_map,hu];rfl)⟩
theorem Jk8(s:List UInt8)(ws:List (List UInt8)):Jdq (s :: ws)=(match numW s with | some n=>(Jdq ws).map (n :: ·) | none=>none):=rfl
theorem Jvj:(prog.info? 3).map (λi=>(i.zero,i.size,i.bytes))=some (some (I6 0),1,8):=by kernel_rfl
theorem Jtn:(prog.info? 9).map (λi=>(i.zero,i.size,i.bytes))=some (some (.string ⟨#[]⟩),1,16):=by kernel_rfl
def JpN (o:Option (List Int)) (n:Nat) (e:Ending) (w':World):Prop :=
 match o with
 | some ns=>∃v',e=.returned v'/\Je5 w' v' ns/\ns.length=n
 | none=>e=JaA 3
theorem Jfn(ws:List (List UInt8))(hs:∀s∈ws,s.length<=1000000)(hl:ws.length<=1000000)(v:Value)(w:World)(he:EnvK w)(hv:JcE w v ws) :
    Cg 51 #[v] w λe w'=>JpN (Jdq ws) ws.length e w'/\Bw w w':=by
 obtain⟨p,c,rfl,q1,q2,q3⟩:=hv;have HQ:=hdz q3;have HE:=hdz he;have HS:=hdz hs;obtain⟨n,hn⟩:∃n,ws.length=n:=⟨_,rfl⟩;have HN:=hdz hn;rw[hn]at q1 hl ⊢;unfold maxLen at q2;obtain⟨i0,hi,hz0,hz1,hz2⟩:=info_parts Jvj;clear q3 he hs hn
 go_enter func51,ntmps51
 go_wp2
 go_loopw [3,8] (λv3 i wr=>∃(k:Nat) (ns:List Int),i=.int .i64 k/\k<=n/\ns.length=k/\Jdq ws=(Jdq (ws.drop k)).map (ns ++ ·)/\wr.ownsRow w.heap.size 3 1 v3 k (intC ns)/\Bw w wr) (λ_ i _=>n - (intOf i).toNat)
 case atStart=>exact⟨0,[],rfl,Nat.zero_le _,rfl,by simp,World.ownsRow_nil _ _ _ _,brf _ _⟩
 case round =>
  obtain⟨k,ns,rfl,hk,hns,heq,hown,hb⟩:=hrel
  by_cases hlt:k<n
  . have hki:(k:Int)<(n:Int):=by omega
    have hkl:k<ws.length:=by rw[HN.out];exact hlt
    obtain⟨b,o,rfl,hbw,hc⟩:=HQ.out (λe=>by rw[e]at hkl;exact absurd hkl (Nat.not_lt_zero _));have g0:=(zC hb b (o+k) hbw).trans (hc k _ (lgg hkl));have CN:Hid _:=Jda ws[k] (HS.out _ (List.getElem_mem hkl)) wr (HE.out.below hb);rw[List.drop_eq_getElem_cons hkl]at heq;rw[Jk8]at heq;generalize ws[k]=s at *;obtain⟨pv,cv,rfl⟩:=Jak hown
    cases hm:numW s with
    | none =>
     have CN2:Hid (Cg 57 #[Sx s] wr λe w'=>e=JaA 3/\Bw wr w'):=by have:=CN;rw[hm]at this;exact this
     have HEQ:Hid (Jdq ws=none):=by show _=_;rw[heq,hm];rfl
     have HB:=hdz hb;clear heq hown hb hc hm hns HQ CN
     go_wp2_with (go_at_call 57;refine Calls.mono CN2.out ?_;rintro e w1 ⟨rfl,h⟩;unfold JaA;have HB1:=hdz (HB.out.trans (h.mono HB.out.size));clear h)
     exact⟨rfl,by rw[HEQ.out];rfl,HB1.out⟩
    | some m =>
     have CN2:Hid (Cg 57 #[Sx s] wr (Rt wr (I6 m))):=by have:=CN;rw[hm]at this;exact this
     have HEQ:Hid (Jdq ws=(Jdq (ws.drop (k+1))).map ((ns++[m]) ++ ·)):=by
      show _=_;rw[heq,hm]
      cases Jdq (ws.drop (k+1))<;>simp
     have HB:=hdz hb;have HOW:=hdz hown;have HNS:=hdz hns;clear heq hown hb hc hm hns HQ CN
     go_wp2_with (first
      | (go_at_call 57;refine Calls.mono CN2.out ?_;rintro e w1 ⟨rfl,h⟩;have HO:Hid (w1.ownsRow w.heap.size 3 1 (.slice pv k cv) k (intC ns)):=Jbl HOW.out h;have HB1:=hdz (HB.out.trans (h.mono HB.out.size));clear h)
      | (at_builtin;refine wpList_append_own _ rfl _ _ 44 rfl w.heap.size 3 i0 (I6 0) 1 8 underlying44 hi hz0 hz1 hz2 rfl (by decide) _ _ _ rfl (HO.out.alloc _) (Ad w1.heap.size 0) 1 1 [I6 m] rfl rfl (cell_one_new _ _ _) (ints_oneCell .i64 [m]) (by unfold maxLen;omega) (by omega) (by have:=HB1.out.size;simp;omega) ?_))
     intro v2 w2 hown2 hg _;obtain⟨p2,c2,rfl⟩:=Jak hown2;have HB2:Hid (Bw w w2):=(HB1.out.alloc HB1.out.size _).grown hg (by have:=HB1.out.size;rw[wsa];omega) λj hj=>(HO.out.lt j hj).1;have HO2:Hid (w2.ownsRow w.heap.size 3 1 (.slice p2 (k+1) c2) (k+1) (intC (ns++[m]))):=by unfold intC;rw[List.map_append];exact hown2
     clear hown2 hg;go_wp2
     go_roundw
     case rel=>exact⟨k+1,ns++[m],by go_num,by omega,by rw[List.length_append,HNS.out];rfl,HEQ.out,HO2.out,HB2.out⟩
     case measure=>simp[intOf];omega
  . obtain rfl:k=n:=by omega
    have hki:¬((k:Int)<(k:Int)):=by omega
    have HEQ:Hid (Jdq ws=some ns):=by show _=_;rw[heq,List.drop_of_length_le (Nat.le_of_eq HN.out)];simp[Jdq]
    obtain⟨pv,cv,rfl⟩:=Jak hown;have HO:Hid (Je5 wr (.slice pv k cv) ns):=Jvh (by rw[hns];exact hown);have HB:=hdz hb;have HNS:=hdz hns;clear heq hown hb hns HQ;go_wp2;go_ret;exact⟨by rw[HEQ.out];exact⟨_,rfl,HO.out,HNS.out⟩,HB.out⟩
end
structure Growth (W:World) (G:World->World):Prop where
 below:∀x,Bw W (G x)
 onto:∀w,Bw W w->G w=w
open Classical in
theorem Jas(W:World):∃G,Growth W G :=
 ⟨λx=>if Bw W x then x else W,λx=>by
  show Bw W (if Bw W x then x else W)
  split
  . assumption
  . exact brf _ _,λw h=>if_pos h⟩
theorem Growth.cell{W:World}{G:World->World}(hG:Growth W G){b o:Nat}{v:Value}(h:W.cell? (Ad b o)=some v):∀x,(G x).cell? (Ad b o)=some v :=
 λx=>(zC (hG.below x) b o (blt W _ h)).trans h
theorem Jdy{P:Program}{id:Nat}{Q:Exit->Act->World->Prop}{a:Act}{w:World}{l:List Oper}{G:World->World}(hG:Growth w G)(hm:P.follows .mixedOrders=true)(hB:Region.lexB .any l.toArray=true)
    (h:wpQuiet P l.toArray (λw'=>∃x,w'=G x) (λa'=>∀w',(∃x,w'=G x)->Q .normal a' w') l a):(Code.region id l.toArray true).wp P Q a w :=
 wp_region_quiet (C:=λw'=>∃x,w'=G x) hm hB ⟨w.drew,(hG.onto _ ((brf _ _).drew)).symm⟩ (by simpa using h)
theorem JfJ{P:Program}{f:FuncId}{args:Array Value}{W x:World}{G:World->World}(hG:Growth W G){v:Value}
    (h:Calls P f args (G x) λe w'=>e=.returned v/\Below (G x).heap.size (G x) w'):Calls P f args (G x) λe w''=>e=.returned v/\∃y,w''=G y :=
 h.mono λ_ w' ⟨he,hb⟩=>⟨he,w',(hG.onto _ ((hG.below x).trans (hb.mono (hG.below x).size))).symm⟩
/-! ### Within a round -/
section
variable {P : Program} {ops : Array Oper} {md : Region.Mode} {C : World → Prop} {l0 n : Nat}
def JlV:List Oper->Bool
 | []=>true
 | o :: l=>(match o.op with | .defer _=>false | _=>true) && JlV l
theorem JkA:∀{l:List Oper},JlV l=true->∀(i:Nat)(o:Oper),l[i]?=some o->∀c,o.op≠.defer c
 | [],_,i,o,hi=>by simp at hi
 | o' :: l,h,i,o,hi=>by
  rw[JlV,Bool.and_eq_true]at h
  cases i with
  | zero =>
   simp at hi;subst hi;intro c e;rw[e]at h;exact absurd h.1 (by simp)
  | succ i=>exact JkA h.2 i o (by simpa using hi)
end
section
variable {P : Program} {ops : Array Oper} {md : Region.Mode} {m : Nat} {Q : Exit → Act → World → Prop}
def JaD (P:Program) (o:Oper) (a:Act) (K:Act->World->Prop):Result Next->Prop
 | .ok (.value v) w'=>K (a.put o.dst v) w'
 | .ok .skip w'=>K (a.put o.dst undef) w'
 | .ok (.enter f args) w'=>Calls P f args w' λe w''=>∃v,e=.returned v/\K (a.put o.dst v) w''
 | _=>False
theorem JoL{o:Oper}{a:Act}{K K':Act->World->Prop}(h:∀a w,K a w->K' a w){r:Result Next}(hh:JaD P o a K r):JaD P o a K' r:=by
 cases r with
 | ok n w =>
  cases n<;>simp only[JaD]at hh ⊢
  case value=>exact h _ _ hh
  case skip=>exact h _ _ hh
  case enter=>exact hh.mono λe w ⟨v,e1,e2⟩=>⟨v,e1,h _ _ e2⟩
 | halt x w=>simp only[JaD]at hh
theorem Jh3{o:Oper}{a:Act}{K:Act->World->Prop}{r:Result Next}(hh:JaD P o a K r):o.upon P a K Q r:=by
 cases r with
 | ok n w =>
  cases n<;>simp only[JaD]at hh<;>simp only[Oper.upon]
  case value=>exact hh
  case skip=>exact hh
  case enter=>exact hh.mono λe w ⟨v,e1,e2⟩=>by subst e1;exact e2
 | halt x w=>simp only[JaD]at hh
def opG (P:Program) (ops:Array Oper) (i:Nat) (K:Act->World->Prop) (a:Act) (w:World):Prop :=
 match ops[i]? with
 | none=>K a w
 | some o=>if Region.wanted o (yielded ops a.tmps) then JaD P o a K ((execOp a.eval o).run P w) else K (a.put o.dst undef) w
theorem Je2{i:Nat}{K K':Act->World->Prop}{a:Act}{w:World}(h:∀a w,K a w->K' a w)(hh:opG P ops i K a w):opG P ops i K' a w:=by
 unfold opG at *
 split
 . rename_i ho;simp only[ho]at hh;exact h _ _ hh
 . rename_i o ho
   simp only[ho]at hh
   split
   . rename_i hw;simp only[hw,if_true]at hh;exact JoL h hh
   . rename_i hw;simp only[hw]at hh;exact h _ _ hh
def anyG (P:Program) (md:Region.Mode) (ops:Array Oper) (m:Nat) (Q:Exit->Act->World->Prop):Nat->Array Bool->Act->World->Prop
 | 0,listed,a,w=>Region.ready md ops listed=[]/\∀w',Bw w w'->Q .normal a w'
 | fuel+1,listed,a,w =>
  (Region.ready md ops listed=[]->∀w',Bw w w'->Q .normal a w') /\
  ∀i∈Region.ready md ops listed,∀w',Bw w w'->opG P ops i (λa' w''=>(i<m->Bw w' w'')/\anyG P md ops m Q fuel (listed.setIfInBounds i true) a' w'') a w'
theorem JjK:∀(fuel:Nat)(listed:Array Bool)(a:Act)(w:World),anyG P md ops m Q fuel listed a w->wpAny P md ops Q fuel listed a w
 | 0,_,_,w,h=>⟨h.1,h.2 w (brf _ _)⟩
 | fuel + 1,listed,a,w,h=>⟨λh0=>h.1 h0 w (brf _ _),λi hi=>by
     have h1:=h.2 i hi w (brf _ _);have h2:=Je2 (λa' w'' hh=>JjK fuel _ a' w'' hh.2) h1;unfold opG at h2;unfold wpOp
     split
     . rename_i ho;simp only[ho]at h2;exact h2
     . rename_i o ho
       simp only[ho]at h2
       split
       . rename_i hw;simp only[hw,if_true]at h2;exact .inl (Jh3 h2)
       . rename_i hw;simp only[hw]at h2;exact h2⟩
theorem Jlq:∀{fuel:Nat}{listed:Array Bool}{a:Act}{w w2:World},anyG P md ops m Q fuel listed a w->Bw w w2->anyG P md ops m Q fuel listed a w2
 | 0,_,_,_,_,h,hb=>⟨h.1,λw' hb'=>h.2 w' (hb.trans (hb'.mono hb.size))⟩
 | _+1,_,_,_,_,h,hb=>⟨λh0 w' hb'=>h.1 h0 w' (hb.trans (hb'.mono hb.size)),λi hi w' hb'=>h.2 i hi w' (hb.trans (hb'.mono hb.size))⟩
def Jaj (P:Program) (w:World) (v:Value):Result Next->Prop
 | .ok (.value u) w'=>w'=w/\u=v
 | .ok .skip w'=>w'=w/\v=undef
 | .ok (.enter f args) w'=>w'=w/\Calls P f args w (λe w''=>e=.returned v/\Bw w w'')
 | _=>False
def JdI (P:Program) (ops:Array Oper) (o:Oper) (v:Value) (a:Act) (w:World):Prop :=
 if Region.wanted o (yielded ops a.tmps) then ∀w',Bw w w'->Jaj P w' v ((execOp a.eval o).run P w') else v=undef
theorem JhS{o:Oper}{v:Value}{a a':Act}{w w2:World}(hy:JdI P ops o v a w)(he:execOp a'.eval o=execOp a.eval o)
    (hw:Region.wanted o (yielded ops a'.tmps)=Region.wanted o (yielded ops a.tmps)) (hb:Bw w w2):JdI P ops o v a' w2:=by
 unfold JdI at *;rw[hw]
 split
 . rename_i h
   rw[if_pos h]at hy;intro w' hb';rw[he];exact hy w' (hb.trans (hb'.mono hb.size))
 . rename_i h
   rw[if_neg h]at hy;exact hy
theorem JgX{i:Nat}{o:Oper}{v:Value}{a:Act}{w w':World}(hi:ops[i]?=some o)(hy:JdI P ops o v a w)(hb:Bw w w'){K:Act->World->Prop}
    (h:∀w'',Bw w' w''->K (a.put o.dst v) w''):opG P ops i K a w':=by
 unfold opG;simp only[hi];unfold JdI at hy
 split
 . rename_i hw
   rw[if_pos hw]at hy;have h3:=hy w' hb;generalize (execOp a.eval o).run P w'=r at *
   cases r with
   | ok n w2 =>
    cases n<;>simp only[Jaj]at h3<;>simp only[JaD]
    case value u =>
     obtain⟨e1,e2⟩:=h3;rw[e2];exact h _ (by rw[e1];exact brf _ _)
    case skip =>
     obtain⟨e1,e2⟩:=h3;rw[←e2];exact h _ (by rw[e1];exact brf _ _)
    case enter f args =>
     obtain⟨e1,hc⟩:=h3;rw[e1];exact hc.mono λe w'' ⟨he,hw''⟩=>⟨v,he,h _ hw''⟩
   | halt x w2=>simp only[Jaj]at h3
 . rename_i hw
   rw[if_neg hw]at hy;rw[←hy];exact h _ (brf _ _)
theorem opG_put{j:Nat}{oi oj:Oper}{v:Value}(hj:ops[j]?=some oj)(hap:oi.apart ops oj=true)(hsi:∀cs b,oi.op≠.select cs b)(hsj:∀cs b,oj.op≠.select cs b)
    {K:Act->World->Prop} {a:Act} {w0 w:World} (hy:JdI P ops oi v a w0) (h:opG P ops j K (a.put oi.dst v) w) :
    opG P ops j (λa' w'=>JdI P ops oi v a' w0/\K (a'.put oi.dst v) w') a w:=by
 obtain⟨h1,h2,h3⟩:=Oper.apart_spec hap;have keep:∀u,JdI P ops oi v (a.put oj.dst u) w0:=λu=>JhS hy (execOp_put oi hsi a oj.dst u h3) (wanted_put oi a oj.dst u h3) (brf _ _);unfold opG at *;simp only[hj]at *;rw[wanted_put oj a oi.dst v h1]at h
 split
 . rename_i hw
   simp only[hw,if_true]at h;rw[execOp_put oj hsj a oi.dst v h1]at h;generalize (execOp a.eval oj).run P w=r at *
   cases r with
   | ok n w2 =>
    cases n<;>simp only[JaD]at h ⊢
    case value u=>exact⟨keep u,by rw[←Act.put_comm a v u h2];exact h⟩
    case skip=>exact⟨keep _,by rw[←Act.put_comm a v undef h2];exact h⟩
    case enter f args=>exact h.mono λe w'' ⟨u,e1,e2⟩=>⟨u,e1,keep u,by rw[←Act.put_comm a v u h2];exact e2⟩
   | halt x w2=>simp only[JaD]at h
 . rename_i hw
   simp only[hw]at h;exact⟨keep _,by rw[←Act.put_comm a v undef h2];exact h⟩
def JeJ (md:Region.Mode) (ops:Array Oper) (m:Nat):Bool :=
 (List.range ops.size).all λj=>j<m || match ops[j]? with
   | some o=>(List.range m).all λi=>o.after.any λe=>Region.binds md e && e.on==i
   | none=>true
theorem Jfq(h:JeJ md ops m=true){j i:Nat}{o:Oper}(hj:ops[j]?=some o)(hm:¬j<m)(hi:i<m):∃e∈o.after,Region.binds md e=true/\e.on=i:=by
 unfold JeJ at h;rw[List.all_eq_true]at h;have h1:=h j (List.mem_range.2 (alt hj));simp only[hj,hm,decide_false,Bool.false_or,List.all_eq_true,List.mem_range]at h1;obtain⟨e,he,hb⟩:=Array.any_eq_true'.1 (h1 i hi);rw[Bool.and_eq_true,beq_iff_eq]at hb;exact⟨e,he,hb.1,hb.2⟩
theorem JrH{i:Nat}{oi:Oper}{v:Value}(hi:ops[i]?=some oi)(him:i<m)(hsel:∀(j:Nat)(o:Oper) cs b,ops[j]?=some o->o.op≠.select cs b)(hlate:JeJ md ops m=true) :
    ∀ (fuel:Nat) (listed:Array Bool) (a:Act) (w:World),
     (∀j oj,ops[j]?=some oj->j≠i->listed.getD j true=false->(∀e∈oj.after,Region.binds md e=true->e.on≠i)->oi.apart ops oj=true) ->
     i∈Region.ready md ops listed->JdI P ops oi v a w ->
     anyG P md ops m Q fuel (listed.setIfInBounds i true) (a.put oi.dst v) w->anyG P md ops m Q (fuel+1) listed a w:=by
 intro fuel
 induction fuel with
 | zero =>
  intro listed a w _ hr hy H;refine⟨λh=>(by rw[h]at hr;cases hr),λj hj w' hb=>?_⟩
  by_cases hji:j=i
  . subst hji;exact JgX hi hy hb λw'' hb'=>⟨λ_=>hb',Jlq H (hb.trans (hb'.mono hb.size))⟩
  . have:=ready_mono hj hji
    rw[H.1]at this
    cases this
 | succ fuel ih =>
  intro listed a w hfree hr hy H;refine⟨λh=>(by rw[h]at hr;cases hr),λj hj w' hb=>?_⟩
  by_cases hji:j=i
  . subst hji;exact JgX hi hy hb λw'' hb'=>⟨λ_=>hb',Jlq H (hb.trans (hb'.mono hb.size))⟩
  . have h1:=H.2 j (ready_mono hj hji) w' hb
    obtain⟨hjun,oj,hoj,hall⟩:=mem_ready.1 hj;have hnot:∀e∈oj.after,Region.binds md e=true->e.on≠i:=λe he hb heq=>by
     have h1:=hall e he hb;have h0:=(mem_ready.1 hr).1;rw[heq]at h1
     rcases Nat.lt_or_ge i listed.size with h' | h'
     . simp[h']at h0 h1;rw[h0]at h1;cases h1
     . simp[Array.getElem?_eq_none h']at h1
    have hjm:j<m:=by
     by_cases hjm:j<m
     . exact hjm
     . obtain⟨e,he,hb,hon⟩:=Jfq hlate hoj hjm him
       exact absurd hon (hnot e he hb)
    have h2:=opG_put hoj (hfree j oj hoj hji hjun hnot) (λcs b=>hsel i oi cs b hi) (λcs b=>hsel j oj cs b hoj) hy h1
    have hfree':∀k ok,ops[k]?=some ok->k≠i->(listed.setIfInBounds j true).getD k true=false ->
        (∀e∈ok.after,Region.binds md e=true->e.on≠i)->oi.apart ops ok=true:=λk ok hk hki hun hno=>by
     refine hfree k ok hk hki ?_ hno
     by_cases hjk:j=k
     . subst hjk;exact hjun
     . rw[getD_set_ne true hjk]at hun;exact hun
    refine Je2 (λa' w'' h3=>?_) h2;obtain⟨h3y,h3g,h3a⟩:=h3;have hg:=h3g hjm;refine⟨λ_=>hg,ih (listed.setIfInBounds j true) a' w'' hfree' (ready_mono hr (Ne.symm hji)) (JhS h3y rfl rfl (hb.trans (hg.mono hb.size))) ?_⟩;rw[Array.setIfInBounds_comm _ _ hji];exact h3a
theorem JnV{i fuel:Nat}{oi:Oper}{v:Value}{listed:Array Bool}{a:Act}{w:World}(hi:ops[i]?=some oi)(him:i<m)(hs:(Region.noSelect ops && JeJ md ops m)=true)
    (hf:(Region.free md ops listed i && (Region.ready md ops listed).contains i)=true) (hy:JdI P ops oi v a w) (H:anyG P md ops m Q fuel (listed.setIfInBounds i true) (a.put oi.dst v) w):anyG P md ops m Q (fuel+1) listed a w:=by
 rw[Bool.and_eq_true]at hs hf;exact JrH hi him (Region.noSelect_spec hs.1) hs.2 fuel listed a w (Region.free_spec hi hf.1) (by simpa using hf.2) hy H
theorem Jaa{i fuel:Nat}{o:Oper}{listed:Array Bool}{a:Act}{w:World}{G:World->World}(hG:Growth w G)(hi:ops[i]?=some o)(him:decide (i<m)=true)(hs:(Region.noSelect ops && JeJ md ops m)=true)
    (hf:(Region.free md ops listed i && (Region.ready md ops listed).contains i)=true)
    (h:∀K:Act->Prop,(∀a,anyG P md ops m Q fuel (listed.setIfInBounds i true) a w->K a)->if Region.wanted o (yielded ops a.tmps) then ∃v,(∀x,Jaj P (G x) v ((execOp a.eval o).run P (G x)))/\K (a.put o.dst v) else K (a.put o.dst undef)) :
    anyG P md ops m Q (fuel+1) listed a w:=by
 have h1:=h _ λ_ h=>h;have him':i<m:=of_decide_eq_true him
 split at h1
 . rename_i hw
   obtain⟨v,h2,h3⟩:=h1;refine JnV hi him' hs hf ?_ h3;unfold JdI;rw[if_pos hw];intro w' hb;have:=h2 w';rw[hG.onto w' hb]at this;exact this
 . rename_i hw
   refine JnV hi him' hs hf ?_ h1;unfold JdI;rw[if_neg hw]
theorem Jbf{i fuel:Nat}{o:Oper}{listed:Array Bool}{a:Act}{w:World}(hi:ops[i]?=some o)(hr:Region.ready md ops listed=[i])
    (h:∀w',Bw w w'->∀K:Act->World->Prop,(∀a' w'',Bw w' w''->anyG P md ops m Q fuel (listed.setIfInBounds i true) a' w''->K a' w'')->if Region.wanted o (yielded ops a.tmps) then JaD P o a K ((execOp a.eval o).run P w') else K (a.put o.dst undef) w') :
    anyG P md ops m Q (fuel+1) listed a w :=
 ⟨λh0=>absurd (hr.symm.trans h0) (by simp),λj hj w' hb=>by
  rw[hr,List.mem_singleton]at hj;subst hj;unfold opG;simp only[hi];exact h w' hb _ λa' w'' hb' ha=>⟨λ_=>hb',ha⟩⟩
theorem JdF{i fuel:Nat}{o:Oper}{listed:Array Bool}{a:Act}{w:World}(hi:ops[i]?=some o)(hr:Region.ready md ops listed=[i])(him:decide (i<m)=false)
    (h:∀w',Bw w w'->∀K:Act->World->Prop,(∀a' w'',anyG P md ops m Q fuel (listed.setIfInBounds i true) a' w''->K a' w'')->if Region.wanted o (yielded ops a.tmps) then JaD P o a K ((execOp a.eval o).run P w') else K (a.put o.dst undef) w') :
    anyG P md ops m Q (fuel+1) listed a w :=
 ⟨λh0=>absurd (hr.symm.trans h0) (by simp),λj hj w' hb=>by
  rw[hr,List.mem_singleton]at hj;subst hj;unfold opG;simp only[hi];exact h w' hb _ λa' w'' ha=>⟨λhm=>absurd hm (of_decide_eq_false him),ha⟩⟩
theorem Jbi{fuel:Nat}{listed:Array Bool}{a:Act}{w:World}(hr:Region.ready md ops listed=[])(h:∀w',Below w.heap.size w w'->Q .normal a w'):anyG P md ops m Q fuel listed a w:=by
 cases fuel with
 | zero=>exact⟨hr,h⟩
 | succ n=>exact⟨λ_=>h,λi hi=>(by rw[hr]at hi;cases hi)⟩
theorem Ja4{id:Nat}{a:Act}{w:World}{l:List Oper}(m n:Nat)(hm:P.follows .mixedOrders=true)(hn:l.length=n)
    (h:∀w',Bw w w'->anyG P .any l.toArray m Q n (Array.replicate n false) a w'):(Code.region id l.toArray true).wp P Q a w :=
 wp_region_any hm (JjK _ _ _ _ (by subst hn;simpa using h { w with drawn:=w.drawn+1 } (Below.drew (brf _ w))))
end
theorem Jsu(rs:List Nat):sum1 (wide rs)=((encs rs).length:Int):=by
 induction rs with
 | nil=>rfl
 | cons r rs ih =>
  have e:sum1 (wide (r :: rs))=((enc r).length:Int)+sum1 (wide rs):=by simp[sum1,wide]
  rw[e,ih,JbS,List.length_append]
  push_cast
  rfl
/-! ### What runes count -/
def C1 (rs:List Nat):Int:=sum1 (wide rs)
def C2 (rs:List Nat):Int:=sum2 (wide rs)
def C3 (rs:List Nat):Int:=rs.length
def C4 (rs:List Nat):Int:=sum4 (wide rs)
theorem JcS(a b:List Nat):wide (a++b)=wide a++wide b:=by simp[wide]
theorem Jbc(a b:List Nat):C1 (a++b)=C1 a+C1 b:=by unfold C1 sum1;rw[JcS,List.map_append,List.sum_append]
theorem JjS(a b:List Nat):C2 (a++b)=C2 a+C2 b:=by unfold C2 sum2;rw[JcS,List.map_append,List.sum_append]
theorem JjR(a b:List Nat):C3 (a++b)=C3 a+C3 b:=by unfold C3;rw[List.length_append];push_cast;rfl
theorem Jet(a b:List Nat):C4 (a++b)=C4 a+C4 b:=by unfold C4 sum4;rw[JcS,List.map_append,List.sum_append]
theorem Jcb(rs:List Nat):C1 rs=(encs rs).length:=Jsu rs
theorem JjQ(rs:List Nat):0<=C3 rs/\C3 rs<=C1 rs:=by
 have:=Jmi rs;rw[Jcb];unfold C3;omega
theorem JjP(rs:List Nat):0<=C4 rs/\C4 rs<=C1 rs:=by
 have h:=JiN (wide rs);have h3:=JjQ rs;have e:(wide rs).length=rs.length:=by simp[wide]
 rw[e]at h;unfold C4;unfold C3 at h3;omega
theorem Job(rs:List Nat):0<=C2 rs/\C2 rs<=2*C1 rs:=by
 have h:=JiO (wide rs);have h3:=JjQ rs;have e:(wide rs).length=rs.length:=by simp[wide]
 rw[e]at h;unfold C2;unfold C3 at h3;omega
def Jah (rs:List Nat):ByteArray:=⟨(encs rs).toArray⟩
theorem JaI(rs:List Nat):(Jah rs).size=(encs rs).length:=by simp[Jah,ByteArray.size]
theorem JbT(rs:List Nat):(Jah rs).data.toList=encs rs:=rfl
theorem Jkd(a b:List Nat):Jah a++Jah b=Jah (a++b):=by
 apply ByteArray.ext;rw[ByteArray.data_append];unfold Jah;rw[Jb1];simp
inductive T where
 | nil
 | node (l:T) (rs:List Nat) (r:T)
def T.runes:T->List Nat
 | .nil=>[]
 | .node l rs r=>l.runes++rs++r.runes
def T.height:T->Nat
 | .nil=>0
 | .node l _ r=>1+max l.height r.height
def T.size:T->Nat
 | .nil=>0
 | .node l _ r=>1+l.size+r.size
def Jau (w:World):Option Addr->T->Prop
 | p,.nil=>p=none
 | p, .node l rs r=>∃b pl pr,p=some (Ad b 0) /\
     (w.cell? (Ad b 0)=some (.string (Jah rs))/\w.cell? (Ad b 1)=some (I6 (C1 rs))/\w.cell? (Ad b 2)=some (I6 (C2 rs))/\w.cell? (Ad b 3)=some (I6 (C3 rs))/\w.cell? (Ad b 4)=some (I6 (C4 rs))) /\
     (w.cell? (Ad b 5)=some (.pointer pl)/\w.cell? (Ad b 6)=some (.pointer pr)) /\
     (w.cell? (Ad b 7)=some (I6 (C1 (T.node l rs r).runes))/\w.cell? (Ad b 8)=some (I6 (C2 (T.node l rs r).runes))/\w.cell? (Ad b 9)=some (I6 (C3 (T.node l rs r).runes))/\w.cell? (Ad b 10)=some (I6 (C4 (T.node l rs r).runes))) /\
     (w.cell? (Ad b 11)=some (I6 (T.node l rs r).height)/\w.cell? (Ad b 12)=some (I6 (T.node l rs r).size)) /\
     Jau w pl l/\Jau w pr r
theorem Jac{W W':World}(hb:Bw W W'){b o:Nat}{v:Value}(h:W.cell? (Ad b o)=some v):W'.cell? (Ad b o)=some v :=
 (zC hb b o (blt W _ h)).trans h
theorem Jab{w w':World}(hb:Below w.heap.size w w'):∀{t:T}{p:Option Addr},Jau w p t->Jau w' p t
 | .nil,_,h=>h
 | .node l rs r,_,⟨b,pl,pr,e,⟨a0,a1,a2,a3,a4⟩,⟨a5,a6⟩,⟨a7,a8,a9,a10⟩,⟨a11,a12⟩,hl,hr⟩ =>
  ⟨b,pl,pr,e,⟨Jac hb a0,Jac hb a1,Jac hb a2,Jac hb a3,Jac hb a4⟩,⟨Jac hb a5,Jac hb a6⟩,⟨Jac hb a7,Jac hb a8,Jac hb a9,Jac hb a10⟩,⟨Jac hb a11,Jac hb a12⟩,Jab hb hl,Jab hb hr⟩
theorem Jc2(p:Option Addr)(t:T)(w:World)(h:Jau w p t) :
    Cg 172 #[.pointer p] w (Rt w (.agg #[I6 (C1 t.runes),I6 (C2 t.runes),I6 (C3 t.runes),I6 (C4 t.runes)])):=by
 cases t with
 | nil =>
  obtain rfl:p=none:=h;have e1:C1 T.nil.runes=0:=rfl;have e2:C2 T.nil.runes=0:=rfl;have e3:C3 T.nil.runes=0:=rfl;have e4:C4 T.nil.runes=0:=rfl;rw[e1,e2,e3,e4];clear e1 e2 e3 e4
  go_enter func172,ntmps172
  go_wp2;refine bodyPost_ret (v:=.agg #[I6 0,I6 0,I6 0,I6 0]) (by simp[results,results172,go_sem]) rfl ⟨rfl,?_⟩;exact zA _ _
 | node l rs r =>
  obtain⟨b,pl,pr,rfl,_,_,⟨a7,a8,a9,a10⟩,_,_,_⟩:=h;have hlt:=blt w _ a7;have hne:¬b=w.heap.size:=by show ¬_;intro e;subst e;exact absurd hlt (Nat.lt_irrefl _)
  generalize (T.node l rs r).runes=R at *;generalize C1 R=x1 at *;generalize C2 R=x2 at *;generalize C3 R=x3 at *;generalize C4 R=x4 at *
  go_enter func172,ntmps172
  go_wp2;refine bodyPost_ret (v:=.agg #[I6 x1,I6 x2,I6 x3,I6 x4]) (by simp[results,results172,go_sem]) rfl ⟨rfl,?_⟩;exact zA _ _
theorem Ja6(p:Option Addr)(t:T)(w:World)(h:Jau w p t) :
    Cg 271 #[.pointer p] w λe w'=>e=.returned (I6 t.height)/\w'=w:=by
 cases t with
 | nil =>
  obtain rfl:p=none:=h
  go_enter func271,ntmps271
  go_wp2;go_ret;exact⟨rfl,rfl⟩
 | node l rs r =>
  obtain⟨b,pl,pr,rfl,_,_,_,⟨a11,_⟩,_,_⟩:=h;generalize ((T.node l rs r).height:Int)=x1 at *
  go_enter func271,ntmps271
  go_wp2;go_ret;exact⟨rfl,rfl⟩
theorem Jnj(p:Option Addr)(t:T)(w:World)(h:Jau w p t) :
    Cg 273 #[.pointer p] w λe w'=>e=.returned (I6 t.size)/\w'=w:=by
 cases t with
 | nil =>
  obtain rfl:p=none:=h
  go_enter func273,ntmps273
  go_wp2;go_ret;exact⟨rfl,rfl⟩
 | node l rs r =>
  obtain⟨b,pl,pr,rfl,_,_,_,⟨_,a12⟩,_,_⟩:=h;generalize ((T.node l rs r).size:Int)=x1 at *
  go_enter func273,ntmps273
  go_wp2;go_ret;exact⟨rfl,rfl⟩
section
attribute [local go_sem] Jaj JaD
def JaF (rs:List Nat):Value:=.agg #[.string (Jah rs),I6 (C1 rs),I6 (C2 rs),I6 (C3 rs),I6 (C4 rs)]
theorem JpT(pl pr:Option Addr)(l r:T)(rs:List Nat)(w:World)(hl:Jau w pl l)(hr:Jau w pr r)(hz:C1 l.runes+C1 rs+C1 r.runes<=1000000000)(hs:l.size<1000000000/\r.size<1000000000/\l.height<1000000000/\r.height<1000000000) :
    Cg 262 #[.pointer pl,JaF rs,.pointer pr] w λe w'=>∃p,e=.returned (.pointer p)/\Jau w' p (.node l rs r)/\Bw w w':=by
 have l1:=JjQ l.runes;have l2:=Job l.runes;have l4:=JjP l.runes;have r1:=JjQ r.runes;have r2:=Job r.runes;have r4:=JjP r.runes;have m1:=JjQ rs;have m2:=Job rs;have m4:=JjP rs;have HL:Hid (Jau w pl l):=hl;have HR:Hid (Jau w pr r):=hr;have t1:Hid (C1 (T.node l rs r).runes=C1 l.runes+C1 rs+C1 r.runes):=by show _=_;simp only[T.runes,Jbc]
 have t2:Hid (C2 (T.node l rs r).runes=C2 l.runes+C2 rs+C2 r.runes):=by show _=_;simp only[T.runes,JjS]
 have t3:Hid (C3 (T.node l rs r).runes=C3 l.runes+C3 rs+C3 r.runes):=by show _=_;simp only[T.runes,JjR]
 have t4:Hid (C4 (T.node l rs r).runes=C4 l.runes+C4 rs+C4 r.runes):=by show _=_;simp only[T.runes,Jet]
 have t5:Hid (((T.node l rs r).height:Int)=1+max (l.height:Int) r.height):=by show _=_;simp only[T.height];omega
 have t6:Hid (((T.node l rs r).size:Int)=1+l.size+r.size):=by show _=_;simp only[T.size];omega
 have cl:=λ(wx:World) (hb:Bw w wx)=>Jc2 pl l wx (Jab hb hl);have cr:=λ(wx:World) (hb:Bw w wx)=>Jc2 pr r wx (Jab hb hr);have hhl:=λ(wx:World) (hb:Bw w wx)=>Ja6 pl l wx (Jab hb hl);have hhr:=λ(wx:World) (hb:Bw w wx)=>Ja6 pr r wx (Jab hb hr);have sl:=λ(wx:World) (hb:Bw w wx)=>Jnj pl l wx (Jab hb hl);have sr:=λ(wx:World) (hb:Bw w wx)=>Jnj pr r wx (Jab hb hr)
 have p1:∀wx,Cg 87 #[.agg #[I6 (C1 l.runes),I6 (C2 l.runes),I6 (C3 l.runes),I6 (C4 l.runes)],.agg #[I6 (C1 rs),I6 (C2 rs),I6 (C3 rs),I6 (C4 rs)]] wx
     (Rt wx (.agg #[I6 (C1 l.runes+C1 rs),I6 (C2 l.runes+C2 rs),I6 (C3 l.runes+C3 rs),I6 (C4 l.runes+C4 rs)])):=λwx=>by
  have:=JgV (C1 l.runes) (C2 l.runes) (C3 l.runes) (C4 l.runes) (C1 rs) (C2 rs) (C3 rs) (C4 rs) wx;rwa[Jar (by omega) (by omega),Jar (by omega) (by omega),Jar (by omega) (by omega),Jar (by omega) (by omega)]at this
 have p2:∀wx,Cg 87 #[.agg #[I6 (C1 l.runes+C1 rs),I6 (C2 l.runes+C2 rs),I6 (C3 l.runes+C3 rs),I6 (C4 l.runes+C4 rs)],.agg #[I6 (C1 r.runes),I6 (C2 r.runes),I6 (C3 r.runes),I6 (C4 r.runes)]] wx
     (Rt wx (.agg #[I6 (C1 l.runes+C1 rs+C1 r.runes),I6 (C2 l.runes+C2 rs+C2 r.runes),I6 (C3 l.runes+C3 rs+C3 r.runes),I6 (C4 l.runes+C4 rs+C4 r.runes)])):=λwx=>by
  have:=JgV (C1 l.runes+C1 rs) (C2 l.runes+C2 rs) (C3 l.runes+C3 rs) (C4 l.runes+C4 rs) (C1 r.runes) (C2 r.runes) (C3 r.runes) (C4 r.runes) wx;rwa[Jar (by omega) (by omega),Jar (by omega) (by omega),Jar (by omega) (by omega),Jar (by omega) (by omega)]at this
 clear hl hr l1 l2 l4 r1 r2 r4 m1 m2 m4 hz;obtain⟨hs1,hs2,hs3,hs4⟩:=hs;unfold JaF;generalize hB:Jah rs=B at *;have HB:Hid (Jah rs=B):=hB;clear hB;generalize hx1:C1 rs=x1 at *;have Hx1:Hid (C1 rs=x1):=hx1;clear hx1;generalize hx2:C2 rs=x2 at *;have Hx2:Hid (C2 rs=x2):=hx2;clear hx2;generalize hx3:C3 rs=x3 at *;have Hx3:Hid (C3 rs=x3):=hx3;clear hx3;generalize hx4:C4 rs=x4 at *;have Hx4:Hid (C4 rs=x4):=hx4;clear hx4;generalize ha1:C1 l.runes=a1 at *;clear ha1;generalize ha2:C2 l.runes=a2 at *;clear ha2;generalize ha3:C3 l.runes=a3 at *;clear ha3;generalize ha4:C4 l.runes=a4 at *;clear ha4;generalize hb1:C1 r.runes=b1 at *;clear hb1;generalize hb2:C2 r.runes=b2 at *;clear hb2;generalize hb3:C3 r.runes=b3 at *;clear hb3;generalize hb4:C4 r.runes=b4 at *;clear hb4;generalize hk1:(l.height:Int)=k1 at *;generalize hk2:(r.height:Int)=k2 at *;generalize hk3:(l.size:Int)=k3 at *;generalize hk4:(r.size:Int)=k4 at *;have z1:0<=k1/\k1<1000000000:=by omega
 have z2:0<=k2/\k2<1000000000:=by omega
 have z3:0<=k3/\k3<1000000000:=by omega
 have z4:0<=k4/\k4<1000000000:=by omega
 clear hk1 hk2 hk3 hk4 hs1 hs2 hs3 hs4
 go_enter func262,ntmps262
 go_wp2;refine Ja4 26 26 (by kernel_rfl) rfl ?_;intro w1 hb1;have hb0:Bw w (w.alloc (Oc #[.string B,I6 x1,I6 x2,I6 x3,I6 x4] 275)):=(brf _ w).alloc (nlr _) _;have hbw:Bw w w1:=hb0.trans (hb1.mono hb0.size);obtain⟨G,hG⟩:=Jas w1;have g0:∀x,(G x).cell? (Ad w.heap.size 0)=some (.string B):=hG.cell (Jac hb1 (by simp[go_sem]));have g1:∀x,(G x).cell? (Ad w.heap.size 1)=some (I6 x1):=hG.cell (Jac hb1 (by simp[go_sem]));have g2:∀x,(G x).cell? (Ad w.heap.size 2)=some (I6 x2):=hG.cell (Jac hb1 (by simp[go_sem]));have g3:∀x,(G x).cell? (Ad w.heap.size 3)=some (I6 x3):=hG.cell (Jac hb1 (by simp[go_sem]));have g4:∀x,(G x).cell? (Ad w.heap.size 4)=some (I6 x4):=hG.cell (Jac hb1 (by simp[go_sem]));have wb:∀x,Bw w (G x):=λx=>hbw.trans ((hG.below x).mono hbw.size);have cl':=λx=>cl (G x) (wb x);have cr':=λx=>cr (G x) (wb x);have hl':=λx=>(hhl (G x) (wb x)).mono (R':=λe w'=>e=.returned (I6 k1)/\Below (G x).heap.size (G x) w') (by rintro e w' ⟨rfl,rfl⟩;exact⟨rfl,brf _ _⟩);have hr':=λx=>(hhr (G x) (wb x)).mono (R':=λe w'=>e=.returned (I6 k2)/\Below (G x).heap.size (G x) w') (by rintro e w' ⟨rfl,rfl⟩;exact⟨rfl,brf _ _⟩);have sl':=λx=>(sl (G x) (wb x)).mono (R':=λe w'=>e=.returned (I6 k3)/\Below (G x).heap.size (G x) w') (by rintro e w' ⟨rfl,rfl⟩;exact⟨rfl,brf _ _⟩);have sr':=λx=>(sr (G x) (wb x)).mono (R':=λe w'=>e=.returned (I6 k4)/\Below (G x).heap.size (G x) w') (by rintro e w' ⟨rfl,rfl⟩;exact⟨rfl,brf _ _⟩);clear cl cr hhl hhr sl sr wb hb0
 (refine Jaa hG (i:=0) rfl (by kernel_rfl) (by kernel_rfl) (by kernel_rfl) (λK hK=>?_);go_simp;refine hK _ ?_;clear hK K)
 (refine Jaa hG (i:=1) rfl (by kernel_rfl) (by kernel_rfl) (by kernel_rfl) (λK hK=>?_);go_simp;refine hK _ ?_;clear hK K)
 (refine Jaa hG (i:=2) rfl (by kernel_rfl) (by kernel_rfl) (by kernel_rfl) (λK hK=>?_);go_simp;refine hK _ ?_;clear hK K)
 (refine Jaa hG (i:=3) rfl (by kernel_rfl) (by kernel_rfl) (by kernel_rfl) (λK hK=>?_);go_simp;refine hK _ ?_;clear hK K)
 (refine Jaa hG (i:=4) rfl (by kernel_rfl) (by kernel_rfl) (by kernel_rfl) (λK hK=>?_);go_simp;apply Exists.intro;refine⟨λ_=>?_,hK _ ?_⟩;exact cl' _;clear hK K)
 (refine Jaa hG (i:=5) rfl (by kernel_rfl) (by kernel_rfl) (by kernel_rfl) (λK hK=>?_);go_simp;refine hK _ ?_;clear hK K)
 (refine Jaa hG (i:=6) rfl (by kernel_rfl) (by kernel_rfl) (by kernel_rfl) (λK hK=>?_);go_simp;refine hK _ ?_;clear hK K)
 (refine Jaa hG (i:=7) rfl (by kernel_rfl) (by kernel_rfl) (by kernel_rfl) (λK hK=>?_);go_simp;apply Exists.intro;refine⟨λ_=>?_,hK _ ?_⟩;exact p1 _;clear hK K)
 (refine Jaa hG (i:=8) rfl (by kernel_rfl) (by kernel_rfl) (by kernel_rfl) (λK hK=>?_);go_simp;refine hK _ ?_;clear hK K)
 (refine Jaa hG (i:=9) rfl (by kernel_rfl) (by kernel_rfl) (by kernel_rfl) (λK hK=>?_);go_simp;apply Exists.intro;refine⟨λ_=>?_,hK _ ?_⟩;exact cr' _;clear hK K)
 (refine Jaa hG (i:=10) rfl (by kernel_rfl) (by kernel_rfl) (by kernel_rfl) (λK hK=>?_);go_simp;apply Exists.intro;refine⟨λ_=>?_,hK _ ?_⟩;exact p2 _;clear hK K)
 (refine Jaa hG (i:=11) rfl (by kernel_rfl) (by kernel_rfl) (by kernel_rfl) (λK hK=>?_);go_simp;refine hK _ ?_;clear hK K)
 (refine Jaa hG (i:=12) rfl (by kernel_rfl) (by kernel_rfl) (by kernel_rfl) (λK hK=>?_);go_simp;apply Exists.intro;refine⟨λ_=>?_,hK _ ?_⟩;exact hl' _;clear hK K)
 (refine Jaa hG (i:=13) rfl (by kernel_rfl) (by kernel_rfl) (by kernel_rfl) (λK hK=>?_);go_simp;refine hK _ ?_;clear hK K)
 (refine Jaa hG (i:=14) rfl (by kernel_rfl) (by kernel_rfl) (by kernel_rfl) (λK hK=>?_);go_simp;apply Exists.intro;refine⟨λ_=>?_,hK _ ?_⟩;exact hr' _;clear hK K)
 (refine Jaa hG (i:=15) rfl (by kernel_rfl) (by kernel_rfl) (by kernel_rfl) (λK hK=>?_);go_simp;refine hK _ ?_;clear hK K)
 (refine Jaa hG (i:=16) rfl (by kernel_rfl) (by kernel_rfl) (by kernel_rfl) (λK hK=>?_);go_simp;refine hK _ ?_;clear hK K)
 (refine Jaa hG (i:=17) rfl (by kernel_rfl) (by kernel_rfl) (by kernel_rfl) (λK hK=>?_);go_simp;refine hK _ ?_;clear hK K)
 (refine Jaa hG (i:=18) rfl (by kernel_rfl) (by kernel_rfl) (by kernel_rfl) (λK hK=>?_);go_simp;apply Exists.intro;refine⟨λ_=>?_,hK _ ?_⟩;exact sl' _;clear hK K)
 (refine Jaa hG (i:=19) rfl (by kernel_rfl) (by kernel_rfl) (by kernel_rfl) (λK hK=>?_);go_simp;refine hK _ ?_;clear hK K)
 (refine Jaa hG (i:=20) rfl (by kernel_rfl) (by kernel_rfl) (by kernel_rfl) (λK hK=>?_);go_simp;refine hK _ ?_;clear hK K)
 (refine Jaa hG (i:=21) rfl (by kernel_rfl) (by kernel_rfl) (by kernel_rfl) (λK hK=>?_);go_simp;apply Exists.intro;refine⟨λ_=>?_,hK _ ?_⟩;exact sr' _;clear hK K)
 (refine Jaa hG (i:=22) rfl (by kernel_rfl) (by kernel_rfl) (by kernel_rfl) (λK hK=>?_);go_simp;refine hK _ ?_;clear hK K)
 (refine Jaa hG (i:=23) rfl (by kernel_rfl) (by kernel_rfl) (by kernel_rfl) (λK hK=>?_);go_simp;refine hK _ ?_;clear hK K)
 clear cl' cr' hl' hr' sl' sr' p1 p2 g0 g1 g2 g3 g4;have e5:IntKind.i64.wrap (1+max k1 k2)=1+max k1 k2:=IntWalk.i64_in _ (by omega);have e6:IntKind.i64.wrap (1+k3)=1+k3:=IntWalk.i64_in _ (by omega);have e7:IntKind.i64.wrap (1+k3+k4)=1+k3+k4:=IntWalk.i64_in _ (by omega);rw[e5,e6,e7];refine Jbf (i:=24) rfl (by kernel_rfl) ?_;intro w2 hb2 K hK
 go_simp
 refine hK _ _ ((brf _ w2).alloc (nlr _) _) ?_;clear hK K;refine Jbf (i:=25) rfl (by kernel_rfl) ?_;intro w3 hb3 K hK
 go_simp
 refine hK _ _ (brf _ w3) ?_;clear hK K;refine Jbi (by kernel_rfl) ?_;intro w4 hb4;have hb23:Bw w2 _:=(brf _ w2).alloc (nlr _) (Oc #[.string B,I6 x1,I6 x2,I6 x3,I6 x4,.pointer pl,.pointer pr,I6 (a1+x1+b1),I6 (a2+x2+b2),I6 (a3+x3+b3),I6 (a4+x4+b4),I6 (1+max k1 k2),I6 (1+k3+k4)] 277);have hb34:=hb3.trans (hb4.mono hb3.size);have hbw4:Bw w w4:=hbw.trans ((hb2.trans ((hb23.trans (hb34.mono hb23.size)).mono hb2.size)).mono hbw.size);have hcell:∀o v,(w2.alloc (Oc #[.string B,I6 x1,I6 x2,I6 x3,I6 x4,.pointer pl,.pointer pr,I6 (a1+x1+b1),I6 (a2+x2+b2),I6 (a3+x3+b3),I6 (a4+x4+b4),I6 (1+max k1 k2),I6 (1+k3+k4)] 277)).cell? (Ad w2.heap.size o)=some v->w4.cell? (Ad w2.heap.size o)=some v:=λo v h=>Jac hb34 h;have hT:Jau w4 (some (Ad w2.heap.size 0)) (.node l rs r):=by
  refine⟨w2.heap.size,pl,pr,rfl,⟨hcell _ _ ?_,hcell _ _ ?_,hcell _ _ ?_,hcell _ _ ?_,hcell _ _ ?_⟩,⟨hcell _ _ ?_,hcell _ _ ?_⟩,⟨hcell _ _ ?_,hcell _ _ ?_,hcell _ _ ?_,hcell _ _ ?_⟩,⟨hcell _ _ ?_,hcell _ _ ?_⟩,Jab hbw4 HL.out,Jab hbw4 HR.out⟩
  . simp[go_sem,HB.out]
  . simp[go_sem,Hx1.out]
  . simp[go_sem,Hx2.out]
  . simp[go_sem,Hx3.out]
  . simp[go_sem,Hx4.out]
  . simp[go_sem]
  . simp[go_sem]
  . simp[go_sem,t1.out]
  . simp[go_sem,t2.out]
  . simp[go_sem,t3.out]
  . simp[go_sem,t4.out]
  . simp[go_sem,t5.out]
  . simp[go_sem,t6.out]
 clear hcell hb2 hb23 hb34 hb3 hb4 t1 t2 t3 t4 t5 t6;have HT:=hdz hT;clear hT;go_wp2;go_ret;exact⟨_,rfl,HT.out,hbw4⟩
end
def T.chunks:T->List (List Nat)
 | .nil=>[]
 | .node l rs r=>l.chunks++[rs]++r.chunks
theorem Jbk:∀t:T,t.runes=t.chunks.flatten
 | .nil=>rfl
 | .node l rs r=>by simp[T.runes,T.chunks,Jbk l,Jbk r]
theorem Jbz:∀t:T,t.size=t.chunks.length
 | .nil=>rfl
 | .node l rs r=>by simp[T.size,T.chunks,Jbz l,Jbz r];omega
theorem JbU:∀t:T,t.height<=t.size
 | .nil=>nlr _
 | .node l rs r=>by have:=JbU l;have:=JbU r;simp only[T.height,T.size];omega
def T.bal:T->Prop
 | .nil=>True
 | .node l _ r=>l.bal/\r.bal/\l.height<=r.height+1/\r.height<=l.height+1
def big (t:T):Prop:=C1 t.runes<=1000000000/\t.size<=100000000
theorem JdN(rs:List Nat):0<=C1 rs:=by rw[Jcb];omega
theorem JbW{l r:T}{c:List Nat}(h:big (.node l c r)):big l/\big r/\C1 l.runes+C1 c+C1 r.runes<=1000000000/\(l.size<1000000000/\r.size<1000000000/\l.height<1000000000/\r.height<1000000000):=by
 obtain⟨h1,h2⟩:=h;simp only[T.runes,Jbc,T.size]at h1 h2;have a1:=JdN l.runes;have a2:=JdN c;have a3:=JdN r.runes;have b1:=JbU l;have b2:=JbU r;exact⟨⟨by omega,by omega⟩,⟨by omega,by omega⟩,h1,by omega,by omega,by omega,by omega⟩
theorem JiC{t t':T}(h:big t)(e:t'.chunks=t.chunks):big t':=by
 unfold big at *;rw[Jbk,e,←Jbk,Jbz,e,←Jbz];exact h
def Jgp (l:T) (c:List Nat) (r:T):T :=
 if l.height=r.height+2 then
  match l with
  | .node ll lc (.node a b d)=>if ll.height<(T.node a b d).height then .node (.node ll lc a) b (.node d c r) else .node ll lc (.node (.node a b d) c r)
  | .node ll lc .nil=>.node ll lc (.node .nil c r)
  | .nil=>.node .nil c r
 else if r.height=l.height+2 then
  match r with
  | .node (.node a b d) rc rr=>if rr.height<(T.node a b d).height then .node (.node l c a) b (.node d rc rr) else .node (.node l c (.node a b d)) rc rr
  | .node .nil rc rr=>.node (.node l c .nil) rc rr
  | .nil=>.node l c .nil
 else .node l c r
theorem Jd0(l:T)(c:List Nat)(r:T):(Jgp l c r).chunks=l.chunks++[c]++r.chunks:=by
 unfold Jgp
 split
 . split
   . split<;>simp[T.chunks]
   . simp[T.chunks]
   . simp[T.chunks]
 . split
   . split
     . split<;>simp[T.chunks]
     . simp[T.chunks]
     . simp[T.chunks]
   . simp[T.chunks]
theorem JmB{l r:T}(c:List Nat)(hl:l.bal)(hr:r.bal)(h1:l.height<=r.height+2)(h2:r.height<=l.height+2) :
    (Jgp l c r).bal/\(l.height<=r.height+1->r.height<=l.height+1->(Jgp l c r).height=1+max l.height r.height)/\max l.height r.height<=(Jgp l c r).height/\(Jgp l c r).height<=1+max l.height r.height:=by
 unfold Jgp
 split
 . rename_i h
   match l,hl,h1,h2,h with
   | .nil,hl,h1,h2,h=>simp[T.height]at h
   | .node ll lc .nil,hl,h1,h2,h =>
    simp only[T.bal,T.height]at *;obtain⟨hll,_,h5,h6⟩:=hl;exact⟨⟨hll,⟨trivial,hr,by omega,by omega⟩,by omega,by omega⟩,λ_ _=>by omega,by omega,by omega⟩
   | .node ll lc (.node a b d),hl,h1,h2,h =>
    simp only[T.bal,T.height]at *;obtain⟨hll,⟨ha,hd,h3,h4⟩,h5,h6⟩:=hl
    by_cases hc:ll.height<1+max a.height d.height
    . simp only[hc,if_true,T.bal,T.height]
      exact⟨⟨⟨hll,ha,by omega,by omega⟩,⟨hd,hr,by omega,by omega⟩,by omega,by omega⟩,λ_ _=>by omega,by omega,by omega⟩
    . simp only[hc,if_false,T.bal,T.height]
      exact⟨⟨hll,⟨⟨ha,hd,h3,h4⟩,hr,by omega,by omega⟩,by omega,by omega⟩,λ_ _=>by omega,by omega,by omega⟩
 . rename_i h
   split
   . rename_i h'
     match r,hr,h1,h2,h,h' with
     | .nil,hr,h1,h2,h,h'=>simp[T.height]at h'
     | .node .nil rc rr,hr,h1,h2,h,h' =>
      simp only[T.bal,T.height]at *;obtain⟨_,hrr,h5,h6⟩:=hr;exact⟨⟨⟨hl,trivial,by omega,by omega⟩,hrr,by omega,by omega⟩,λ_ _=>by omega,by omega,by omega⟩
     | .node (.node a b d) rc rr,hr,h1,h2,h,h' =>
      simp only[T.bal,T.height]at *;obtain⟨⟨ha,hd,h3,h4⟩,hrr,h5,h6⟩:=hr
      by_cases hc:rr.height<1+max a.height d.height
      . simp only[hc,if_true,T.bal,T.height]
        exact⟨⟨⟨hl,ha,by omega,by omega⟩,⟨hd,hrr,by omega,by omega⟩,by omega,by omega⟩,λ_ _=>by omega,by omega,by omega⟩
      . simp only[hc,if_false,T.bal,T.height]
        exact⟨⟨⟨hl,⟨ha,hd,h3,h4⟩,by omega,by omega⟩,hrr,by omega,by omega⟩,λ_ _=>by omega,by omega,by omega⟩
   . rename_i h'
     exact⟨⟨hl,hr,by omega,by omega⟩,λ_ _=>rfl,by show _<=1+max l.height r.height;omega,nlr _⟩
section
attribute [local go_sem] Jaj JaD
theorem Jcl{pl pr:Option Addr}{l r:T}{c:List Nat}{w:World}(h:big (.node l c r))(hl:Jau w pl l)(hr:Jau w pr r) :
    Cg 262 #[.pointer pl,JaF c,.pointer pr] w λe w'=>∃p,e=.returned (.pointer p)/\Jau w' p (.node l c r)/\Bw w w' :=
 JpT pl pr l r c w hl hr (JbW h).2.2.1 (JbW h).2.2.2
theorem turn_E(pl pr:Option Addr)(l r:T)(c:List Nat)(w:World)(hl:Jau w pl l)(hr:Jau w pr r)(hz:big (.node l c r))(h1:¬l.height=r.height+2)(h2:¬r.height=l.height+2) :
    Cg 272 #[.pointer pl,JaF c,.pointer pr] w λe w'=>∃p,e=.returned (.pointer p)/\Jau w' p (.node l c r)/\Bw w w':=by
 have hb0:∀o,Bw w (w.alloc o):=λo=>(brf _ w).alloc (nlr _) o;have cl:=λo=>Ja6 pl l (w.alloc o) (Jab (hb0 o) hl);have cr:=λo=>Ja6 pr r (w.alloc o) (Jab (hb0 o) hr);have ck:=λo=>Jcl hz (Jab (hb0 o) hl) (Jab (hb0 o) hr);obtain⟨_,_,_,_,_,s3,s4⟩:=JbW hz;have k1:(((l.height:Int) - r.height)==2)=false:=by rw[beq_eq_false_iff_ne];omega
 have k2:(((l.height:Int) - r.height) == -2)=false:=by rw[beq_eq_false_iff_ne];omega
 have k3:0<=(l.height:Int)/\(l.height:Int)<1000000000:=by omega
 have k4:0<=(r.height:Int)/\(r.height:Int)<1000000000:=by omega
 clear h1 h2 s3 s4 hz;clear hl hr;generalize (l.height:Int)=x1 at *;generalize (r.height:Int)=x2 at *;unfold JaF at *
 go_enter func272,ntmps272
 go_wp2_with (first | (go_at_call_of 271 pl;refine(cl _).mono ?_;rintro e w1 ⟨rfl,rfl⟩) | (go_at_call_of 271 pr;refine(cr _).mono ?_;rintro e w1 ⟨rfl,rfl⟩) | (go_at_call 262;refine(ck _).mono ?_;rintro e w2 ⟨p,rfl,ht,hb⟩;have HT:=hdz ht;clear ht))
 go_ret;exact⟨p,rfl,HT.out,(hb0 _).trans (hb.mono (hb0 _).size)⟩
end
end Go.Proofs.YtbkeomcicobohaaGreatDoor
