/-
  A part of the texts that the proof uses.
-/
import Derived.Test.YtkcpjanmemdjlaaGreatDoorPartB
set_option maxRecDepth 100000
set_option maxHeartbeats 40000000
set_option linter.all false
namespace Go.Proofs
open Go.Shelf
def Tryz.lays196_ren:Go.Shelf.Ren:=⟨λ| 196=>105 | 259=>149 | n=>n,λ| 0=>0 | 3=>3 | 4=>4 | 5=>5 | 9=>9 | 12=>12 | 46=>249 | 53=>279 | 119=>245 | 138=>247 | 139=>248 | n=>n,λ| 3=>1 | 4=>2 | n=>n⟩
theorem Tryz.lays196:Go.Proofs.Lays.n196 Tryz.prog Tryz.lays196_ren:={
 mixed:=by kernel_rfl
 f196:=Tryz.func105.trans (congrArg some (by kernel_rfl))
 f259:=Tryz.func149.trans (congrArg some (by kernel_rfl))
 t0:=Tryz.underlying0
 a0:=Tryz.isAgg0
 z0:=Tryz.sizeOf0
 v0:=Tryz.zeroValue0
 t3:=Tryz.underlying3
 a3:=Tryz.isAgg3
 z3:=Tryz.sizeOf3
 v3:=Tryz.zeroValue3
 t4:=Tryz.underlying4
 a4:=Tryz.isAgg4
 z4:=Tryz.sizeOf4
 v4:=Tryz.zeroValue4
 t5:=Tryz.underlying5
 a5:=Tryz.isAgg5
 z5:=Tryz.sizeOf5
 v5:=Tryz.zeroValue5
 t9:=Tryz.underlying9
 a9:=Tryz.isAgg9
 z9:=Tryz.sizeOf9
 v9:=Tryz.zeroValue9
 t12:=Tryz.underlying12
 a12:=Tryz.isAgg12
 z12:=Tryz.sizeOf12
 v12:=Tryz.zeroValue12
 t46:=Tryz.underlying249
 a46:=Tryz.isAgg249
 z46:=Tryz.sizeOf249
 v46:=Tryz.zeroValue249
 t53:=Tryz.underlying279
 a53:=Tryz.isAgg279
 z53:=Tryz.sizeOf279
 v53:=Tryz.zeroValue279
 t119:=Tryz.underlying245
 a119:=Tryz.isAgg245
 z119:=Tryz.sizeOf245
 t138:=Tryz.underlying247
 a138:=Tryz.isAgg247
 z138:=Tryz.sizeOf247
 v138:=Tryz.zeroValue247
 t139:=Tryz.underlying248
 a139:=Tryz.isAgg248
 z139:=Tryz.sizeOf248
 v139:=Tryz.zeroValue248
 g3:=by kernel_rfl
 g4:=by kernel_rfl }
end Go.Proofs
namespace Go.Proofs.YtkcpjanmemdjlaaGreatDoor
open Go.Proofs.Tryz Go.RowKit Go.Maps
theorem iM(n:Nat):∀(l:List UInt8),l.length<=n->Lib.validGoD n l=(scan l).2:=by
 induction n with
 | zero =>
  intro l d;have:l=[]:=BC (by omega);subst this;rfl
 | succ n ih =>
  intro l d;unfold Lib.validGoD
  by_cases a:l=[]
  . subst a;rfl
  . rw [if_neg a]
    have e:Lib.decodeL l=Cb l:=by
     have:=Uz ⟨l.toArray⟩ 0;rw[DE]at this;rw[←this];unfold Lib.decodeL
     congr 1
     apply EZ;simp
    rw[e]
    by_cases b:Dc (Cb l)=true
    . rw[Qo a b,if_pos (Ul b)]
    . have c:Dc (Cb l)=false:=Bool.eq_false_iff.2 b
      rw[Op a c,if_neg (by intro h;exact b (by unfold Dc;simp[h])),ih];have f:=MA l;rw[AM];omega
theorem lv(s:ByteArray)(w:World)(a:s.size<=9223372036854775807)(b:Lib.Utf8Tabs 1 2 w) :
    Calls prog 105 #[.string s] w λe w'=>e=.returned (.bool (scan s.data.toList).2)/\Below w.heap.size w w':=by
 have:=Any.utf8_ValidString lays196 s w a b;rwa[show Lib.validD s.data.toList=(scan s.data.toList).2 from iM _ _ (Ai _)]at this
end Go.Proofs.YtkcpjanmemdjlaaGreatDoor
namespace Go.Proofs.YtkcpjanmemdjlaaGreatDoor
open Go.Proofs.Tryz Go.RowKit Go.Maps
section
open Go.Extern.Stop Go.Stop Go.Extern
theorem Yw(t:Addr)(w:World):(ReflectliteValue.unpack (.iface 188 (.pointer (some t)))).run prog w
    = .ok (.agg #[Pd 4 188,Pd w.heap.size 0,.int .u64 150]) (w.alloc (Oc #[.pointer (some t)] 188)):=by kernel_rfl
theorem VX(a:Addr)(w:World):(ReflectliteValue.methodAny (ReflectliteValue.valueError "reflectlite.Value.Type" 0) (λt _ _ _=>ReflectliteType.toType t) #[.agg #[Pd 4 188,.pointer (some a),.int .u64 150]]).run Tryz.prog w
    = .ok (.iface 268 (.agg #[Pd 4 188])) w:=by kernel_rfl
theorem aI(h:Value)(w:World):(Go.method 409 268 (.agg #[h]) "Kind").run Tryz.prog w=.ok (204,h) w:=by kernel_rfl
theorem Wn(w:World):((ReflectliteType.abiMethod λt=>(λa:Nat=>Value.int IntKind.u8 (a:Int)) <$> Rtype.kind t) #[Pd 4 188]).run prog w=.ok (.int .u8 22) w:=by kernel_rfl
theorem Wm(w:World):((ReflectliteType.abiMethod λt=>(λa:Nat=>Value.int IntKind.u8 (a:Int)) <$> Rtype.kind t) #[Pd 4 30]).run prog w=.ok (.int .u8 2) w:=by kernel_rfl
theorem Vt(z:Sem Value)(f:TypeId->Addr->Nat->Nat->Sem Value)(v:Value) :
    ReflectliteValue.method z f #[v]=(do match ← ReflectliteValue.parts v with | none=>z | some (t,a,fl)=>f t a fl (fl % 32)):=rfl
theorem Xf(a:Addr)(w:World):(ReflectliteValue.parts (.agg #[Pd 4 188,.pointer (some a),.int .u64 150])).run prog w=.ok (some (188,a,150)) w:=by kernel_rfl
theorem Wl(a p:Addr)(W:World)(ha:W.cell? a=some (.pointer (some p))) :
    (ReflectliteValue.method (ReflectliteValue.valueError "reflectlite.Value.IsNil" 0) ReflectliteValue.isNil #[.agg #[Pd 4 188,.pointer (some a),.int .u64 150]]).run Tryz.prog W=.ok (.bool false) W:=by
 rw[Vt];simp only[FU,Xf,Result.andThen];simp[ReflectliteValue.isNil,loadVar,isAgg,underlying,underlying188,ha,Result.andThen]
theorem aH(h:Value)(w:World):(Go.method 409 268 (.agg #[h]) "Elem").run Tryz.prog w=.ok (217,.agg #[h]) w:=by kernel_rfl
theorem aS(h:Value)(w:World):(Go.method 409 268 (.agg #[h]) "Implements").run Tryz.prog w=.ok (218,.agg #[h]) w:=by kernel_rfl
theorem aT(h:Value)(w:World):(Go.method 409 268 (.agg #[h]) "AssignableTo").run Tryz.prog w=.ok (215,.agg #[h]) w:=by kernel_rfl
theorem VV(w:World):(ReflectliteType.method ReflectliteType.elem #[.agg #[Pd 4 188]]).run prog w=.ok (.iface 268 (.agg #[Pd 4 30])) w:=by kernel_rfl
theorem aG(w:World):(ReflectliteType.relation "Implements" ReflectliteType.implements_ #[.agg #[Pd 4 30],.iface 268 (.agg #[Pd 4 26])]).run Tryz.prog w=.ok (.bool true) w:=by kernel_rfl
theorem Yv(v:Value)(w:World):(ReflectliteType.typeOf #[.iface 30 v]).run prog w=.ok (.iface 268 (.agg #[Pd 4 30])) w:=by kernel_rfl
theorem Yu(v:Value)(w:World):(ReflectliteType.typeOf #[.iface 132 v]).run prog w=.ok (.iface 268 (.agg #[Pd 4 132])) w:=by kernel_rfl
theorem Yt(w:World):(ReflectliteType.relation "AssignableTo" ReflectliteType.assignableTo #[.agg #[Pd 4 30],.iface 268 (.agg #[Pd 4 30])]).run Tryz.prog w=.ok (.bool true) w:=by kernel_rfl
theorem Ys(w:World):(ReflectliteType.relation "AssignableTo" ReflectliteType.assignableTo #[.agg #[Pd 4 132],.iface 268 (.agg #[Pd 4 30])]).run Tryz.prog w=.ok (.bool false) w:=by kernel_rfl
theorem ZM(n:Int)(w:World):(ReflectliteValue.unpack (.iface 30 (I6 n))).run prog w
    = .ok (.agg #[Pd 4 30,Pd w.heap.size 0,.int .u64 130]) (w.alloc (Oc #[I6 n] 30)):=by kernel_rfl
theorem ee(w:World):(Rtype.elem? 188).run prog w=.ok (some 30) w:=by kernel_rfl
theorem PQ(p:Addr)(w:World):(ReflectliteValue.mk 30 p ReflectliteValue.flagAddr).run prog w=.ok (.agg #[Pd 4 30,.pointer (some p),.int .u64 386]) w:=by kernel_rfl
theorem Wk(a p:Addr)(W:World)(ha:W.cell? a=some (.pointer (some p))) :
    (ReflectliteValue.method (ReflectliteValue.valueError "reflectlite.Value.Elem" 0) ReflectliteValue.elem #[.agg #[Pd 4 188,.pointer (some a),.int .u64 150]]).run Tryz.prog W
      = .ok (.agg #[Pd 4 30,.pointer (some p),.int .u64 386]) W:=by
 rw[Vt];simp only[FU,Xf,Result.andThen];simp[ReflectliteValue.elem,loadVar,isAgg,underlying,underlying188,ha,Result.andThen,ee,PQ]
theorem Ng(v x:Value):ReflectliteValue.set #[v,x]=(do
    let (some (dst,a,fl),some (src,b,_)):=(← ReflectliteValue.parts v,←ReflectliteValue.parts x)
     | unsupported (.noEntry "extern/(internal/reflectlite.Value).Set.zeroValue")
    if fl / ReflectliteValue.flagAddr % 2==0 then unsupported (.noEntry "extern/(internal/reflectlite.Value).Set.unaddressable")
    let val ← loadVar src b
    if ← Rtype.directlyAssignable dst src then storeVar dst a val
    else if ← Rtype.implements dst src then
     if (← Rtype.kind src)==20 then
      match val with
      | .nilIface=>unsupported (.noEntry "extern/reflectlite: a nil value of one interface type handed on as a value of another")
      | _=>storeVar dst a val
     else storeVar dst a (.iface src val)
    else panicString ("reflectlite.Set: value of type " ++ (← Rtype.spelt src) ++ " is not assignable to type " ++ (← Rtype.spelt dst))
    pure (.tuple #[])):=rfl
theorem eh(a:Addr)(w:World):(ReflectliteValue.parts (.agg #[Pd 4 30,.pointer (some a),.int .u64 386])).run prog w=.ok (some (30,a,386)) w:=by kernel_rfl
theorem ei(a:Addr)(w:World):(ReflectliteValue.parts (.agg #[Pd 4 30,.pointer (some a),.int .u64 130])).run prog w=.ok (some (30,a,130)) w:=by kernel_rfl
theorem ed(w:World):(Rtype.directlyAssignable 30 30).run prog w=.ok true w:=by kernel_rfl
theorem Vu(a b:Addr)(n:Int)(c:Value)(W:World)(d:W.cell? b=some (I6 n))(e:W.cell? a=some c)(f:W.frozen? a=false) :
    (ReflectliteValue.set #[.agg #[Pd 4 30,.pointer (some a),.int .u64 386],.agg #[Pd 4 30,.pointer (some b),.int .u64 130]]).run prog W
      = .ok (.tuple #[]) (W.setCell a (I6 n)):=by
 rw[Ng];simp only[FU,eh,ei,Result.andThen];simp[ReflectliteValue.flagAddr,loadVar,isAgg,underlying,underlying30,d,Result.andThen,ed,storeVar,Value.cells,storeCells,Addr.add];rw[run_store prog W a _ _ (by rfl)];simp[e,f]
theorem VW(v:Value)(a:TypeId)(w:World):(Instr.typeAssert (.iface 132 v) a 273 true).run prog w=.ok (.tuple #[.nilIface,.bool false]) w:=run_typeAssert_lacksB underlying273 (by kernel_rfl) (by kernel_rfl) v a w
theorem ZW(v:Value)(a:TypeId)(w:World):(Instr.typeAssert (.iface 132 v) a 135 true).run prog w=.ok (.tuple #[.iface 132 v,.bool true]) w:=run_typeAssert_hasB underlying135 (by kernel_rfl) v a w
theorem aP(a:Addr)(w:World):(nilAhead 409 132 (.pointer (some a)) "Unwrap").run Tryz.prog w=.ok (some false) w:=by kernel_rfl
theorem aL(a:Addr)(w:World):(Go.method 409 132 (.pointer (some a)) "Unwrap").run Tryz.prog w=.ok (209,.pointer (some a)) w:=by kernel_rfl
theorem iL(a:Nat)(n:Int)(w:World)(h:w.cell? (Ad a 0)=some (I6 n)) :
    Cg 209 #[Pd a 0] w λe w'=>e=.returned (.iface 30 (I6 n))/\w'=w:=by
 go_enter func209,ntmps209
 go_wp2;go_ret;exact⟨rfl,rfl⟩
def F6 (w:World):Prop:=w.cell? (Ad 0 0)=some (.iface 268 (.agg #[Pd 4 26]))
def target (q:Nat):Value:=.agg #[Pd 4 188,Pd q 0,.int .u64 150]
theorem X9{w:World}{t:Nat}{n:Int}{c:Value}(d:w.cell? (Ad t 0)=some c)(f e:Obj) :
    (((w.setCell (Ad t 0) (I6 n)).alloc f).alloc e).cell? (Ad t 0)=some (I6 n)/\Below t w (((w.setCell (Ad t 0) (I6 n)).alloc f).alloc e):=by
 have b:=Ca w _ d;have g:(w.setCell (Ad t 0) (I6 n)).heap.size=w.heap.size:=by simp
 have a:t<(w.setCell (Ad t 0) (I6 n)).heap.size:=by rw[g];exact b
 refine⟨?_,?_⟩
 . rw[BN _ _ (Ad t 0) (by rw[Bb];exact EP a),BN _ _ (Ad t 0) a]
   exact AU _ _ _ d
 . exact((((A9 t w).setCell (p:=(Ad t 0)) (Ai _) _)).alloc (CW a) _).alloc (by rw[Bb];exact Nat.le_succ_of_le (CW a)) _
theorem ef(n:Int)(t q:Nat)(b:Value)(w:World)(h:w.cell? (Ad q 0)=some (Pd t 0))(f:w.cell? (Ad t 0)=some b)(i:w.frozen? (Ad t 0)=false) :
    Cg 148 #[.iface 30 (I6 n),.iface 188 (Pd t 0),target q,.iface 268 (.agg #[Pd 4 30])] w
     λe w'=>e=.returned (.bool true)/\w'.cell? (Ad t 0)=some (I6 n)/\Below t w w':=by
 have l:=@run_callFunc_extern Tryz.prog 176 _ ReflectliteType.typeOf Tryz.func176 (by kernel_rfl) (by kernel_rfl) (by kernel_rfl) (by kernel_rfl);have r:=@run_callFunc_extern Tryz.prog 215 _ (ReflectliteType.relation "AssignableTo" ReflectliteType.assignableTo) Tryz.func215 (by kernel_rfl) (by kernel_rfl) (by kernel_rfl) (by kernel_rfl);have j:=@run_callFunc_extern Tryz.prog 177 _ (ReflectliteValue.method (ReflectliteValue.valueError "reflectlite.Value.Elem" 0) ReflectliteValue.elem) Tryz.func177 (by kernel_rfl) (by kernel_rfl) (by kernel_rfl) (by kernel_rfl);have p:=@run_callFunc_extern Tryz.prog 178 _ ReflectliteValue.set Tryz.func178 (by kernel_rfl) (by kernel_rfl) (by kernel_rfl) (by kernel_rfl);have m:=@run_callFunc_extern Tryz.prog 145 _ (λargs=>ReflectliteValue.unpack (args.getD 0 (.tuple #[]))) Tryz.func145 (by kernel_rfl) (by kernel_rfl) (by kernel_rfl) (by kernel_rfl);have x:=Yv;have u:=Yu;have y:=aT;have G:=Yt;have z:=Ys;have F:=ZM;have D:=VW;have B:=ZW;have v:=aP;have C:=aL;have a:=Ca w _ f;have g:=Ca w _ h;have d:(w.alloc (Oc #[Pd 4 188,Pd q 0,.int .u64 150] 235)).cell? (Ad q 0)=some (Pd t 0):=by
  rw[BN _ _ (Ad q 0) g];exact h
 have E:=Wk (Ad q 0) (Ad t 0) (w.alloc (Oc #[Pd 4 188,Pd q 0,.int .u64 150] 235)) d
 have A:=Vu (Ad t 0) (Ad (w.heap.size+1) 0) n b ((w.alloc (Oc #[Pd 4 188,Pd q 0,.int .u64 150] 235)).alloc (Oc #[I6 n] 30))
  (by rw[World.cell?_alloc_at _ _ _ _ (by simp)];rfl)
  (by rw[BN _ _ (Ad t 0) (by rw[Bb];exact EP a),BN _ _ (Ad t 0) a];exact f)
  (by rw[FH _ _ (Ad t 0) (by rw[Bb];exact GO (EP a)),FH _ _ (Ad t 0) (GO a)];exact i)
 have c:=λs o=>@X9 w t n b f s o;have k:=Aa c;clear c;clear h f i d;unfold target
 go_enter func148,ntmps148
 go_wp2;refine wp_loop_rounds 1 ?_;rw[rounds_succ];go_wp2;go_ret;exact⟨rfl,k.out _ _⟩
theorem bi(a:Nat)(n:Int)(t q:Nat)(c:Value)(w:World)(ha:w.cell? (Ad a 0)=some (I6 n))(j:w.cell? (Ad q 0)=some (Pd t 0))(h:w.cell? (Ad t 0)=some c)(k:w.frozen? (Ad t 0)=false) :
    Cg 148 #[.iface 132 (Pd a 0),.iface 188 (Pd t 0),target q,.iface 268 (.agg #[Pd 4 30])] w
     λe w'=>e=.returned (.bool true)/\w'.cell? (Ad t 0)=some (I6 n)/\Below t w w':=by
 have o:=@run_callFunc_extern Tryz.prog 176 _ ReflectliteType.typeOf Tryz.func176 (by kernel_rfl) (by kernel_rfl) (by kernel_rfl) (by kernel_rfl);have u:=@run_callFunc_extern Tryz.prog 215 _ (ReflectliteType.relation "AssignableTo" ReflectliteType.assignableTo) Tryz.func215 (by kernel_rfl) (by kernel_rfl) (by kernel_rfl) (by kernel_rfl);have l:=@run_callFunc_extern Tryz.prog 177 _ (ReflectliteValue.method (ReflectliteValue.valueError "reflectlite.Value.Elem" 0) ReflectliteValue.elem) Tryz.func177 (by kernel_rfl) (by kernel_rfl) (by kernel_rfl) (by kernel_rfl);have s:=@run_callFunc_extern Tryz.prog 178 _ ReflectliteValue.set Tryz.func178 (by kernel_rfl) (by kernel_rfl) (by kernel_rfl) (by kernel_rfl);have p:=@run_callFunc_extern Tryz.prog 145 _ (λargs=>ReflectliteValue.unpack (args.getD 0 (.tuple #[]))) Tryz.func145 (by kernel_rfl) (by kernel_rfl) (by kernel_rfl) (by kernel_rfl);have A:=Yv;have y:=Yu;have B:=aT;have K:=Yt;have D:=Ys;have J:=ZM;have H:=VW;have F:=ZW;have z:=aP;have G:=aL;have b:=Ca w _ h;have i:=Ca w _ j;have g:(w.alloc (Oc #[Pd 4 188,Pd q 0,.int .u64 150] 235)).cell? (Ad q 0)=some (Pd t 0):=by
  rw[BN _ _ (Ad q 0) i];exact j
 have I:=Wk (Ad q 0) (Ad t 0) (w.alloc (Oc #[Pd 4 188,Pd q 0,.int .u64 150] 235)) g
 have E:=Vu (Ad t 0) (Ad (w.heap.size+1) 0) n c ((w.alloc (Oc #[Pd 4 188,Pd q 0,.int .u64 150] 235)).alloc (Oc #[I6 n] 30))
  (by rw[World.cell?_alloc_at _ _ _ _ (by simp)];rfl)
  (by rw[BN _ _ (Ad t 0) (by rw[Bb];exact EP b),BN _ _ (Ad t 0) b];exact h)
  (by rw[FH _ _ (Ad t 0) (by rw[Bb];exact GO (EP b)),FH _ _ (Ad t 0) (GO b)];exact k)
 have f:=λv r=>@X9 w t n c h v r;have m:=Aa f;clear f;have hal:=Ca w _ ha;have d:(w.alloc (Oc #[Pd 4 188,Pd q 0,.int .u64 150] 235)).cell? (Ad a 0)=some (I6 n):=by
  rw[BN _ _ (Ad a 0) hal];exact ha
 have x:=iL a n _ d;clear j h k g ha d;unfold target
 go_enter func148,ntmps148
 go_wp2;refine wp_loop_rounds 2 ?_;rw[rounds_succ]
 go_wp2_with (go_at_call 209;refine x.mono ?_;rintro e C ⟨rfl,rfl⟩)
 rw[rounds_succ];go_wp2;go_ret;exact⟨rfl,m.out _ _⟩
variable {w : World}
theorem aV(a:Nat)(n:Int)(t:Nat)(f:Value)(w:World)(j:F6 w)(ha:w.cell? (Ad a 0)=some (I6 n))(k:w.cell? (Ad t 0)=some f)(q:w.frozen? (Ad t 0)=false) :
    Cg 103 #[.iface 132 (Pd a 0),.iface 188 (Pd t 0)] w
     λe w'=>e=.returned (.bool true)/\w'.cell? (Ad t 0)=some (I6 n)/\Below t w w':=by
 have A:=@run_callFunc_extern Tryz.prog 145 _ (λargs=>ReflectliteValue.unpack (args.getD 0 (.tuple #[]))) Tryz.func145 (by kernel_rfl) (by kernel_rfl) (by kernel_rfl) (by kernel_rfl);have z:=@run_callFunc_extern Tryz.prog 146 _ (ReflectliteValue.methodAny (ReflectliteValue.valueError "reflectlite.Value.Type" 0) (λt _ _ _=>ReflectliteType.toType t)) Tryz.func146 (by kernel_rfl) (by kernel_rfl) (by kernel_rfl) (by kernel_rfl);have C:=@run_callFunc_extern Tryz.prog 147 _ (ReflectliteValue.method (ReflectliteValue.valueError "reflectlite.Value.IsNil" 0) ReflectliteValue.isNil) Tryz.func147 (by kernel_rfl) (by kernel_rfl) (by kernel_rfl) (by kernel_rfl);have v:=@run_callFunc_extern Tryz.prog 204 _ (ReflectliteType.abiMethod λt=>do pure (.int .u8 (← Rtype.kind t))) Tryz.func204 (by kernel_rfl) (by kernel_rfl) (by kernel_rfl) (by kernel_rfl);have y:=@run_callFunc_extern Tryz.prog 217 _ (ReflectliteType.method ReflectliteType.elem) Tryz.func217 (by kernel_rfl) (by kernel_rfl) (by kernel_rfl) (by kernel_rfl);have u:=@run_callFunc_extern Tryz.prog 218 _ (ReflectliteType.relation "Implements" ReflectliteType.implements_) Tryz.func218 (by kernel_rfl) (by kernel_rfl) (by kernel_rfl) (by kernel_rfl);have O:=Yw;have N:=VX;have K:=aI;have I:=aH;have L:=aS;have x:=Wn;have H:=Wm;have G:=VV;have D:=aG;have c:=Ca w _ k;have hal:=Ca w _ ha;have g:=Ca w _ j;obtain⟨i,d⟩:∃o,o=Oc #[Pd t 0] 188:=⟨_,rfl⟩;obtain⟨h,l⟩:∃o,o=Oc #[Pd 4 188,Pd w.heap.size 0,.int .u64 150] 235:=⟨_,rfl⟩;have s:=Wl (Ad w.heap.size 0) (Ad t 0) ((w.alloc i).alloc h) (by rw[BN _ _ (Ad w.heap.size 0) (by rw[Bb];exact DF _),d];simp[go_sem]);have E:((w.alloc i).alloc h).cell? (Ad 0 0)=some (.iface 268 (.agg #[Pd 4 26])):=by
  rw[BN _ _ (Ad 0 0) (by rw[Bb];exact EP g),BN _ _ (Ad 0 0) g];exact j
 have b:Bw w ((w.alloc i).alloc h):=(zA _ _).alloc (by rw[Bb];exact BX _) _
 have r:=bi a n t w.heap.size f ((w.alloc i).alloc h)
  (by rw[zC b a 0 hal];exact ha)
  (by rw[BN _ _ (Ad w.heap.size 0) (by rw[Bb];exact DF _),d];simp[go_sem])
  (by rw[zC b t 0 c];exact k)
  (by rw[b.frozen (p:=(Ad t 0)) c];exact q)
 unfold target at r;subst d l;have F:Hid (Below t w _):=b.mono (CW c);clear ha k q j b
 go_enter func103,ntmps103
 go_wp2_with (go_at_call 148;refine r.mono ?_;rintro e J ⟨rfl,B,m⟩)
 go_ret;exact⟨rfl,B,F.out.trans m⟩
theorem Wi(w:World):Cg 66 #[.nilIface] w λe w'=>e=.returned (I6 0)/\w'=w:=by
 go_enter func66,ntmps66
 go_wp2;go_ret;exact⟨rfl,rfl⟩
theorem gy(a:Nat)(n:Int)(w:World)(c:F6 w)(ha:w.cell? (Ad a 0)=some (I6 n)) :
    Cg 66 #[.iface 132 (Pd a 0)] w (Rt w (I6 n)):=by
 have hal:=Ca w _ ha;have d:=Ca w _ c;have b:Bw w (w.alloc (Oc #[I6 0] 30)):=zA _ _
 have g:=aV a n w.heap.size (I6 0) (w.alloc (Oc #[I6 0] 30)) (by unfold F6;rw[zC b 0 0 d];exact c)
  (by rw[zC b a 0 hal];exact ha) (by simp[go_sem]) (by simp[go_sem])
 clear c ha
 go_enter func66,ntmps66
 go_wp2_with (go_at_call 103;refine g.mono ?_;rintro e h ⟨rfl,i,f⟩)
 go_ret;exact⟨rfl,b.trans f⟩
theorem d7(w:World):Cg 37 #[.nilIface] w λe w'=>e=.returned (.tuple #[I6 0,I6 (-1)])/\w'=w:=by
 go_enter func37,ntmps37
 go_wp2_with (go_at_call 66;refine(Wi _).mono ?_;rintro e a ⟨rfl,rfl⟩)
 refine wp_loop_rounds 1 ?_;rw[rounds_succ];go_wp2
 go_ret2
 exact⟨rfl,rfl⟩
theorem gH(a:Addr)(w:World):(Instr.typeAssert (.iface 132 (.pointer (some a))) 26 132 true).run prog w=.ok (.tuple #[.pointer (some a),.bool true]) w:=by kernel_rfl
theorem jh(a:Nat)(n p:Int)(w:World)(c:F6 w)(ha:w.cell? (Ad a 0)=some (I6 n))(g:w.cell? (Ad a 1)=some (I6 p)) :
    Cg 37 #[.iface 132 (Pd a 0)] w (Rt w (.tuple #[I6 n,I6 p])):=by
 have hal:=Ca w _ ha;have f:=gy a n w c ha;have i:=gH;clear c
 go_enter func37,ntmps37
 go_wp2_with (go_at_call 66;refine f.mono ?_;rintro e h ⟨rfl,b⟩;have d:=(zC b a 1 hal).trans g)
 refine wp_loop_rounds 1 ?_;rw[rounds_succ];go_wp2
 go_quiet (fail)
 go_wp2
 go_ret2
 exact⟨rfl,below_drewN b nq⟩
theorem gb(w:World):Cg 6 #[.nilIface,.agg #[I6 0,I6 (-1)]] w (Rt w (.bool true)):=by
 go_enter func6,ntmps6
 go_wp2_with (go_at_call 37;refine(d7 _).mono ?_;rintro e a ⟨rfl,rfl⟩)
 go_ret;exact⟨rfl,zA _ _⟩
theorem ks(a:Nat)(n p:Int)(w:World)(d:F6 w)(ha:w.cell? (Ad a 0)=some (I6 n))(h:w.cell? (Ad a 1)=some (I6 p)) :
    Cg 6 #[.iface 132 (Pd a 0),.agg #[I6 n,I6 p]] w (Rt w (.bool true)):=by
 have hal:=Ca w _ ha;have f:=Ca w _ d;have b:Bw w (w.alloc (Oc #[I6 n,I6 p] 32)):=zA _ _
 have i:=jh a n p (w.alloc (Oc #[I6 n,I6 p] 32)) (by unfold F6;rw[zC b 0 0 f];exact d)
  (by rw[zC b a 0 hal];exact ha) (by rw[zC b a 1 hal];exact h)
 clear d ha h
 go_enter func6,ntmps6
 go_wp2_with (go_at_call 37;refine i.mono ?_;rintro e g ⟨rfl,c⟩;have j:g.cell? (Ad w.heap.size 0)=some (I6 n):=(zC c w.heap.size 0 (by simp)).trans (by simp[go_sem]);have k:g.cell? (Ad w.heap.size 1)=some (I6 p):=(zC c w.heap.size 1 (by simp)).trans (by simp[go_sem]))
 go_ret;exact⟨rfl,b.trans (c.mono (by simp))⟩
theorem Ps{w0 a:World}{v:Value}{p:Int}(f:F6 w)(h:Fi w0 a v p)(d:Bw a w) :
    Cg 6 #[v,.agg #[I6 3,I6 p]] w (Rt w (.bool true)):=by
 obtain⟨b,rfl,_,g,c,e⟩:=fS h d;exact ks b 3 p w f c e
theorem OS{w':World}(h:F6 w)(a:Bw w w'):F6 w':=by
 unfold F6;rw[zC a 0 0 (Ca w _ h)];exact h
end
section
open Go.Extern.Stop Go.Stop Go.Extern
theorem dY(n:Int)(t:Nat)(d:Value)(w:World)(i:F6 w)(j:w.cell? (Ad t 0)=some d)(m:w.frozen? (Ad t 0)=false) :
    Cg 103 #[.iface 30 (I6 n),.iface 188 (Pd t 0)] w
     λe w'=>e=.returned (.bool true)/\w'.cell? (Ad t 0)=some (I6 n)/\Below t w w':=by
 have z:=@run_callFunc_extern Tryz.prog 145 _ (λargs=>ReflectliteValue.unpack (args.getD 0 (.tuple #[]))) Tryz.func145 (by kernel_rfl) (by kernel_rfl) (by kernel_rfl) (by kernel_rfl);have y:=@run_callFunc_extern Tryz.prog 146 _ (ReflectliteValue.methodAny (ReflectliteValue.valueError "reflectlite.Value.Type" 0) (λt _ _ _=>ReflectliteType.toType t)) Tryz.func146 (by kernel_rfl) (by kernel_rfl) (by kernel_rfl) (by kernel_rfl);have B:=@run_callFunc_extern Tryz.prog 147 _ (ReflectliteValue.method (ReflectliteValue.valueError "reflectlite.Value.IsNil" 0) ReflectliteValue.isNil) Tryz.func147 (by kernel_rfl) (by kernel_rfl) (by kernel_rfl) (by kernel_rfl);have u:=@run_callFunc_extern Tryz.prog 204 _ (ReflectliteType.abiMethod λt=>do pure (.int .u8 (← Rtype.kind t))) Tryz.func204 (by kernel_rfl) (by kernel_rfl) (by kernel_rfl) (by kernel_rfl);have x:=@run_callFunc_extern Tryz.prog 217 _ (ReflectliteType.method ReflectliteType.elem) Tryz.func217 (by kernel_rfl) (by kernel_rfl) (by kernel_rfl) (by kernel_rfl);have s:=@run_callFunc_extern Tryz.prog 218 _ (ReflectliteType.relation "Implements" ReflectliteType.implements_) Tryz.func218 (by kernel_rfl) (by kernel_rfl) (by kernel_rfl) (by kernel_rfl);have N:=Yw;have L:=VX;have J:=aI;have H:=aH;have K:=aS;have v:=Wn;have G:=Wm;have F:=VV;have D:=aG;have b:=Ca w _ j;have f:=Ca w _ i;obtain⟨h,c⟩:∃o,o=Oc #[Pd t 0] 188:=⟨_,rfl⟩;obtain⟨g,k⟩:∃o,o=Oc #[Pd 4 188,Pd w.heap.size 0,.int .u64 150] 235:=⟨_,rfl⟩;have r:=Wl (Ad w.heap.size 0) (Ad t 0) ((w.alloc h).alloc g) (by rw[BN _ _ (Ad w.heap.size 0) (by rw[Bb];exact DF _),c];simp[go_sem]);have C:((w.alloc h).alloc g).cell? (Ad 0 0)=some (.iface 268 (.agg #[Pd 4 26])):=by
  rw[BN _ _ (Ad 0 0) (by rw[Bb];exact EP f),BN _ _ (Ad 0 0) f];exact i
 have a:Bw w ((w.alloc h).alloc g):=(zA _ _).alloc (by rw[Bb];exact BX _) _
 have q:=ef n t w.heap.size d ((w.alloc h).alloc g)
  (by rw[BN _ _ (Ad w.heap.size 0) (by rw[Bb];exact DF _),c];simp[go_sem])
  (by rw[zC a t 0 b];exact j)
  (by rw[a.frozen (p:=(Ad t 0)) b];exact m)
 unfold target at q;subst c k;have E:Hid (Below t w _):=a.mono (CW b);clear j m i a
 go_enter func103,ntmps103
 go_wp2_with (go_at_call 148;refine q.mono ?_;rintro e I ⟨rfl,A,l⟩)
 go_ret;exact⟨rfl,A,E.out.trans l⟩
theorem ZG(n:Int)(w:World)(b:F6 w) :
    Cg 66 #[.iface 30 (I6 n)] w (Rt w (I6 n)):=by
 have c:=Ca w _ b;have a:Bw w (w.alloc (Oc #[I6 0] 30)):=zA _ _
 have f:=dY n w.heap.size (I6 0) (w.alloc (Oc #[I6 0] 30)) (by unfold F6;rw[zC a 0 0 c];exact b)
  (by simp[go_sem]) (by simp[go_sem])
 clear b
 go_enter func66,ntmps66
 go_wp2_with (go_at_call 103;refine f.mono ?_;rintro e g ⟨rfl,h,d⟩)
 go_ret;exact⟨rfl,a.trans d⟩
theorem jE(n:Int)(w:World):(Instr.typeAssert (.iface 30 (I6 n)) 26 132 true).run prog w=.ok (.tuple #[.pointer none,.bool false]) w:=by kernel_rfl
theorem jY(v:Value)(a:TypeId)(w:World):(Instr.typeAssert (.iface 30 v) a 135 true).run prog w=.ok (.tuple #[.nilIface,.bool false]) w:=run_typeAssert_lacksB underlying135 (by kernel_rfl) (by kernel_rfl) v a w
theorem jv(n:Int)(w:World)(b:F6 w) :
    Cg 37 #[.iface 30 (I6 n)] w (Rt w (.tuple #[I6 n,I6 (-1)])):=by
 have c:=ZG n w b;have f:=jE;have g:=jY;clear b
 go_enter func37,ntmps37
 go_wp2_with (go_at_call 66;refine c.mono ?_;rintro e d ⟨rfl,a⟩)
 refine wp_loop_rounds 1 ?_;rw[rounds_succ];go_wp2
 go_ret2
 exact⟨rfl,a⟩
theorem aD(n:Int)(w:World)(c:F6 w):Cg 6 #[.iface 30 (I6 n),.agg #[I6 n,I6 (-1)]] w (Rt w (.bool true)):=by
 have b:Bw w (w.alloc (Oc #[I6 n,I6 (-1)] 32)):=zA _ _;have f:=jv n (w.alloc (Oc #[I6 n,I6 (-1)] 32)) (OS c b);clear c
 go_enter func6,ntmps6
 go_wp2_with (go_at_call 37;refine f.mono ?_;rintro e d ⟨rfl,a⟩;have g:d.cell? (Ad w.heap.size 0)=some (I6 n):=(zC a w.heap.size 0 (by simp)).trans (by simp[go_sem]);have h:d.cell? (Ad w.heap.size 1)=some (I6 (-1)):=(zC a w.heap.size 1 (by simp)).trans (by simp[go_sem]))
 go_ret;exact⟨rfl,b.trans (a.mono (by simp))⟩
def Ao (n:Int):Value:=if n=0 then .nilIface else .iface 30 (I6 n)
theorem bk(n:Int)(w:World)(c:F6 w):Cg 10 #[Ao n,I6 n] w (Rt w (.bool true)):=by
 have f:=Tv n w;unfold Ao
 by_cases h:n=0
 . subst h
   simp only[if_true];clear c
   go_enter func10,ntmps10
   go_wp2_with (first | (go_at_call 35;refine f.mono ?_;rintro e j ⟨rfl,a⟩) | (go_at_call 6;refine(gb _).mono ?_;rintro e k ⟨rfl,b⟩))
   go_ret;exact⟨rfl,a.trans (b.mono a.size)⟩
 . simp only[h,if_false]
   have i:Hid (∀d,Bw w d->F6 d):=λd g=>OS c g;clear c
   go_enter func10,ntmps10
   go_wp2_with (first | (go_at_call 35;refine f.mono ?_;rintro e j ⟨rfl,a⟩) | (go_at_call 6;refine(aD n _ (i.out _ a)).mono ?_;rintro e k ⟨rfl,b⟩))
   go_ret;exact⟨rfl,a.trans (b.mono a.size)⟩
end
def Db (p:Pt):Bool:=if p.drop=0/\p.put=[] then decide (0<p.keep) else if p.keep=0/\p.put=[] then decide (0<p.drop) else decide (p.keep=0/\p.drop=0)
def Dw:List Pt->Int
 | []=>0
 | p :: ps=>if Db p then (if (scan p.put).2 then Dw ps else 3) else 1
def D9:List Pt->Int->Int
 | [],n=>if n=0 then 0 else 2
 | p :: ps,n=>if n<p.keep+p.drop then 2 else D9 ps (n - (p.keep+p.drop))
def chkE (ps:List Pt) (n:Int):Int:=if Dw ps=0 then D9 ps n else Dw ps
theorem eZ(p:Pt)(w:World):Cg 104 #[Cv p] w (Rt w (.bool (Db p))):=by
 obtain⟨k,d,q⟩:=p;have h:=KD ⟨k,d,q⟩;have l:=OJ ⟨k,d,q⟩;unfold Db;unfold Cv at *;simp only at h l ⊢
 by_cases j:q=[]
 . subst j
   by_cases f:d=0
   . subst f
     go_enter func104,ntmps104
     go_wp2_with (go_at_call 74;refine(h _).mono ?_;rintro e n ⟨rfl,c⟩)
     go_ret;exact⟨by simp,(zA _ _).trans (c.mono (by simp))⟩
   . have g:(d==0)=false:=beq_eq_false_iff_ne.2 f
     by_cases a:k=0
     . subst a
       go_enter func104,ntmps104
       go_wp2_with (go_at_call 114;refine(l _).mono ?_;rintro e n ⟨rfl,c⟩)
       go_ret;exact⟨by simp,(zA _ _).trans (c.mono (by simp))⟩
     . have b:(k==0)=false:=beq_eq_false_iff_ne.2 a
       go_enter func104,ntmps104
       go_wp2;go_ret;exact⟨by simp,zA _ _⟩
 . have i:(if d=0/\q=[] then decide (0<k) else if k=0/\q=[] then decide (0<d) else decide (k=0/\d=0))=decide (k=0/\d=0):=by simp[j]
   rw[i];clear i;have m:Hid (decide (k=0/\d=0)=(k==0 && d==0)):=by show _=_;by_cases o:k=0<;>by_cases r:d=0<;>simp[o,r]
   rw[m.out]
   by_cases f:d=0
   . subst f
     by_cases a:k=0
     . subst a
       go_enter func104,ntmps104
       go_wp2;go_ret;exact⟨rfl,zA _ _⟩
     . have b:(k==0)=false:=beq_eq_false_iff_ne.2 a
       go_enter func104,ntmps104
       go_wp2;go_ret;exact⟨rfl,zA _ _⟩
   . have g:(d==0)=false:=beq_eq_false_iff_ne.2 f
     by_cases a:k=0
     . subst a
       go_enter func104,ntmps104
       go_wp2;go_ret;exact⟨rfl,zA _ _⟩
     . have b:(k==0)=false:=beq_eq_false_iff_ne.2 a
       go_enter func104,ntmps104
       go_wp2;go_ret;exact⟨by rw[b];rfl,zA _ _⟩
def Cp (p:Pt):Prop:=-9223372036854775808<=p.keep/\p.keep<9223372036854775808/\-9223372036854775808<=p.drop/\p.drop<9223372036854775808/\p.put.length<1000000000000
theorem KC{p:Pt}(h:Db p=true):Ek p/\(p.keep=0\/p.drop=0):=by
 unfold Db at h;unfold Ek
 split at h
 . rename_i h1
   have:=of_decide_eq_true h;exact⟨⟨by omega,by omega⟩,.inr h1.1⟩
 . split at h
   . rename_i h1
     have:=of_decide_eq_true h;exact⟨⟨by omega,by omega⟩,.inl h1.1⟩
   . have:=of_decide_eq_true h
     exact⟨⟨by omega,by omega⟩,.inl this.1⟩
theorem Om{ps:List Pt}(h:Dw ps=0):∀p∈ps,Db p=true/\(scan p.put).2=true:=by
 induction ps with
 | nil=>simp
 | cons p ps ih =>
  unfold Dw at h
  split at h
  . rename_i h1
    split at h
    . rename_i h2
      intro q a
      rcases List.mem_cons.1 a with rfl|a
      . exact⟨h1,h2⟩
      . exact ih h q a
    . cases h
  . cases h
theorem L3(v:Value)(ps:List Pt)(N:Int)(w:World)(hT:Lib.Utf8Tabs 1 2 w)(hr:Ae w v ps)(L:∀p∈ps,Cp p)(hN: -9223372036854775808<=N/\N<9223372036854775808)(hl:ps.length<10000000) :
    Cg 68 #[v,I6 N] w (Rt w (Ao (chkE ps N))):=by
 obtain⟨p,c,rfl,r1,r2,r3⟩:=hr;obtain⟨n,hn⟩:∃n,n=ps.length:=⟨_,rfl⟩;rw[←hn]at r1 hl ⊢;have Q:=Aa hn;clear hn
 have R3:Hid (ps≠[]->∃b o,p=some (Ad b o)/\b<w.heap.size/\∀i q,ps[i]?=some q ->
  w.cell? (Ad b (o+i*3))=some (I6 q.keep)/\w.cell? (Ad b (o+i*3+1))=some (I6 q.drop)/\w.cell? (Ad b (o+i*3+2))=some (Sx q.put)):=r3
 have u:=Aa L;have HT:=Aa hT;obtain⟨hN0,X⟩:=hN;clear r3 L hT
 go_enter func68,ntmps68
 go_wp2
 go_loopw [11] (λi wr=>∃(k:Nat),k<=n/\i=.int .i64 k/\Dw ps=Dw (ps.drop k)/\Bw w wr) (λi _=>n - (intOf i).toNat)
 case atStart=>exact⟨0,AV _,rfl,rfl,A9 _ _⟩
 case round =>
  obtain⟨k,hk,rfl,a,d⟩:=hrel
  by_cases E:k<n
  . have j:k<ps.length:=by rw[←Q.out];exact E
    have G:ps≠[]:=by intro e;rw[e]at j;exact absurd j (AP _)
    obtain⟨b,o,rfl,t,f⟩:=R3.out G;obtain⟨B,C,A⟩:=f k ps[k] (B7 j);have g0:=(zC d b (o+k*3) t).trans B;have g1:=(zC d b (o+k*3+1) t).trans C;have g2:=(zC d b (o+k*3+2) t).trans A;rw[BK j,Dw]at a;have s:=u.out ps[k] (BE _);generalize ps[k]=q at *;have D:=d.size;have K:=Aa d;have z:Bw wr (wr.alloc (Oc #[I6 q.keep,I6 q.drop,Sx q.put] 87)):=zA _ _;have r:Hid (Bw w (wr.alloc (Oc #[I6 q.keep,I6 q.drop,Sx q.put] 87))):=d.trans (z.mono D);have O:(wr.alloc (Oc #[I6 q.keep,I6 q.drop,Sx q.put] 87)).cell? (Ad wr.heap.size 2)=some (Sx q.put):=by simp[go_sem]
    have X2:=Aa O;have I:=eZ q;unfold Cv at I;have R:Hid (∀J,Bw w J->Cg 105 #[Sx q.put] J (Rt J (.bool (scan q.put).2))):=λJ hb =>
     lv ⟨q.put.toArray⟩ J (by have:=s.2.2.2.2;simp[ByteArray.size];omega) (Go.Proofs.Utf8Tabs_below HT.out hb)
    by_cases x:Db q=true
    . rw [if_pos x]at a
      rw[x]at I
      by_cases F:(scan q.put).2=true
      . rw[if_pos F]at a
        rw[F]at R;have g:=Aa a;clear f B C A a s d z O u x F
        go_wp2_with (first | (go_at_call 104;refine(I _).mono ?_;rintro e w1 ⟨rfl,h⟩;have l:=Aa (r.out.trans (h.mono r.out.size));have U:=(zC h wr.heap.size 2 (by simp)).trans X2.out;clear h) | (go_at_call 105;refine(R.out _ l.out).mono ?_;rintro e w2 ⟨rfl,y⟩;have H:=Aa (l.out.trans (y.mono l.out.size));clear y))
        go_roundw
        case rel=>exact⟨k+1,by omega,by go_num,g.out,H.out⟩
        case measure=>simp[intOf];omega
      . have F:(scan q.put).2=false:=Bool.eq_false_iff.2 F
        rw[F]at a R;have g:Hid (Dw ps=3):=by show Dw ps=3;simpa using a
        clear f B C A a s d z O u x F
        go_wp2_with (first | (go_at_call 104;refine(I _).mono ?_;rintro e w1 ⟨rfl,h⟩;have l:=Aa (r.out.trans (h.mono r.out.size));have U:=(zC h wr.heap.size 2 (by simp)).trans X2.out;clear h) | (go_at_call 105;refine(R.out _ l.out).mono ?_;rintro e w2 ⟨rfl,y⟩;have H:=Aa (l.out.trans (y.mono l.out.size));clear y))
        go_ret;refine⟨?_,H.out⟩;unfold chkE;rw[g.out];rfl
    . have x:Db q=false:=Bool.eq_false_iff.2 x
      rw[x]at a I;have g:Hid (Dw ps=1):=by show Dw ps=1;simpa using a
      clear f B C A a s d z O u x
      go_wp2_with (go_at_call 104;refine(I _).mono ?_;rintro e w1 ⟨rfl,h⟩;have l:=Aa (r.out.trans (h.mono r.out.size));clear h)
      go_ret;refine⟨?_,l.out⟩;unfold chkE;rw[g.out];rfl
  . have e : ps.drop k=[]:=DH (by rw[←Q.out];omega)
    rw[e]at a;have W:Hid (Dw ps=0):=a;have K:=Aa d;have Z:Hid (∀p∈ps,Ek p/\(p.keep=0\/p.drop=0)):=λp hp=>KC (Om a p hp).1;clear e a d;go_wp2
    go_loopw [1,27] (λm i wr=>∃(k:Nat) (M:Int),k<=n/\i=.int .i64 k/\m=.int .i64 M/\-9223372036854775808<=M/\M<9223372036854775808/\D9 ps N=D9 (ps.drop k) M/\Bw w wr) (λ_ i _=>n - (intOf i).toNat)
    case atStart=>exact⟨0,N,AV _,rfl,rfl,hN0,X,rfl,K.out⟩
    case round =>
     obtain⟨k,M,hk,rfl,rfl,hM0,hM1,a,d⟩:=hrel
     by_cases E:k<n
     . have j:k<ps.length:=by rw[←Q.out];exact E
       have G:ps≠[]:=by intro e;rw[e]at j;exact absurd j (AP _)
       obtain⟨b,o,rfl,t,f⟩:=R3.out G;obtain⟨B,C,A⟩:=f k ps[k] (B7 j);have g0:=(zC d b (o+k*3) t).trans B;have g1:=(zC d b (o+k*3+1) t).trans C;have g2:=(zC d b (o+k*3+2) t).trans A;rw[BK j,D9]at a;have s:=u.out ps[k] (BE _);have hon:=Z.out ps[k] (BE _);generalize ps[k]=q at *;obtain⟨⟨s0,s1⟩,s2⟩:=hon;have S:0<=q.keep+q.drop:=by omega
       have Y:q.keep+q.drop<9223372036854775808:=by have:=s.2.1;have:=s.2.2.2.1;omega
       have hw1:IntKind.i64.wrap (q.keep+q.drop)=q.keep+q.drop:=by rw[BG];omega
       have r:Hid (Bw w (wr.alloc (Oc #[I6 q.keep,I6 q.drop,Sx q.put] 87))):=d.alloc d.size _
       by_cases x:M<q.keep+q.drop
       . rw[if_pos x]at a
         have g:=Aa a;clear f B C A a s d u s2;go_wp2;go_ret;refine⟨?_,r.out⟩;unfold chkE;rw[if_pos W.out,g.out];rfl
       . rw[if_neg x]at a
         have g:=Aa a;have hw2:IntKind.i64.wrap (M - (q.keep+q.drop))=M - (q.keep+q.drop):=by rw[BG];omega
         clear f B C A a s d u s2;go_wp2
         go_roundw
         case rel=>exact⟨k+1,M - (q.keep+q.drop),by omega,by go_num,by first | rfl | go_num,by omega,by omega,g.out,r.out⟩
         case measure=>simp[intOf];omega
     . have e:ps.drop k=[]:=DH (by rw[←Q.out];omega)
       rw[e,D9]at a;have HX:=Aa d
       by_cases P:M=0
       . rw[if_pos P]at a
         subst P;have g:=Aa a;clear e a d;go_wp2;go_ret;refine⟨?_,HX.out⟩;unfold chkE;rw[if_pos W.out,g.out];rfl
       . rw[if_neg P]at a
         have hmb:(M==0)=false:=beq_eq_false_iff_ne.2 P;have g:=Aa a;clear e a d;go_wp2;go_ret;refine⟨?_,HX.out⟩;unfold chkE;rw[if_pos W.out,g.out];rfl
section
variable {p : Pt}
theorem jd(G:Dj):JA G=Aq (Fg G):=by
 unfold JA;obtain⟨e,b⟩:=Yb G.1 Cs Pv;obtain⟨d,f,g,h⟩:=UJ _ b G.2 false;rw[VQ,d,e]
 . rfl
 . intro a
   by_cases c:G.2≠[]\/false=true
   . rw[f c]at a;omega
   . rw[g c]at a ⊢
     exact⟨(b.quiet a).1,(b.quiet a).2.1⟩
def Ba (p:Pt):Int:=p.keep+p.drop+p.put.length
def Dh:Pt:=⟨0,0,[]⟩
def Ah (p:Pt) (n:Int):Pt×List Pt :=
 if Ba p=n then (p,[])
 else if 0<p.keep then (⟨n,0,[]⟩,[⟨p.keep - n,p.drop,p.put⟩])
 else if 0<p.drop then (⟨0,n,[]⟩,[⟨p.keep,p.drop - n,p.put⟩])
 else (⟨0,0,p.put.take n.toNat⟩,[⟨p.keep,p.drop,p.put.drop n.toNat⟩])
def Bi (la lb:Pt->Bool):Nat->List Pt->List Pt->List (Pt×Pt)
 | 0,_,_=>[]
 | f + 1,p :: a,b=>if la p then (p,Dh) :: Bi la lb f a b else match b with
  | q :: b=>if lb q then (Dh,q) :: Bi la lb f (p :: a) b else
   ((Ah p (min (Ba p) (Ba q))).1,(Ah q (min (Ba p) (Ba q))).1) :: Bi la lb f ((Ah p (min (Ba p) (Ba q))).2++a) ((Ah q (min (Ba p) (Ba q))).2++b)
  | []=>[]
 | f+1,[],q :: b=>if lb q then (Dh,q) :: Bi la lb f [] b else []
 | f+1,[],[]=>[]
def Dg (p:Pt):Bool:=decide (0<p.drop)
def Gv (p:Pt):Bool:=decide (0<p.keep)
def Au (p:Pt):Bool:=decide (p.put≠[])
def Do (x:Pt×Pt):List Pt:=if Dg x.1 || Gv x.2 then [x.1] else if Au x.2 || Gv x.1 then [x.2] else []
def Ea (x:Pt×Pt):List Pt:=if Au x.2 then [⟨x.2.put.length,0,[]⟩] else if Au x.1 || Gv x.2 then [x.1] else []
def Am (p:Pt):Prop:=(0<p.keep/\p.drop=0/\p.put=[])\/(p.keep=0/\0<p.drop/\p.put=[])\/(p.keep=0/\p.drop=0/\p.put≠[])
theorem Gm(h:Am p):0<Ba p:=by
 unfold Ba
 rcases h with ⟨b,c,a⟩|⟨b,c,a⟩|⟨b,c,a⟩
 . rw[c,a];simp;omega
 . rw[b,a];simp;omega
 . have:=List.length_pos_iff.2 a;omega
theorem Mz(h:Am p){n:Int}(l:0<n)(k:n<=Ba p):Am (Ah p n).1/\Ba (Ah p n).1=n/\(∀q∈(Ah p n).2,Am q/\Ba q=Ba p - n)/\((Ah p n).2=[]↔Ba p=n):=by
 unfold Ah
 by_cases e:Ba p=n
 . rw[if_pos e];exact⟨h,e,by simp,by simp[e]⟩
 . rw [if_neg e]
   obtain⟨K,D,U⟩:=p;have d:¬K+D+(U.length:Int)=n:=e;have i:n<=K+D+(U.length:Int):=k;clear e k
   rcases h with ⟨b,a,c⟩|⟨b,a,c⟩|⟨b,a,c⟩
   . replace b:0<K:=b
     obtain rfl:D=0:=a;obtain rfl:U=[]:=c;have f:(([]:List UInt8).length:Int)=0:=rfl;rw[f]at d i;rw[if_pos (show 0<(⟨K,0,[]⟩:Pt).keep from b)];refine⟨.inl ⟨l,rfl,rfl⟩,by simp[Ba],?_,⟨λh=>(by cases h),λh=>absurd h (by simp only[Ba,AR];omega)⟩⟩;intro q g;obtain rfl:=List.mem_singleton.1 g;exact⟨.inl ⟨by show 0<K - n;omega,rfl,rfl⟩,by simp only[Ba,AR];omega⟩
   . obtain rfl:K=0:=b
     replace a:0<D:=a
     obtain rfl:U=[]:=c;have f:(([]:List UInt8).length:Int)=0:=rfl;rw[f]at d i;rw[if_neg (show ¬0<(⟨0,D,[]⟩:Pt).keep from FF 0),if_pos (show 0<(⟨0,D,[]⟩:Pt).drop from a)];refine⟨.inr (.inl ⟨rfl,l,rfl⟩),by simp[Ba],?_,⟨λh=>(by cases h),λh=>absurd h (by simp only[Ba,AR];omega)⟩⟩;intro q g;obtain rfl:=List.mem_singleton.1 g;exact⟨.inr (.inl ⟨rfl,by show 0<D - n;omega,rfl⟩),by simp only[Ba,AR];omega⟩
   . obtain rfl:K=0:=b
     obtain rfl:D=0:=a
     replace c:U≠[]:=c
     rw[if_neg (show ¬0<(⟨0,0,U⟩:Pt).keep from FF 0),if_neg (show ¬0<(⟨0,0,U⟩:Pt).drop from FF 0)];have f:(U.take n.toNat).length=n.toNat:=by rw[AO];omega
     have j:(U.drop n.toNat).length=U.length - n.toNat:=AM;refine⟨.inr (.inr ⟨rfl,rfl,?_⟩),by simp only[Ba,f];omega,?_,⟨λh=>(by cases h),λh=>absurd h (by simp only[Ba];omega)⟩⟩
     . intro d
       have:=congrArg List.length d;rw[f,AR]at this;omega
     . intro q g
       obtain rfl:=List.mem_singleton.1 g;refine⟨.inr (.inr ⟨rfl,rfl,?_⟩),by simp only[Ba,j];omega⟩;intro d;have:=congrArg List.length d;rw[j,AR]at this;omega
end
section
theorem U7(d:Bool):∀(n:Nat)(l:List (List UInt8×Bool))(g:Dj),D6 d n (l++g.1,g.2)=(l++(D6 d n g).1,(D6 d n g).2)
 | 0,l,g=>rfl
 | n+1,l,g=>by
  rw[D6,D6];have e:Du d (l++g.1,g.2)=(l++(Du d g).1,(Du d g).2):=by simp[Du]
  rw[e];exact U7 d n l (Du d g)
theorem kM(l:List (List UInt8×Bool))(g:Dj)(p:Pt):F0 (l++g.1,g.2) p=(l++(F0 g p).1,(F0 g p).2):=by
 unfold F0;rw[U7 true p.drop.toNat l (g.1,g.2++p.put),U7]
def C5:List UInt8->List Pt->Dj
 | acc,[]=>([],acc)
 | acc,p :: ps=>((F0 ([],acc) p).1++(C5 (F0 ([],acc) p).2 ps).1,(C5 (F0 ([],acc) p).2 ps).2)
theorem kI(ps:List Pt):∀(l:List (List UInt8×Bool))(a:List UInt8),ps.foldl F0 (l,a)=(l++(C5 a ps).1,(C5 a ps).2):=by
 induction ps with
 | nil=>intro l a;simp[C5]
 | cons p ps ih =>
  intro l a;have e:=kM l ([],a) p;rw[AZ]at e;rw[BT,e,ih];simp[C5]
theorem JE(ps:List Pt):Bk ps=C5 [] ps:=by
 have:=kI ps [] [];simpa[Bk] using this
theorem Nv(a u:List UInt8)(ps:List Pt):C5 a (⟨0,0,u⟩ :: ps)=C5 (a++u) ps:=by
 simp[C5,F0,D6]
theorem Ur(d:Bool):∀(n:Nat)(a:List UInt8),D6 d (n+1) ([],a)=((a,d) :: List.replicate n ([],d),[])
 | 0,a=>by simp[D6,Du]
 | n+1,a=>by
  rw[UK,Ur d n a];simp[Du,List.replicate_succ']
theorem dJ(a:List UInt8)(n:Nat)(ps:List Pt):C5 a (⟨(n:Int)+1,0,[]⟩ :: ps)=((a,false) :: List.replicate n ([],false)++(C5 [] ps).1,(C5 [] ps).2):=by
 have c:((n:Int)+1).toNat=n+1:=by omega
 have b:=Ur false n a;rw[D6]at b;simp only[C5,F0,c,DQ,D6,AZ,b]
theorem dI(a:List UInt8)(n:Nat)(ps:List Pt):C5 a (⟨0,(n:Int)+1,[]⟩ :: ps)=((a,true) :: List.replicate n ([],true)++(C5 [] ps).1,(C5 [] ps).2):=by
 have c:((n:Int)+1).toNat=n+1:=by omega
 have b:=Ur true n a;rw[D6]at b;simp only[C5,F0,c,DQ,D6,AZ,b]
def En (first:Bool):List (List UInt8×Bool)->List UInt8->List (List UInt8×Bool)->List UInt8->List Pt
 | (u,d) :: x,xl,(v,e) :: y,yl=>(if first then [⟨0,0,u⟩,⟨v.length,0,[]⟩] else [⟨v.length,0,[]⟩,⟨0,0,u⟩])++(if e then [] else [II d])++En first x xl y yl
 | _,xl,_,yl=>if first then [⟨0,0,xl⟩,⟨yl.length,0,[]⟩] else [⟨yl.length,0,[]⟩,⟨0,0,xl⟩]
def At (d:Bool) (k:Nat):Pt:=if d then ⟨0,k,[]⟩ else ⟨k,0,[]⟩
theorem Ih{p:Pt}(h:Am p):(∃u,u≠[]/\p=⟨0,0,u⟩)\/∃d n,p=At d (n+1):=by
 obtain⟨K,D,U⟩:=p
 rcases h with ⟨a,b,c⟩|⟨a,b,c⟩|⟨a,b,c⟩
 . obtain rfl:D=0:=b
   obtain rfl:U=[]:=c
   replace a:0<K:=a
   refine .inr ⟨false,K.toNat - 1,?_⟩;have:K=((K.toNat - 1+1:Nat):Int):=by omega
   show(⟨K,0,[]⟩:Pt)=⟨((K.toNat - 1+1:Nat):Int),0,[]⟩;rw[←this]
 . obtain rfl:K=0:=a
   obtain rfl:U=[]:=c
   replace b:0<D:=b
   refine .inr ⟨true,D.toNat - 1,?_⟩;have:D=((D.toNat - 1+1:Nat):Int):=by omega
   show(⟨0,D,[]⟩:Pt)=⟨0,((D.toNat - 1+1:Nat):Int),[]⟩;rw[←this]
 . obtain rfl:K=0:=a
   obtain rfl:D=0:=b;exact .inl ⟨U,c,rfl⟩
theorem Kz(a:List UInt8)(d:Bool)(n:Nat)(ps:List Pt):C5 a (At d (n+1) :: ps)=((a,d) :: List.replicate n ([],d)++(C5 [] ps).1,(C5 [] ps).2):=by
 cases d with
 | true=>exact dI a n ps
 | false=>exact dJ a n ps
def Fl (acc:List UInt8):Dj->Dj
 | ([],l)=>([],acc++l)
 | ((u,d) :: x,l)=>((acc++u,d) :: x,l)
theorem eb(a b:List UInt8)(g:Dj):Fl a (Fl b g)=Fl (a++b) g:=by
 obtain⟨x,l⟩:=g
 cases x<;>simp[Fl]
theorem TM(ps:List Pt)(h:∀p∈ps,Am p):∀a,C5 a ps=Fl a (C5 [] ps):=by
 induction ps with
 | nil=>intro a;simp[C5,Fl]
 | cons p ps ih =>
  intro a;have ih:=ih λq b=>h q (by simp[b])
  rcases Ih (h p (by simp)) with ⟨u,c,rfl⟩|⟨d,n,rfl⟩
  . rw[Nv,Nv,ih,ih ([]++u),eb,BA]
  . rw[Kz,Kz];simp[Fl]
def Gc (eA eB:List UInt8->Av->Av) (eU:Bool->Bool->Av->Av):List (List UInt8×Bool)->List UInt8->List (List UInt8×Bool)->List UInt8->Av->Av
 | (u,d) :: x,xl,(v,e) :: y,yl,s=>Gc eA eB eU x xl y yl (eU d e (eB v (eA u s)))
 | [],xl,_,yl,s=>eB yl (eA xl s)
 | _,xl,[],yl,s=>eB yl (eA xl s)
def Fv (eA eB:List UInt8->Av->Av) (eU:Bool->Bool->Av->Av) (a b:Dj) (s:Av):Av:=Gc eA eB eU a.1 a.2 b.1 b.2 s
def LY (eU:Av->Av):Nat->Av->Av
 | 0,s=>s
 | n+1,s=>LY eU n (eU s)
theorem dz(d h:List UInt8->Av->Av)(i:Bool->Bool->Av->Av)(g:∀u v s,d (u++v) s=d v (d u s))(f:List UInt8)(a b:Dj)(s:Av)(j:a.1.length=b.1.length):Fv d h i (Fl f a) b s=Fv d h i a b (d f s):=by
 obtain⟨x,l⟩:=a;obtain⟨y,k⟩:=b
 cases x with
 | nil=>cases y<;>simp[Fv,Fl,Gc,g]
 | cons c x =>
  cases y with
  | nil=>simp at j
  | cons e y=>simp[Fv,Fl,Gc,g]
def VJ (a:Dj):Prop:=match a with
 | ([],l)=>l=[]
 | ((u,_) :: _,_)=>u=[]
theorem XG(i f:List UInt8->Av->Av)(l:Bool->Bool->Av->Av)(h:∀s,i [] s=s)(m:∀u v s,f (u++v) s=f v (f u s))(g:List UInt8)(a b:Dj)(s:Av)(j:a.1.length=b.1.length)(k:VJ a):Fv i f l a (Fl g b) s=Fv i f l a b (f g s):=by
 obtain⟨x,n⟩:=a;obtain⟨y,o⟩:=b
 cases x with
 | nil =>
  obtain rfl:n=[]:=k
  cases y with
  | nil=>simp[Fv,Fl,Gc,h,m]
  | cons e y=>simp at j
 | cons c x =>
  cases y with
  | nil=>simp at j
  | cons e y =>
   obtain⟨u,d⟩:=c;obtain rfl:u=[]:=k;simp[Fv,Fl,Gc,h,m]
theorem Y0(h i:List UInt8->Av->Av)(f:Bool->Bool->Av->Av)(c:∀s,h [] s=s)(g:∀s,i [] s=s)(d e:Bool):∀(k:Nat)(a b:Dj)(s:Av),Fv h i f (List.replicate k ([],d)++a.1,a.2) (List.replicate k ([],e)++b.1,b.2) s=Fv h i f a b (LY (f d e) k s)
 | 0,a,b,s=>rfl
 | k+1,a,b,s=>by
  have:=Y0 h i f c g d e k a b (f d e s);simpa[Fv,Gc,CH,c,g,LY] using this
theorem L7(d:Bool)(n k:Nat)(h:k<=n):(Ah (At d (n+1)) ((k:Int)+1)).1=At d (k+1)/\∀ps,C5 [] (At d (n+1) :: ps)=(List.replicate (k+1) ([],d)++(C5 [] ((Ah (At d (n+1)) ((k:Int)+1)).2++ps)).1,(C5 [] ((Ah (At d (n+1)) ((k:Int)+1)).2++ps)).2):=by
 have c:Ba (At d (n+1))=(n:Int)+1:=by cases d<;>simp[Ba,At]
 by_cases e:n=k
 . subst e
   have a:Ah (At d (n+1)) ((n:Int)+1)=(At d (n+1),[]):=by unfold Ah;rw[if_pos c]
   rw[a];refine⟨rfl,λps=>?_⟩;rw[Kz];simp[CH]
 . obtain ⟨m,rfl⟩:∃m,n=k+(m+1):=⟨n - k - 1,by omega⟩
   have a:Ah (At d (k+(m+1)+1)) ((k:Int)+1)=(At d (k+1),[At d (m+1)]):=by
    unfold Ah;rw[if_neg (by rw[c];omega)]
    cases d with
    | true =>
     have b:¬0<(At true (k+(m+1)+1)).keep:=by simp[At]
     have g:0<(At true (k+(m+1)+1)).drop:=by simp[At];omega
     rw[if_neg b,if_pos g];simp[At];omega
    | false =>
     have b:0<(At false (k+(m+1)+1)).keep:=by simp[At];omega
     rw[if_pos b];simp[At];omega
   rw[a];refine⟨rfl,λps=>?_⟩;rw[GC,Kz,Kz];have f:List.replicate (k+(m+1)) (([]:List UInt8),d)=List.replicate k ([],d)++([],d) :: List.replicate m ([],d):=by
    rw[←CH,List.replicate_append_replicate]
   rw[f];simp[CH]
def B9 (t:Pt×Pt->List Pt) (l:List (Pt×Pt)) (s:Av):Av:=l.foldl (λs x=>(t x).foldl Af s) s
def Hb (ps:List Pt):Nat:=(C5 [] ps).1.length
theorem g8(d:Bool)(n:Nat)(ps:List Pt):VJ (C5 [] (At d (n+1) :: ps)):=by
 rw[Kz];rfl
theorem JM{u:List UInt8}(h:u≠[]):Au ⟨0,0,u⟩=true:=by simp[Au,h]
theorem IQ(d:Bool)(n:Nat):Au (At d n)=false:=by cases d<;>simp[Au,At]
def Bc (ps:List Pt):Nat:=(ps.map λp=>(Ba p).toNat).sum
theorem Ff(p:Pt)(ps:List Pt):Bc (p :: ps)=(Ba p).toNat+Bc ps:=by simp[Bc]
theorem JO(a b:List Pt):Bc (a++b)=Bc a+Bc b:=by simp[Bc]
theorem Ij(d:Bool)(n:Nat):Ba (At d n)=(n:Int):=by cases d<;>simp[Ba,At]
theorem Mf(d:Bool)(n k:Nat)(f:k<=n):Bc (Ah (At d (n+1)) ((k:Int)+1)).2=n - k:=by
 have b:Ba (At d (n+1))=(n:Int)+1:=by rw[Ij];simp
 unfold Ah
 by_cases e:n=k
 . subst e
   rw[if_pos b];simp[Bc]
 . rw [if_neg (by rw[b];omega)]
   cases d with
   | true =>
    have a:¬0<(At true (n+1)).keep:=by simp[At]
    have c:0<(At true (n+1)).drop:=by simp[At]
    rw[if_neg a,if_pos c];simp[Bc,Ba,At];omega
   | false =>
    have a:0<(At false (n+1)).keep:=by simp[At]
    rw[if_pos a];simp[Bc,Ba,At];omega
theorem Ya(t:Pt×Pt->List Pt)(r j:List UInt8->Av->Av)(D:Bool->Bool->Av->Av)(o:∀s,r [] s=s)(A:∀s,j [] s=s)
    (W:∀u v s,r (u++v) s=r v (r u s)) (N:∀u v s,j (u++v) s=j v (j u s))
    (S:∀u s,u≠[]->(t (⟨0,0,u⟩,Dh)).foldl Af s=r u s) (Q:∀u s,u≠[]->(t (Dh,⟨0,0,u⟩)).foldl Af s=j u s)
    (Y:∀d e k s,(t (At d (k+1),At e (k+1))).foldl Af s=LY (D d e) (k+1) s) :
    ∀ (f:Nat) (a b:List Pt) (s:Av),(∀p∈a,Am p)->(∀p∈b,Am p)->Hb a=Hb b->Bc a+Bc b<=f ->
     B9 t (Bi Au Au f a b) s=Fv r j D (C5 [] a) (C5 [] b) s:=by
 intro f
 induction f with
 | zero =>
  intro a b s ha y c B
  have P:∀(l:List Pt),(∀p∈l,Am p)->Bc l=0->l=[]:=by
   intro l c B
   cases l with
   | nil=>rfl
   | cons p l =>
    have:=Gm (c p (by simp));rw[Ff]at B;omega
  obtain rfl:=P a ha (by omega);obtain rfl:=P b y (by omega);simp[Bi,B9,Fv,Gc,C5,o,A]
 | succ f ih =>
  intro a b s ha y c B
  cases a with
  | nil =>
   cases b with
   | nil=>simp[Bi,B9,Fv,Gc,C5,o,A]
   | cons q b =>
    rcases Ih (y q (by simp)) with ⟨v,F,rfl⟩|⟨e,m,rfl⟩
    . have I:=Gm (y _ (EO ..))
      rw[Ff]at B;have i:∀p∈b,Am p:=λp z=>y p (by simp[z]);unfold Hb at c;rw[Nv,TM b i]at c ⊢;have g:(C5 [] ([]:List Pt)).1.length=(C5 [] b).1.length:=by
       rw[c];cases h:C5 [] b with | mk x l=>cases x<;>simp[Fl]
      rw[XG r j D o N _ _ _ _ g rfl];rw[←ih [] b (j ([]++v) s) (by simp) i g (by omega)];simp only[Bi,JM F,if_true,B9,BT,Q v s F,BA]
    . unfold Hb at c
      rw[Kz]at c;simp[C5]at c
  | cons p a =>
   have U:=Gm (ha p (by simp));have C:∀p∈a,Am p:=λp z=>ha p (by simp[z])
   rcases Ih (ha p (by simp)) with ⟨u,K,rfl⟩|⟨d,n,rfl⟩
   . rw [Ff]at B
     unfold Hb at c;rw[Nv,TM a C]at c ⊢;have g:(C5 [] a).1.length=(C5 [] b).1.length:=by
      rw[←c];cases h:C5 [] a with | mk x l=>cases x<;>simp[Fl]
     rw[dz r j D W _ _ _ _ g];rw[←ih a b (r ([]++u) s) C y g (by omega)];simp only[Bi,JM K,if_true,B9,BT,S u s K,BA]
   . cases b with
     | nil =>
      unfold Hb at c;rw[Kz]at c;simp[C5]at c
     | cons q b =>
      have i:∀p∈b,Am p:=λp z=>y p (by simp[z]);have I:=Gm (y q (by simp))
      rcases Ih (y q (by simp)) with ⟨v,F,rfl⟩|⟨e,m,rfl⟩
      . rw [Ff _ b]at B
        unfold Hb at c;rw[Nv,TM b i]at c ⊢;have g:(C5 [] (At d (n+1) :: a)).1.length=(C5 [] b).1.length:=by
         rw[c];cases h:C5 [] b with | mk x l=>cases x<;>simp[Fl]
        rw[XG r j D o N _ _ _ _ g (g8 d n a)];rw[←ih (At d (n+1) :: a) b (j ([]++v) s) ha i g (by omega)];simp only[Bi,IQ,JM F,if_true,BW,if_false,B9,BT,Q v s F,BA]
      . obtain ⟨k,hk⟩:∃k,k=min n m:=⟨_,rfl⟩
        have J:Ba (At d (n+1))=(n:Int)+1:=by cases d<;>simp[Ba,At]
        have R:Ba (At e (m+1))=(m:Int)+1:=by cases e<;>simp[Ba,At]
        have E:min (Ba (At d (n+1))) (Ba (At e (m+1)))=(k:Int)+1:=by rw[J,R];omega
        obtain⟨c1,c2⟩:=L7 d n k (by omega);obtain⟨c3,X⟩:=L7 e m k (by omega);obtain⟨_,_,o1,_⟩:=Mz (ha _ (EO ..)) (n:=(k:Int)+1) (by omega) (by rw[J];omega);obtain⟨_,_,o2,_⟩:=Mz (y _ (EO ..)) (n:=(k:Int)+1) (by omega) (by rw[R];omega);have Z:=Mf d n k (by omega);have wB:=Mf e m k (by omega);rw[Ff,Ff,Ij,Ij]at B;have O:=c2 a;have L:=X b;have G:∀p∈(Ah (At d (n+1)) ((k:Int)+1)).2++a,Am p:=λp z=>by
         rcases List.mem_append.1 z with h|h
         . exact(o1 p h).1
         . exact C p h
        have H:∀p∈(Ah (At e (m+1)) ((k:Int)+1)).2++b,Am p:=λp z=>by
         rcases List.mem_append.1 z with h|h
         . exact(o2 p h).1
         . exact i p h
        have g:Hb ((Ah (At d (n+1)) ((k:Int)+1)).2++a)=Hb ((Ah (At e (m+1)) ((k:Int)+1)).2++b):=by
         unfold Hb at c ⊢;rw[O,L]at c;simp only[AA,FO]at c;omega
        rw[O,L,Y0 r j D o A d e (k+1),←ih _ _ _ G H g (by rw[JO,JO,Z,wB];omega)];simp only[Bi,IQ,BW,if_false,B9,BT,E,c1,c3,Y]
def Hg (u:List UInt8) (s:Av):Av:=Af s ⟨0,0,u⟩
def J2 (v:List UInt8) (s:Av):Av:=Af s ⟨v.length,0,[]⟩
def Km (d e:Bool) (s:Av):Av:=if e then s else Af s (II d)
theorem WY(s:Av):Hg [] s=s:=IL s
theorem Ye(s:Av):J2 [] s=s:=IL s
theorem Yf(u v:List UInt8)(s:Av):Hg (u++v) s=Hg v (Hg u s):=(R4 s u v).symm
theorem YE(u v:List UInt8)(s:Av):J2 (u++v) s=J2 v (J2 u s):=by
 unfold J2
 cases u with
 | nil=>simp[IL]
 | cons c u =>
  rw[R7 s ((c :: u).length:Int) (v.length:Int) (by simp) (by omega),AA];simp
theorem Yk(d:Bool):∀(k:Nat)(s:Av),LY (Km d false) (k+1) s=Af s (At d (k+1))
 | 0,s=>by cases d<;>rfl
 | k + 1,s=>by
  have a:LY (Km d false) (k+1+1) s=LY (Km d false) (k+1) (Km d false s):=rfl;rw[a,Yk d k]
  cases d with
  | true =>
   show Af (Af s ⟨0,1,[]⟩) ⟨0,((k+1:Nat):Int),[]⟩=Af s ⟨0,((k+1+1:Nat):Int),[]⟩;rw[Qs]
   congr 2
   omega
  | false =>
   show Af (Af s ⟨1,0,[]⟩) ⟨((k+1:Nat):Int),0,[]⟩=Af s ⟨((k+1+1:Nat):Int),0,[]⟩;rw[R7 s 1 _ (by omega) (by omega)]
   congr 2
   omega
theorem YN(d:Bool):∀(k:Nat)(s:Av),LY (Km d true) k s=s
 | 0,_=>rfl
 | k+1,s=>YN d k s
theorem Yi(u:List UInt8)(s:Av)(h:u≠[]):(Ea (⟨0,0,u⟩,Dh)).foldl Af s=Hg u s:=by simp[Ea,Au,Dh,h,Hg]
theorem YJ(v:List UInt8)(s:Av)(h:v≠[]):(Ea (Dh,⟨0,0,v⟩)).foldl Af s=J2 v s:=by simp[Ea,Au,h,J2]
theorem YK(d e:Bool)(k:Nat)(s:Av):(Ea (At d (k+1),At e (k+1))).foldl Af s=LY (Km d e) (k+1) s:=by
 cases e with
 | true =>
  rw[YN];have a:Au (At true (k+1))=false:=IQ true (k+1);have c:Au (At d (k+1))=false:=IQ d (k+1);have b:Gv (At true (k+1))=false:=by simp[Gv,At]
  simp[Ea,a,c,b]
 | false =>
  rw[Yk];have a:Au (At false (k+1))=false:=IQ false (k+1);have b:Gv (At false (k+1))=true:=by simp[Gv,At]
  simp[Ea,a,b]
theorem XK:∀(x:List (List UInt8×Bool))(b:List UInt8)(y:List (List UInt8×Bool))(a:List UInt8)(s:Av),(En true x b y a).foldl Af s=Gc Hg J2 Km x b y a s
 | [],b,[],a,s=>rfl
 | [],b,_ :: _,a,s=>rfl
 | _ :: _,b,[],a,s=>rfl
 | (u,d) :: x,b,(v,e) :: y,a,s=>by
   rw[En,Gc,BJ,XK x b y a]
   cases e<;>rfl
theorem Y7:∀(x:List (List UInt8×Bool))(b:List UInt8)(y:List (List UInt8×Bool))(a:List UInt8)(s:Av),(En false x b y a).foldl Af s=Gc J2 Hg (λe d=>Km d e) y a x b s
 | [],b,[],a,s=>rfl
 | [],b,_ :: _,a,s=>rfl
 | _ :: _,b,[],a,s=>rfl
 | (u,d) :: x,b,(v,e) :: y,a,s=>by
   rw[En,Gc,BJ,Y7 x b y a]
   cases e<;>rfl
theorem YM(f:Nat)(a b:List Pt)(s:Av)(ha:∀p∈a,Am p)(e:∀p∈b,Am p)(c:Hb a=Hb b)(d:Bc a+Bc b<=f) :
    B9 Ea (Bi Au Au f a b) s=(En true (C5 [] a).1 (C5 [] a).2 (C5 [] b).1 (C5 [] b).2).foldl Af s:=by
 rw[XK];exact Ya Ea Hg J2 Km WY Ye Yf YE Yi YJ YK f a b s ha e c d
theorem au(f:Nat)(a b:List Pt)(s:Av)(ha:∀p∈a,Am p)(g:∀p∈b,Am p)(c:Hb a=Hb b)(i:Bc a+Bc b<=f) :
    B9 (λx=>Ea (x.2,x.1)) (Bi Au Au f b a) s=(En false (C5 [] a).1 (C5 [] a).2 (C5 [] b).1 (C5 [] b).2).foldl Af s:=by
 rw[Y7];exact Ya (λx=>Ea (x.2,x.1)) J2 Hg (λe d=>Km d e) Ye WY YE Yf (λv s h=>YJ v s h) (λu s h=>Yi u s h) (λe d k s=>YK d e k s) f b a s g ha c.symm (by omega)
variable {s : Av}
structure Iw (s:Av):Prop where
 out:∀p∈s.out,Am p
 drop:0<=s.drop
theorem RB(h:Iw s):∀p∈Aq s,Am p:=by
 intro p a;unfold Aq at a
 rcases List.mem_append.1 a with a|a
 . exact h.out p a
 . rcases List.mem_append.1 a with a | a
   . split at a
     . simp at a
     . rename_i hne
       rw[List.mem_singleton.1 a];exact .inr (.inr ⟨rfl,rfl,hne⟩)
   . split at a
     . simp at a
     . rename_i hne
       rw[List.mem_singleton.1 a];have:=h.drop;exact .inr (.inl ⟨rfl,by show 0<s.drop;omega,rfl⟩)
theorem bH{l:List Pt}(h:∀p∈l,Am p){k:Int}(f:0<k):∀p∈F8 l k,Am p:=by
 intro p a;unfold F8 at a;have b:Am (⟨k,0,[]⟩:Pt):=.inl ⟨f,rfl,rfl⟩
 cases hq:l.getLast? with
 | none =>
  rw[hq]at a;simp only[EQ,DM]at a
  rcases a with a|rfl
  . exact h p a
  . exact b
 | some q =>
  rw[hq]at a;have c:q∈l:=GF hq;simp only at a
  split at a
  . rename_i h0
    simp only[EQ,DM]at a
    rcases a with a|rfl
    . exact h p (GG l a)
    . rcases h q c with ⟨d,g,e⟩|⟨d,_,_⟩|⟨d,_,_⟩
      . exact .inl ⟨by show 0<q.keep+k;omega,g,e⟩
      . omega
      . omega
  . simp only[EQ,DM]at a
    rcases a with a|rfl
    . exact h p a
    . exact b
theorem Tk(h:Iw s)(p:Pt)(c:0<=p.keep)(b:0<=p.drop):Iw (Af s p):=by
 unfold Af;have a:Iw ⟨s.out,s.put++p.put,s.drop+p.drop⟩:=⟨h.out,by have:=h.drop;show 0<=s.drop+p.drop;omega⟩
 split
 . exact a
 . rename_i hk0
   exact⟨bH (RB a) (by omega),by show(0:Int)<=0;omega⟩
theorem cG(ps:List Pt)(h:∀p∈ps,0<=p.keep/\0<=p.drop):∀s,Iw s->Iw (ps.foldl Af s):=by
 induction ps with
 | nil=>exact λs a=>a
 | cons p ps ih=>exact λs a=>ih (λq b=>h q (by simp[b])) _ (Tk a p (h p (by simp)).1 (h p (by simp)).2)
theorem Nx(ps:List Pt)(h:∀p∈ps,0<=p.keep/\0<=p.drop):∀p∈Ag ps,Am p :=
 RB (cG ps h A7 ⟨by simp[A7],by simp[A7]⟩)
def Ak (ps:List Pt):Int:=(ps.map Ab).sum
def IH (s:Av):Int:=Ak s.out+s.drop
theorem JT(a b:List Pt):Ak (a++b)=Ak a+Ak b:=by simp[Ak]
theorem Sr(s:Av):Ak (Aq s)=IH s:=by
 unfold Aq IH;rw[JT,JT]
 by_cases b:s.put=[]<;>by_cases a:s.drop=0<;>simp[Ak,Ab,b,a]
theorem fq(l:List Pt)(k:Int):Ak (F8 l k)=Ak l+k:=by
 unfold F8
 cases hq:l.getLast? with
 | none=>simp[Ak,Ab]
 | some q =>
  simp only
  split
  . have e:l=l.dropLast++[q]:=by
      have a:l≠[]:=by rintro rfl;simp at hq
      have:=List.dropLast_concat_getLast a;rw[List.getLast?_eq_some_getLast a]at hq;rw[Bq hq]at this;exact this.symm
    conv=>rhs;rw[e]
    rw[JT,JT];simp[Ak,Ab];omega
  . rw[JT];simp[Ak,Ab]
theorem Od(s:Av)(p:Pt):IH (Af s p)=IH s+Ab p:=by
 unfold Af
 split
 . rename_i h
   simp[IH,Ab,h];omega
 . show Ak (F8 _ _)+0=_
   rw[fq,Sr];simp[IH,Ab];omega
theorem XN(ps:List Pt):∀s,IH (ps.foldl Af s)=IH s+Ak ps:=by
 induction ps with
 | nil=>intro s;simp[Ak]
 | cons p ps ih =>
  intro s;rw[BT,ih,Od];simp[Ak];omega
theorem Ua(ps:List Pt):Ak (Ag ps)=Ak ps:=by
 unfold Ag;rw[Sr,XN];simp[IH,A7,Ak]
theorem JL(ps:List Pt)(h:∀p∈ps,0<=p.keep/\0<=p.drop):(Hb ps:Int)=Ak ps:=by
 unfold Hb
 have b:∀(ps:List Pt),(∀p∈ps,0<=p.keep/\0<=p.drop)->∀a,((C5 a ps).1.length:Int)=Ak ps:=by
  intro ps
  induction ps with
  | nil=>intro _ a;simp[C5,Ak]
  | cons p ps ih =>
   intro h a;have d:=jk ([],a) p (h p (by simp)).1 (h p (by simp)).2;have e:=ih (λq c=>h q (by simp[c])) (F0 ([],a) p).2;simp only[C5,AA,Ak,AY,BQ]at e ⊢
   push_cast
   simp only[AR]at d;omega
 exact b ps h []
end
section
attribute [local go_sem] Oper.semAt_some
def pk (a m:Int):Int:=IntKind.u64.wrap a % m
theorem Sc(w:World)(n:Nat)(a:w.heap.size=n)(l:List Value)(t:TypeId):∀j u,l[j]?=some u->(w.alloc (Oc l.toArray t)).cell? (((Ad n 0):Addr).add j)=some u:=by
 subst a;exact He w l t
end
end Go.Proofs.YtkcpjanmemdjlaaGreatDoor
namespace Go.Proofs
open Go.Shelf
def Tryz.laysM316_ren:Go.Shelf.Ren:=⟨λ| 316=>98 | n=>n,λ| 9=>9 | 3=>3 | 4=>4 | 37=>146 | 0=>0 | 127=>194 | 5=>5 | n=>n,λ| n=>n⟩
theorem Tryz.laysM316:Go.Proofs.LaysM.n316 Tryz.prog Tryz.laysM316_ren:={
 mixed:=by kernel_rfl
 f316:=Tryz.func98.trans (congrArg some (by kernel_rfl))
 t0:=Tryz.underlying0
 a0:=Tryz.isAgg0
 z0:=Tryz.sizeOf0
 v0:=Tryz.zeroValue0
 t3:=Tryz.underlying3
 a3:=Tryz.isAgg3
 z3:=Tryz.sizeOf3
 v3:=Tryz.zeroValue3
 t4:=Tryz.underlying4
 a4:=Tryz.isAgg4
 z4:=Tryz.sizeOf4
 v4:=Tryz.zeroValue4
 t9:=Tryz.underlying9
 a9:=Tryz.isAgg9
 z9:=Tryz.sizeOf9
 v9:=Tryz.zeroValue9
 t37:=Tryz.underlying146
 a37:=Tryz.isAgg146
 z37:=Tryz.sizeOf146
 v37:=Tryz.zeroValue146
 t127:=Tryz.underlying194
 a127:=Tryz.isAgg194
 z127:=Tryz.sizeOf194
 v127:=Tryz.zeroValue194
 t5:=Tryz.underlying5
 a5:=Tryz.isAgg5
 z5:=Tryz.sizeOf5
 v5:=Tryz.zeroValue5
 i0:=by kernel_rfl
 i3:=by kernel_rfl
 i4:=by kernel_rfl
 i5:=by kernel_rfl
 i9:=by kernel_rfl
 i37:=by kernel_rfl
 i127:=by kernel_rfl }
open Go.RowKit in
theorem Tryz.stringslite_Clone(s:ByteArray)(w:World)(hlim:s.size<=281474976710656) :
    Calls Tryz.prog 98 #[.string s] w λe w'=>e=.returned (.string s)/\Below w.heap.size w w':=Any.stringslite_Clone Tryz.laysM316 s w hlim
end Go.Proofs
namespace Go.Proofs.YtkcpjanmemdjlaaGreatDoor
open Go.Proofs.Tryz Go.RowKit Go.Maps
section
attribute [local go_sem] Oper.semAt_some
theorem Ob{l:List Pt}(a:∀q∈l,0<=Ab q):0<=Ak l:=by
 induction l with
 | nil=>simp[Ak]
 | cons p l ih =>
  have:=a p (by simp);have:=ih λx b=>a x (by simp[b]);simp only[Ak,AY,BQ]at this ⊢;omega
theorem XB:∀{ps:List Pt}{N:Int},(∀q∈ps,0<=Ab q)->D9 ps N=0->Ak ps=N
 | [],N,_,h=>by
  unfold D9 at h
  split at h
  . rename_i e;simp[Ak,e]
  . cases h
 | p :: ps,N,hl,h=>by
  unfold D9 at h
  split at h
  . cases h
  . have:=XB (λq a=>hl q (by simp[a])) h
    have e:Ak (p :: ps)=Ab p+Ak ps:=by simp[Ak]
    rw[e,this];unfold Ab;omega
theorem OC{ps:List Pt}{N:Int}(h:chkE ps N=0):(∀p∈ps,Db p=true/\(scan p.put).2=true)/\Ak ps=N/\∀q∈ps,0<=Ab q:=by
 unfold chkE at h
 split at h
 . rename_i h1
   have b:=Om h1;have a:∀q∈ps,0<=Ab q:=λq c=>by
    have:=(KC (b q c).1).1;unfold Ek at this;unfold Ab;omega
   exact⟨b,XB a h,a⟩
 . rename_i h1;exact absurd h h1
theorem QM{q:Pt}(h:Db q=true):(0<q.keep/\q.drop=0/\q.put=[])\/(q.keep=0/\0<q.drop/\q.put=[])\/(q.keep=0/\q.drop=0/\q.put≠[]):=by
 unfold Db at h
 split at h
 . rename_i h1;exact .inl ⟨of_decide_eq_true h,h1.1,h1.2⟩
 . split at h
   . rename_i h1 h2;exact .inr (.inl ⟨h2.1,of_decide_eq_true h,h2.2⟩)
   . rename_i h1 h2
     have a:=of_decide_eq_true h;exact .inr (.inr ⟨a.1,a.2,λe=>h1 ⟨a.2,e⟩⟩)
def Ck (u:Int):Prop:=u=1\/u=2\/u=3
end
section
variable {u v : Int}
def Gi (n:Int) (q:Pt):Pt:=if 0<q.keep then ⟨n,0,[]⟩ else if 0<q.drop then ⟨0,n,[]⟩ else ⟨0,0,q.put⟩
def A8 (rs:List Nat) (u a:Int):List Nat:=find (ND u a) [] rs
def Eh (rs:List Nat) (u a:Int):Bool:=decide (by_ u (A8 rs u a)=a)
def Hd (rs:List Nat) (u v:Int):Int->List Pt->List Pt×Bool
 | _,[]=>([],true)
 | a, q :: qs=>if Eh rs u (a+Ab q) then
     (Gi (by_ v (A8 rs u (a+Ab q)) - by_ v (A8 rs u a)) q :: (Hd rs u v (a+Ab q) qs).1,(Hd rs u v (a+Ab q) qs).2)
  else ([],false)
theorem NY(r:Nat):1<=C2 [r]:=by
 unfold C2 sum2 wide;simp only[AY,BU,BQ,FE,DO];unfold cH
 split<;>omega
theorem Tc(a:Ck u)(r:Nat):1<=by_ u [r]:=by
 unfold by_
 rcases a with rfl|rfl|rfl
 . rw[if_pos rfl,Ie]
   have:=List.length_pos_iff.2 (Q6 r);have e:encs [r]=enc r:=by simp[encs]
   rw[e];omega
 . rw[if_neg (by decide),if_pos rfl]
   exact NY r
 . rw[if_neg (by decide),if_neg (by decide),if_pos rfl]
   show(1:Int)<=((1:Nat):Int);omega
theorem Re(d:Ck u):∀(a:List Nat)(i j:Nat),i<j->j<=a.length->by_ u (a.take i)<by_ u (a.take j)
 | a,i,j,h,hj=>by
  have e:a.take j=a.take i++(a.drop i).take (j - i):=by rw[←FM];congr 1;omega
  rw[e,IB];have b:(a.drop i).take (j - i)≠[]:=λe=>by
   have:=congrArg List.length e;rw[AO,AM,AR]at this;omega
  cases hx:(a.drop i).take (j - i) with
  | nil=>exact absurd hx b
  | cons r x =>
   have c:r :: x=[r]++x:=rfl;rw[c,IB];have:=Tc d r;have:=Jj u x;omega
theorem Za(u a:Int):∀(c b:List Nat),a<=by_ u (b++c)->∃k,k<=c.length/\find (ND u a) b c=b++c.take k/\a<=by_ u (b++c.take k)/\∀i,i<k->by_ u (b++c.take i)<a
 | [],b,h=>by
  refine⟨0,Ai _,?_,by simpa using h,λi d=>absurd d (AP _)⟩;have:ND u a b=true:=decide_eq_true (by simpa using h);unfold find;rw[if_pos this];simp
 | r :: c,b,h=>by
  by_cases f:a<=by_ u b
  . refine⟨0,AV _,?_,by simpa using f,λi d=>absurd d (AP _)⟩
    have:ND u a b=true:=decide_eq_true f;unfold find;rw[if_pos this];simp
  . obtain ⟨k,n,l,j,g⟩:=Za u a c (b++[r]) (by simpa using h)
    have e:∀i,b++(r :: c).take (i+1)=(b++[r])++c.take i:=λi=>by simp
    refine⟨k+1,by simp;omega,?_,by rw[e];exact j,λi d=>?_⟩
    . rw[e,←l]
      have m:ND u a b=false:=decide_eq_false f
      conv=>lhs;unfold find
      rw[m,if_neg (by decide),M0]
      conv=>rhs;unfold find
      split
      . rfl
      . simp
    . cases i with
      | zero=>rw[DW,AZ];omega
      | succ i=>rw[e];exact g i (by omega)
theorem OO(b:List Nat)(u a:Int)(h:a<=by_ u b):∃k,k<=b.length/\A8 b u a=b.take k/\a<=by_ u (b.take k)/\∀i,i<k->by_ u (b.take i)<a:=by
 obtain⟨k,f,g,d,e⟩:=Za u a b [] (by simpa using h);exact⟨k,f,by unfold A8;simpa using g,by simpa using d,λi c=>by simpa using e i c⟩
theorem OE(m:Ck u){b:List Nat}{a:Int}(h:a<=by_ u b) :
    (Eh b u a=true->∃k,k<=b.length/\A8 b u a=b.take k/\by_ u (b.take k)=a/\∀i,i<k->by_ u (b.take i)≠a) /\
    (Eh b u a=false->∀i,i<=b.length->by_ u (b.take i)≠a):=by
 obtain⟨k,o,l,q,j⟩:=OO b u a h;unfold Eh;rw[l];refine⟨λe=>⟨k,o,l ▸ rfl,of_decide_eq_true e,λi c=>by have:=j i c;omega⟩,λe i c n=>?_⟩;have g:by_ u (b.take k)≠a:=of_decide_eq_false e
 by_cases d:i<k
 . have:=j i d;omega
 . by_cases f:k=i
   . subst f;exact g n
   . have:=Re m b k i (by omega) c
     omega
theorem Wg(b:List Nat){a:Int}(h:a<=by_ u b):by_ v (A8 b u a)<=by_ v b:=by
 obtain⟨k,d,c,_,_⟩:=OO b u a h;rw[c];have e:b=b.take k++b.drop k:=(AW k b).symm;have:by_ v b=by_ v (b.take k)+by_ v (b.drop k):=by rw[←IB,AW]
 have:=Jj v (b.drop k);omega
theorem gr(c:List Nat){a b:Int}(g:a<=b)(h:b<=by_ u c):by_ v (A8 c u a)<=by_ v (A8 c u b):=by
 obtain⟨k,n,i,r,d⟩:=OO c u a (by omega);obtain⟨j,t,m,o,q⟩:=OO c u b h;rw[i,m];have l:k<=j:=by
  by_cases f:k<=j
  . exact f
  . have:=d j (by omega);omega
 have e:c.take j=c.take k++(c.drop k).take (j - k):=by rw[←FM];congr 1;omega
 rw[e,IB];have:=Jj v ((c.drop k).take (j - k));omega
theorem Ym(a:List Nat)(u:Int):A8 a u 0=[]:=dE u a
end
section
attribute [local go_sem] Oper.semAt_some
def Kn (rs:List Nat) (u v:Int) (qs:List Pt):List Pt:=if (Hd rs u v 0 qs).2 then (Hd rs u v 0 qs).1 else []
def Ko (rs:List Nat) (u v:Int) (qs:List Pt):Int:=if (Hd rs u v 0 qs).2 then 0 else 10
end
section
variable {K D : Int}{U : List UInt8}
theorem lc(s:ByteArray)(f:s.size<100000000)(w:World):Cg 100 #[.string s] w λe w'=>∃p n c d,e=.returned (.tuple #[.slice p n c,.agg #[I6 (if (scan s.data.toList).2 then 0 else 3),I6 d]])/\Bw w w':=by
 refine(SH s f w).mono ?_;rintro e w' ⟨a,⟨h,v,rfl,b⟩|⟨h,rfl⟩⟩
 . rw[if_pos h]
   obtain⟨p,c,rfl,_⟩:=b;exact⟨_,_,_,_,rfl,a⟩
 . rw[if_neg (by rw[h];simp)]
   exact⟨_,_,_,_,rfl,a⟩
theorem Zj(h:Db ⟨K,D,U⟩=true):(D=0/\U=[]/\0<K)\/(K=0/\U=[]/\0<D)\/(K=0/\D=0/\U≠[]):=by
 unfold Db at h
 split at h
 . rename_i h1
   exact .inl ⟨h1.1,h1.2,of_decide_eq_true h⟩
 . rename_i h0
   split at h
   . rename_i h1
     exact .inr (.inl ⟨h1.1,h1.2,of_decide_eq_true h⟩)
   . have:=of_decide_eq_true h
     exact .inr (.inr ⟨this.1,this.2,λe=>h0 ⟨this.2,e⟩⟩)
theorem jD(h:Db ⟨K,D,U⟩=false):(K≠0/\D≠0/\U≠[])\/(K≠0/\D≠0/\U=[])\/(K≠0/\D=0/\U≠[])\/(K=0/\D≠0/\U≠[])\/(K=0/\D=0/\U=[])\/(K<0/\D=0/\U=[])\/(K=0/\D<0/\U=[]):=by
 unfold Db at h
 by_cases a:K=0<;>by_cases b:D=0<;>by_cases c:U=[]<;>simp[a,b,c]at h ⊢<;>omega
theorem MR(v:Value)(ps:List Pt)(N:Int)(w:World)(hr:Ae w v ps)(hwf:∀p∈ps,Cp p)(E:∀p∈ps,p.put.length<100000000)(hN: -9223372036854775808<=N/\N<9223372036854775808)(hl:ps.length<10000000) :
    Cg 78 #[v,I6 N] w (Rt w (I6 (chkE ps N))):=by
 obtain⟨p,c,rfl,r1,r2,r3⟩:=hr;obtain⟨n,hn⟩:∃n,n=ps.length:=⟨_,rfl⟩;rw[←hn]at r1 hl ⊢;have HN:=Aa hn;clear hn
 have R3:Hid (ps≠[]->∃b o,p=some (Ad b o)/\b<w.heap.size/\∀i q,ps[i]?=some q ->
  w.cell? (Ad b (o+i*3))=some (I6 q.keep)/\w.cell? (Ad b (o+i*3+1))=some (I6 q.drop)/\w.cell? (Ad b (o+i*3+2))=some (Sx q.put)):=r3
 have A:=Aa hwf;have F:=Aa E;obtain⟨hN0,hN1⟩:=hN;clear r3 hwf E
 go_enter func78,ntmps78
 go_wp2
 go_loopw [14] (λi wr=>∃(k:Nat),k<=n/\i=.int .i64 k/\Dw ps=Dw (ps.drop k)/\Bw w wr) (λi _=>n - (intOf i).toNat)
 case atStart=>exact⟨0,AV _,rfl,rfl,A9 _ _⟩
 case round =>
  obtain⟨k,hk,rfl,a,f⟩:=hrel
  by_cases R:k<n
  . have x:k<ps.length:=by rw[←HN.out];exact R
    have W:ps≠[]:=by intro e;rw[e]at x;exact absurd x (AP _)
    obtain⟨b,o,rfl,C,j⟩:=R3.out W;obtain⟨L,P,O⟩:=j k ps[k] (B7 x);have g0:=(zC f b (o+k*3) C).trans L;have g1:=(zC f b (o+k*3+1) C).trans P;have g2:=(zC f b (o+k*3+2) C).trans O;rw[BK x,Dw]at a;have y:=A.out ps[k] (BE _);have E:=F.out ps[k] (BE _);generalize ps[k]=q at *;obtain⟨K,D,U⟩:=q;have B:=f.size;have HWR:=Aa f;have Q:Hid (∀o I,Below (wr.alloc o).heap.size (wr.alloc o) I->Bw w I):=λo I h=>(f.alloc B o).trans (h.mono (f.alloc B o).size);have z:Hid (∀o,Bw w (wr.alloc o)):=λo=>f.alloc B o;have l:=λS=>lc ⟨U.toArray⟩ (by simpa[ByteArray.size] using E) S;simp only at a l g0 g1 g2
    by_cases G:Db ⟨K,D,U⟩=true
    . rw [if_pos G]at a
      by_cases J:(scan U).2=true
      . rw [if_pos J]at a
        simp only[J,if_true]at l;have g:=Aa a;have H:=Zj G;clear j L P O a y f A F G J E
        rcases H with ⟨rfl,rfl,s⟩|⟨rfl,rfl,s⟩|⟨rfl,rfl,s⟩
        . have sb:(K==0)=false:=beq_eq_false_iff_ne.2 (by omega)
          have sn:¬K<0:=by omega
          have Y:∀S,Cg 100 #[.string ⟨#[]⟩] S λe w'=>∃p n c d,e=.returned (.tuple #[.slice p n c,.agg #[I6 0,I6 d]])/\Bw S w':=l;clear l
          go_wp2_with (go_at_call 100;refine(Y _).mono ?_;rintro e I ⟨pp,nn,cc,dd,rfl,r⟩;have t:Hid (Bw w I):=Q.out _ _ r;clear r)
          go_roundw
          case rel=>exact⟨k+1,by omega,by go_num,g.out,t.out.alloc t.out.size _⟩
          case measure=>simp[intOf];omega
        . have sb:(D==0)=false:=beq_eq_false_iff_ne.2 (by omega)
          have sn:¬D<0:=by omega
          have Y:∀S,Cg 100 #[.string ⟨#[]⟩] S λe w'=>∃p n c d,e=.returned (.tuple #[.slice p n c,.agg #[I6 0,I6 d]])/\Bw S w':=l;clear l
          go_wp2_with (go_at_call 100;refine(Y _).mono ?_;rintro e I ⟨pp,nn,cc,dd,rfl,r⟩;have t:Hid (Bw w I):=Q.out _ _ r;clear r)
          go_roundw
          case rel=>exact⟨k+1,by omega,by go_num,g.out,t.out.alloc t.out.size _⟩
          case measure=>simp[intOf];omega
        . have Y:=l
          have sU:U.isEmpty=false:=by simpa using s
          clear l
          go_wp2_with (go_at_call 100;refine(Y _).mono ?_;rintro e I ⟨pp,nn,cc,dd,rfl,r⟩;have t:Hid (Bw w I):=Q.out _ _ r;clear r)
          go_roundw
          case rel=>exact⟨k+1,by omega,by go_num,g.out,t.out.alloc t.out.size _⟩
          case measure=>simp[intOf];omega
      . have J:(scan U).2=false:=Bool.eq_false_iff.2 J
        have hU:U≠[]:=by intro e;rw[e]at J;cases J
        rw[J]at a;simp only[J,BW,if_false]at l;have g:Hid (Dw ps=3):=by show Dw ps=3;simpa using a
        have H:=Zj G;clear j L P O a y f A F G J E
        rcases H with ⟨rfl,rfl,s⟩|⟨rfl,rfl,s⟩|⟨rfl,rfl,s⟩
        . exact absurd rfl hU
        . exact absurd rfl hU
        . have Y:=l
          have sU:U.isEmpty=false:=by simpa using s
          clear l
          go_wp2_with (go_at_call 100;refine(Y _).mono ?_;rintro e I ⟨pp,nn,cc,dd,rfl,r⟩;have t:Hid (Bw w I):=Q.out _ _ r;clear r)
          go_ret;refine⟨?_,t.out.alloc t.out.size _⟩;unfold chkE;rw[g.out];rfl
    . have G:Db ⟨K,D,U⟩=false:=Bool.eq_false_iff.2 G
      rw[G]at a;have g:Hid (Dw ps=1):=by show Dw ps=1;simpa using a
      have H:=jD G;clear j L P O a y f A F G E l
      rcases H with ⟨s1,Z,s3⟩|⟨s1,Z,rfl⟩|⟨s1,rfl,s3⟩|⟨rfl,Z,s3⟩|⟨rfl,rfl,rfl⟩|⟨s1,rfl,rfl⟩|⟨rfl,Z,rfl⟩
      . have kb:(K==0)=false:=beq_eq_false_iff_ne.2 (by omega)
        have db:(D==0)=false:=beq_eq_false_iff_ne.2 (by omega);have sU:U.isEmpty=false:=by simpa using s3
        go_wp2;go_ret;refine⟨?_,z.out _⟩;unfold chkE;rw[g.out];rfl
      . have kb:(K==0)=false:=beq_eq_false_iff_ne.2 (by omega)
        have db:(D==0)=false:=beq_eq_false_iff_ne.2 (by omega);go_wp2;go_ret;refine⟨?_,z.out _⟩;unfold chkE;rw[g.out];rfl
      . have kb:(K==0)=false:=beq_eq_false_iff_ne.2 (by omega)
        have sU:U.isEmpty=false:=by simpa using s3
        go_wp2;go_ret;refine⟨?_,z.out _⟩;unfold chkE;rw[g.out];rfl
      . have db:(D==0)=false:=beq_eq_false_iff_ne.2 (by omega)
        have sU:U.isEmpty=false:=by simpa using s3
        go_wp2;go_ret;refine⟨?_,z.out _⟩;unfold chkE;rw[g.out];rfl
      . have t0:=z.out
        clear t0;go_wp2;go_ret;refine⟨?_,z.out _⟩;unfold chkE;rw[g.out];rfl
      . have kb:(K==0)=false:=beq_eq_false_iff_ne.2 (by omega)
        go_wp2;go_ret;refine⟨?_,z.out _⟩;unfold chkE;rw[g.out];rfl
      . have db:(D==0)=false:=beq_eq_false_iff_ne.2 (by omega)
        go_wp2;go_ret;refine⟨?_,z.out _⟩;unfold chkE;rw[g.out];rfl
  . have e : ps.drop k=[]:=DH (by rw[←HN.out];omega)
    rw[e]at a;have H0:Hid (Dw ps=0):=a;have HWR:=Aa f;have HON:Hid (∀p∈ps,Ek p/\(p.keep=0\/p.drop=0)):=λp hp=>KC (Om a p hp).1;clear e a f;go_wp2
    go_loopw [1,57] (λm i wr=>∃(k:Nat) (M:Int),k<=n/\i=.int .i64 k/\m=.int .i64 M/\-9223372036854775808<=M/\M<9223372036854775808/\D9 ps N=D9 (ps.drop k) M/\Bw w wr) (λ_ i _=>n - (intOf i).toNat)
    case atStart=>exact⟨0,N,AV _,rfl,rfl,hN0,hN1,rfl,HWR.out⟩
    case round =>
     obtain⟨k,M,hk,rfl,rfl,hM0,hM1,a,f⟩:=hrel
     by_cases R:k<n
     . have x:k<ps.length:=by rw[←HN.out];exact R
       have W:ps≠[]:=by intro e;rw[e]at x;exact absurd x (AP _)
       obtain⟨b,o,rfl,C,j⟩:=R3.out W;obtain⟨L,P,O⟩:=j k ps[k] (B7 x);have g0:=(zC f b (o+k*3) C).trans L;have g1:=(zC f b (o+k*3+1) C).trans P;have g2:=(zC f b (o+k*3+2) C).trans O;rw[BK x,D9]at a;have y:=A.out ps[k] (BE _);have hon:=HON.out ps[k] (BE _);generalize ps[k]=q at *;obtain⟨⟨s0,s1⟩,Z⟩:=hon;have hsum0:0<=q.keep+q.drop:=by omega
       have hsum1:q.keep+q.drop<9223372036854775808:=by have:=y.2.1;have:=y.2.2.2.1;omega
       have hw1:IntKind.i64.wrap (q.keep+q.drop)=q.keep+q.drop:=by rw[BG];omega
       have X:Hid (Bw w (wr.alloc (Oc #[I6 q.keep,I6 q.drop,Sx q.put] 87))):=f.alloc f.size _
       by_cases G:M<q.keep+q.drop
       . rw [if_pos G]at a
         have g:=Aa a
         by_cases hK:M<q.keep
         . clear j L P O a y f A F Z hw1
           go_wp2;go_ret;refine⟨?_,X.out⟩;unfold chkE;rw[if_pos H0.out,g.out];rfl
         . have hD:M<q.drop:=by omega
           clear j L P O a y f A F Z hw1;go_wp2;go_ret;refine⟨?_,X.out⟩;unfold chkE;rw[if_pos H0.out,g.out];rfl
       . rw[if_neg G,←Int.sub_sub]at a
         have g:=Aa a;have hK:¬M<q.keep:=by omega
         have hD:¬M<q.drop:=by omega
         have hw2:IntKind.i64.wrap (M - q.keep)=M - q.keep:=by rw[BG];omega
         have hw3:IntKind.i64.wrap (M - q.keep - q.drop)=M - q.keep - q.drop:=by rw[BG];omega
         clear j L P O a y f A F Z hw1;go_wp2
         go_roundw
         case rel=>exact⟨k+1,M - q.keep - q.drop,by omega,by go_num,by first | rfl | go_num,by omega,by omega,g.out,X.out⟩
         case measure=>simp[intOf];omega
     . have e:ps.drop k=[]:=DH (by rw[←HN.out];omega)
       rw[e,D9]at a;have HX:=Aa f
       by_cases h0:M=0
       . rw[if_pos h0]at a
         subst h0;have g:=Aa a;clear e a f;go_wp2;go_ret;refine⟨?_,HX.out⟩;unfold chkE;rw[if_pos H0.out,g.out];rfl
       . rw[if_neg h0]at a
         have hmb:(M==0)=false:=beq_eq_false_iff_ne.2 h0;have g:=Aa a;clear e a f;go_wp2;go_ret;refine⟨?_,HX.out⟩;unfold chkE;rw[if_pos H0.out,g.out];rfl
end
section
variable {w : World}{a : Nat}{s : Av}
structure Bn (w:World) (a:Nat) (s:Av):Prop where
 out:∃p c,w.cell? (Ad a 0)=some (.slice p s.out.length c)/\w.ownsRow (a+3) 87 3 (.slice p s.out.length c) s.out.length (Cw s.out)
 outF:w.frozen? (Ad a 0)=false
 put:w.cell? (Ad (a+1) 0)=some (Sx s.put)
 putF:w.frozen? (Ad (a+1) 0)=false
 drop:w.cell? (Ad (a+2) 0)=some (I6 s.drop)
 dropF:w.frozen? (Ad (a+2) 0)=false
theorem Il(h:Bn w a s):a+2<w.heap.size:=Ca w _ h.drop
theorem MU{w':World}(h:Bn w a s)(b:Bw w w'):Bn w' a s:=by
 have g:=Il h;obtain⟨⟨p,c,j,k⟩,d,f,l,e,i⟩:=h
 exact ⟨⟨p,c,(zC b a 0 (by show a<_;omega)).trans j,Fe k b⟩,(b.frozen (p:=(Ad a 0)) (by show a<_;omega)).trans d,
  (zC b (a+1) 0 (by show a+1<_;omega)).trans f,(b.frozen (p:=(Ad (a+1) 0)) (by show a+1<_;omega)).trans l,
  (zC b (a+2) 0 (by show a+2<_;omega)).trans e,(b.frozen (p:=(Ad (a+2) 0)) (by show a+2<_;omega)).trans i⟩
theorem Mi{e:World}{p:Option Addr}{c:Nat}{o:Obj}{m:Value}{q:Pt}(h:Bn w a s)(r:w.cell? (Ad a 0)=some (.slice p s.out.length c))
    (d:e.ownsRow (a+3) 87 3 m (s.out.length+1) (Cw s.out++Ed q)) (t:(w.alloc o).grownBy e (Value.slice p s.out.length c).ownBlock) :
    Bn (e.setCell (Ad a 0) m) a ⟨s.out++[q],s.put,s.drop⟩/\Below a w (e.setCell (Ad a 0) m)/\Below (a+3) w e/\e.cell? (Ad a 0)=some (.slice p s.out.length c)/\e.frozen? (Ad a 0)=false:=by
 have z:=Il h;obtain⟨⟨G,H,j,A⟩,C,y,B,E,x⟩:=h;rw[r]at j;simp only[Option.some.injEq,Value.slice.injEq,true_and]at j;obtain⟨rfl,rfl⟩:=j;have i:∀k,(Value.slice p s.out.length c).ownBlock=some k->a+3<=k:=λk F=>(A.lt k F).1;have b:Below (a+3) w e:=((A9 (a+3) w).alloc (by omega) o).grown t (by rw[Bb];omega) i;have f:e.cell? (Ad a 0)=some (.slice p s.out.length c):=by rw[zC b a 0 (by show a<_;omega)];exact r
 have g:e.frozen? (Ad a 0)=false:=by rw[b.frozen (p:=(Ad a 0)) (by show a<_;omega)];exact C
 obtain⟨l,n,rfl⟩:=Bm d;refine⟨⟨⟨l,n,?_,?_⟩,?_,?_,?_,?_,?_⟩,(b.mono (show a<=a+3 by omega)).setCell (Ai _) _,b,f,g⟩
 . show _=some (Value.slice l (s.out++[q]).length n)
   rw[AA];exact AU _ _ _ f
 . show World.ownsRow _ _ _ _ (.slice l (s.out++[q]).length n) (s.out++[q]).length (Cw (s.out++[q]))
   rw[AA,JQ];exact Jn d (by omega) _
 . rw[AG];exact g
 . rw[Ce (by omega)];exact(zC b (a+1) 0 (by show a+1<_;omega)).trans y
 . rw[AG];exact(b.frozen (p:=(Ad (a+1) 0)) (by show a+1<_;omega)).trans B
 . rw[Ce (by omega)];exact(zC b (a+2) 0 (by show a+2<_;omega)).trans E
 . rw[AG];exact(b.frozen (p:=(Ad (a+2) 0)) (by show a+2<_;omega)).trans x
theorem JN(h:Bn w a s)(q:List UInt8):Bn (w.setCell (Ad (a+1) 0) (Sx q)) a ⟨s.out,q,s.drop⟩/\Below a w (w.setCell (Ad (a+1) 0) (Sx q)):=by
 have f:=Il h;obtain⟨⟨p,c,i,j⟩,b,e,k,d,g⟩:=h;refine⟨⟨⟨p,c,?_,Jn j (by omega) _⟩,?_,AU _ _ _ e,?_,?_,?_⟩,(A9 a w).setCell (by show a<=a+1;omega) _⟩
 . rw[Ce (by omega)];exact i
 . rw[AG];exact b
 . rw[AG];exact k
 . rw[Ce (by omega)];exact d
 . rw[AG];exact g
theorem MG(h:Bn w a s)(d:Int):Bn (w.setCell (Ad (a+2) 0) (I6 d)) a ⟨s.out,s.put,d⟩/\Below a w (w.setCell (Ad (a+2) 0) (I6 d)):=by
 have g:=Il h;obtain⟨⟨p,c,j,k⟩,b,f,l,e,i⟩:=h;refine⟨⟨⟨p,c,?_,Jn k (by omega) _⟩,?_,?_,?_,AU _ _ _ e,?_⟩,(A9 a w).setCell (by show a<=a+2;omega) _⟩
 . rw[Ce (by omega)];exact j
 . rw[AG];exact b
 . rw[Ce (by omega)];exact f
 . rw[AG];exact l
 . rw[AG];exact i
theorem ij(a:Nat)(s:Av)(w:World)(h:Bn w a s)(b:s.out.length<1000000000)(q:s.put=[])(y:s.drop=0) :
    Cg 118 #[.pointer (some (Ad (a+1) 0)),Pd a 0,.pointer (some (Ad (a+2) 0))] w λe w'=>(∃v,e=.returned v)/\Bn w' a ⟨s.out,[],0⟩/\Below a w w':=by
 obtain⟨r,B,g,j,o⟩:=info_parts Ho;have k:=Il h;have i:=Aa h;obtain⟨⟨p,c,x,l⟩,C,z,A,E,t⟩:=h;have m:s.put.isEmpty=true:=by simpa using q
 have n:¬(0:Int)<s.drop:=by omega
 clear l
 go_enter func118,ntmps118
 go_wp2;go_end0;have f:=JN i.out [];have d:=MG f.1 0;exact⟨⟨_,rfl⟩,d.1,f.2.trans d.2⟩
theorem ig(a:Nat)(s:Av)(w:World)(h:Bn w a s)(o:s.out.length<1000000000)(Y:s.put=[])(hd:0<s.drop) :
    Cg 118 #[.pointer (some (Ad (a+1) 0)),Pd a 0,.pointer (some (Ad (a+2) 0))] w λe w'=>(∃v,e=.returned v)/\Bn w' a ⟨s.out++[⟨0,s.drop,[]⟩],[],0⟩/\Below a w w':=by
 obtain⟨N,Q,j,k,m⟩:=info_parts Ho;have P:=Il h;have O:=Aa h;obtain⟨⟨p,c,z,E⟩,S,B,F,I,x⟩:=h;have R:=Aa E;have X:=Aa z;have W:s.put.isEmpty=true:=by simpa using Y
 clear E
 go_enter func118,ntmps118
 go_wp2_with (at_builtin;refine wpList_append_own _ rfl _ _ 37 rfl (a+3) 87 N (.agg #[I6 0,I6 0,.string ⟨#[]⟩]) 3 32 underlying37 Q j k m rfl (by decide) _ _ _ rfl (R.out.alloc _) (Ad w.heap.size 0) 1 1 (Ed ⟨0,s.drop,[]⟩) rfl rfl (He _ _ _) (Gx _) (by unfold maxLen;omega) (by omega) (by first | omega | (simp;omega)) ?_)
 intro v2 w2 b g _;have A:=Mi (q:=⟨0,s.drop,[]⟩) O.out X.out b g;have t:=B;have r:=F;have y:=I;have G:=x;clear z S B F I x;obtain⟨p2,q2,f⟩:=Bm b;rw[f]at A ⊢;obtain⟨n,J,d,t1,t2⟩:=A;have i:=Aa n;have l:=Aa J;have Z:=(zC d (a+1) 0 (by show a+1<_;omega)).trans t;have y6:=(d.frozen (p:=(Ad (a+1) 0)) (by show a+1<_;omega)).trans r;have y7:=(zC d (a+2) 0 (by show a+2<_;omega)).trans y;have y8:=(d.frozen (p:=(Ad (a+2) 0)) (by show a+2<_;omega)).trans G;have L:=d.size;clear t r y G n J b g d f;go_wp2;go_end0;have H:=JN i.out [];have C:=MG H.1 0;exact⟨⟨_,rfl⟩,C.1,(l.out).trans (H.2.trans C.2)⟩
theorem il(a:Nat)(s:Av)(w:World)(h:Bn w a s)(n:s.out.length<1000000000)(S:s.put≠[])(hd:s.drop=0) :
    Cg 118 #[.pointer (some (Ad (a+1) 0)),Pd a 0,.pointer (some (Ad (a+2) 0))] w λe w'=>(∃v,e=.returned v)/\Bn w' a ⟨s.out++[⟨0,0,s.put⟩],[],0⟩/\Below a w w':=by
 obtain⟨G,L,i,j,m⟩:=info_parts Ho;have J:=Il h;have H:=Aa h;obtain⟨⟨p,c,t,z⟩,O,x,A,E,o⟩:=h;have N:=Aa z;have Q:=Aa t;have P:s.put.isEmpty=false:=by simpa using S
 have R:¬(0:Int)<s.drop:=by omega
 clear z
 go_enter func118,ntmps118
 go_wp2_with (at_builtin;refine wpList_append_own _ rfl _ _ 37 rfl (a+3) 87 G (.agg #[I6 0,I6 0,.string ⟨#[]⟩]) 3 32 underlying37 L i j m rfl (by decide) _ _ _ rfl (N.out.alloc _) (Ad w.heap.size 0) 1 1 (Ed ⟨0,0,s.put⟩) rfl rfl (He _ _ _) (Gx _) (by unfold maxLen;omega) (by omega) (by first | omega | (simp;omega)) ?_)
 intro v1 Y b f _;have B:=Mi (q:=⟨0,0,s.put⟩) H.out Q.out b f;obtain⟨W,q1,g⟩:=Bm b;rw[g]at B b ⊢;obtain⟨F,r,d,r1,X⟩:=B;have k:=Aa F;have l:=Aa r;have k4:=(zC d (a+1) 0 (by show a+1<_;omega)).trans x;have Z:=(d.frozen (p:=(Ad (a+1) 0)) (by show a+1<_;omega)).trans A;have k7:=(zC d (a+2) 0 (by show a+2<_;omega)).trans E;have k8:=(d.frozen (p:=(Ad (a+2) 0)) (by show a+2<_;omega)).trans o;have I:=d.size;clear t O x A E o F r b f d g;go_wp2;go_end0;have C:=JN k.out [];have y:=MG C.1 0;exact⟨⟨_,rfl⟩,y.1,(l.out).trans (C.2.trans y.2)⟩
theorem ik(a:Nat)(s:Av)(w:World)(h:Bn w a s)(L:s.out.length<1000000000)(hp:s.put≠[])(hd:0<s.drop) :
    Cg 118 #[.pointer (some (Ad (a+1) 0)),Pd a 0,.pointer (some (Ad (a+2) 0))] w λe w'=>(∃v,e=.returned v)/\Bn w' a ⟨s.out++[⟨0,0,s.put⟩,⟨0,s.drop,[]⟩],[],0⟩/\Below a w w':=by
 obtain⟨O,hi,o,r,A⟩:=info_parts Ho;have hlt:=Il h;have H0:=Aa h;obtain⟨⟨p,c,S,h2⟩,h3,h4,h6,h7,X⟩:=h;have HO:=Aa h2;have HC:=Aa S;have hpe:s.put.isEmpty=false:=by simpa using hp
 clear h2
 go_enter func118,ntmps118
 go_wp2_with (at_builtin;refine wpList_append_own _ rfl _ _ 37 rfl (a+3) 87 O (.agg #[I6 0,I6 0,.string ⟨#[]⟩]) 3 32 underlying37 hi o r A rfl (by decide) _ _ _ rfl (HO.out.alloc _) (Ad w.heap.size 0) 1 1 (Ed ⟨0,0,s.put⟩) rfl rfl (He _ _ _) (Gx _) (by unfold maxLen;omega) (by omega) (by first | omega | (simp;omega)) ?_)
 intro v1 l b t _;have P1:=Mi (q:=⟨0,0,s.put⟩) H0.out HC.out b t;obtain⟨j,k,z⟩:=Bm b;rw[z]at P1 b ⊢;obtain⟨G1,W,g,r1,r2⟩:=P1;have E:=Aa G1;have F:=Aa W;have H:Hid ((l.setCell (Ad a 0) (.slice j (s.out.length+1) k)).ownsRow (a+3) 87 3 (.slice j (s.out.length+1) k) (s.out.length+1) (Cw s.out++Ed ⟨0,0,s.put⟩)):=Jn b (show a<a+3 by omega) (.slice j (s.out.length+1) k);have B:Hid ((l.setCell (Ad a 0) (.slice j (s.out.length+1) k)).cell? (Ad a 0)=some (.slice j (s.out.length+1) k)):=AU _ _ _ r1;have k4:=(zC g (a+1) 0 (by show a+1<_;omega)).trans h4;have P:=(g.frozen (p:=(Ad (a+1) 0)) (by show a+1<_;omega)).trans h6;have R:=(zC g (a+2) 0 (by show a+2<_;omega)).trans h7;have k8:=(g.frozen (p:=(Ad (a+2) 0)) (by show a+2<_;omega)).trans X;have hs1:=g.size;clear S h3 h4 h6 h7 X G1 W b t g z
 go_wp2_with (at_builtin;refine wpList_append_own _ rfl _ _ 37 rfl (a+3) 87 O (.agg #[I6 0,I6 0,.string ⟨#[]⟩]) 3 32 underlying37 hi o r A rfl (by decide) _ _ _ rfl (H.out.alloc _) (Ad l.heap.size 0) 1 1 (Ed ⟨0,s.drop,[]⟩) rfl rfl (aJ _ _ _ _ _) (Gx _) (by unfold maxLen;omega) (by omega) (by first | omega | (simp;omega)) ?_)
 intro v2 w2 d y _;have f:w2.ownsRow (a+3) 87 3 v2 ((s.out++[(⟨0,0,s.put⟩:Pt)]).length+1) (Cw (s.out++[(⟨0,0,s.put⟩:Pt)])++Ed ⟨0,s.drop,[]⟩):=by
  rw[JQ,AA,AH];exact d
 have n:(s.out++[(⟨0,0,s.put⟩:Pt)]).length=s.out.length+1:=by rw[AA];rfl
 have m:(l.setCell (Ad a 0) (.slice j (s.out.length+1) k)).cell? (Ad a 0)=some (.slice j (s.out++[(⟨0,0,s.put⟩:Pt)]).length k):=by rw[n];exact B.out
 have Z:=Mi (q:=⟨0,s.drop,[]⟩) E.out m f (by rw[n];exact y);have Q:(l.setCell (Ad a 0) (.slice j (s.out.length+1) k)).cell? (Ad (a+1) 0)=some (Sx s.put):=(Ce (by omega) _).trans k4;have N:(l.setCell (Ad a 0) (.slice j (s.out.length+1) k)).frozen? (Ad (a+1) 0)=false:=by rw[AG];exact P
 have Y:(l.setCell (Ad a 0) (.slice j (s.out.length+1) k)).cell? (Ad (a+2) 0)=some (I6 s.drop):=(Ce (by omega) _).trans R;have z8:(l.setCell (Ad a 0) (.slice j (s.out.length+1) k)).frozen? (Ad (a+2) 0)=false:=by rw[AG];exact k8
 clear m f k4 P R k8 r1 r2;obtain⟨p2,q2,x⟩:=Bm d;rw[x]at Z ⊢;obtain⟨I,B2,i,t1,t2⟩:=Z;have C:=Aa I;have G:=Aa B2;have y4:=(zC i (a+1) 0 (by show a+1<_;omega)).trans Q;have y6:=(i.frozen (p:=(Ad (a+1) 0)) (by show a+1<_;omega)).trans N;have y7:=(zC i (a+2) 0 (by show a+2<_;omega)).trans Y;have y8:=(i.frozen (p:=(Ad (a+2) 0)) (by show a+2<_;omega)).trans z8;have hs2:=i.size;clear Q N Y z8 I B2 d y i x;go_wp2;go_end0;have F1:=JN C.out [];have F2:=MG F1.1 0;have J:=F2.1;rw[AH]at J;exact⟨⟨_,rfl⟩,J,(F.out.trans G.out).trans (F1.2.trans F2.2)⟩
theorem NU(a:Nat)(s:Av)(w:World)(h:Bn w a s)(b:s.out.length<1000000000)(f:0<=s.drop) :
    Cg 118 #[.pointer (some (Ad (a+1) 0)),Pd a 0,.pointer (some (Ad (a+2) 0))] w λe w'=>(∃v,e=.returned v)/\Bn w' a ⟨Aq s,[],0⟩/\Below a w w':=by
 unfold Aq
 by_cases c:s.put=[]
 . by_cases d:s.drop=0
   . have:=ij a s w h b c d
     simpa[c,d] using this
   . have:=ig a s w h b c (by omega)
     simpa[c,d] using this
 . by_cases d:s.drop=0
   . have:=il a s w h b c d
     simpa[c,d] using this
   . have:=ik a s w h b c (by omega)
     simpa[c,d] using this
end
structure BdK (s:IG) (T k:Nat):Prop where
 put:s.put.length<=T
 d0:0<=s.drop
 dk:s.drop<=k
 k0:0<=s.keep
 kk:s.keep<=k
 len:s.out.length<=3*k
theorem S7:BdK Cs 0 0:=⟨by simp[Cs],by simp[Cs],by simp[Cs],by simp[Cs],by simp[Cs],by simp[Cs]⟩
theorem eN(s:Av):(Aq s).length<=s.out.length+2:=by
 unfold Aq;simp only[AA]
 split<;>split<;>simp
theorem BdK.step{s:IG}{T k:Nat}(h:BdK s T k)(x:List UInt8×Bool):BdK (Gt s x) (T+x.1.length) (k+1):=by
 obtain⟨q,d⟩:=x;obtain⟨m,o,j,c,g,r⟩:=h
 have e:(Es s q d).put.length<=T+q.length/\(Es s q d).drop=s.drop/\0<=(Es s q d).keep/\(Es s q d).keep<=k/\(Es s q d).out.length<=3*k+1:=by
  unfold Es
  split
  . refine ⟨by show(s.put++q).length<=_;rw[AA];omega,rfl,?_,?_,?_⟩
    . show 0<=if 0<s.keep then 0 else s.keep;split<;>omega
    . show(if 0<s.keep then 0 else s.keep)<=_;split<;>omega
    . show(if 0<s.keep then s.out++[⟨s.keep,0,[]⟩] else s.out).length<=_
      split
      . rw[AA,DN];omega
      . omega
  . exact⟨by omega,rfl,c,g,by omega⟩
 obtain⟨b,n,f,i,l⟩:=e;show BdK (F5 (Es s q d) d) (T+q.length) (k+1);generalize Es s q d=t at *;unfold F5
 cases d with
 | true=>exact⟨b,by show 0<=t.drop+1;omega,by show t.drop+1<=_;omega,f,by show t.keep<=_;omega,by show t.out.length<=_;omega⟩
 | false =>
  have:(Aq ⟨t.out,t.put,t.drop⟩).length<=t.out.length+2:=eN _;exact⟨AV _,BO _,by show(0:Int)<=_;omega,by show 0<=t.keep+1;omega,by show t.keep+1<=_;omega,by show(Aq ⟨t.out,t.put,t.drop⟩).length<=_;omega⟩
def Ep (l:List (List UInt8×Bool)):Nat:=(l.map λx=>x.1.length).sum
theorem UG(l:List (List UInt8×Bool))(x:List UInt8×Bool):Ep (l++[x])=Ep l+x.1.length:=by simp[Ep]
theorem S6(l:List (List UInt8×Bool))(k:Nat)(b:k<=l.length):BdK ((l.take k).foldl Gt Cs) (Ep (l.take k)) k:=by
 induction k with
 | zero=>exact S7
 | succ k ih =>
  have:=ih (by omega);rw[AD (by omega),BJ];rw[UG];exact this.step _
theorem Zp(l:List (List UInt8×Bool))(k:Nat):Ep (l.take k)<=Ep l:=by
 have b:Ep l=Ep (l.take k)+Ep (l.drop k):=by
  unfold Ep;rw[←DK,←BM,AW]
 omega
theorem Yo(E S n:Nat)(G:Dj)(w:World)(hn:G.1.length=n)(hn':n<10000000)(hsz:Ep G.1+G.2.length<1000000000)
    (h1:∀(i:Nat) q,(G.1.map (·.1)++[G.2])[i]?=some q->w.cell? (Ad E i)=some (Cz q)) (h2:∀(i:Nat) d,(G.1.map (·.2))[i]?=some d->w.cell? (Ad S i)=some (.bool d)) (lt1:E<w.heap.size) (lt2:S<w.heap.size) :
    Cg 84 #[.agg #[Sl E (n+1) (n+1),Sl S n n]] w λe w'=>∃v,e=.returned v/\w'.ownsRow w.heap.size 87 3 v (JA G).length (Cw (JA G))/\Bw w w':=by
 obtain⟨i0,hi,hz0,hz1,hz2⟩:=info_parts Ho;have H1:Hid (∀(i:Nat) q,(G.1.map (·.1)++[G.2])[i]?=some q->w.cell? (Ad E i)=some (Cz q)):=h1;have H2:Hid (∀(i:Nat) d,(G.1.map (·.2))[i]?=some d->w.cell? (Ad S i)=some (.bool d)):=h2;have HN:Hid (G.1.length=n):=hn;have HSZ:Hid (Ep G.1+G.2.length<1000000000):=hsz;have hwn:IntKind.i64.wrap ((n:Int)+1)=(n:Int)+1:=by rw[BG];omega
 clear h1 h2 hn hsz
 go_enter func84,ntmps84
 go_wp2
 go_loopw [6,14] (λkp i wr=>∃(k:Nat),k<=n/\i=.int .i64 k/\kp=.int .i64 ((G.1.take k).foldl Gt Cs).keep /\
     Bn wr (w.heap.size+1) ⟨((G.1.take k).foldl Gt Cs).out,((G.1.take k).foldl Gt Cs).put,((G.1.take k).foldl Gt Cs).drop⟩ /\
     wr.cell? (Ad w.heap.size 0)=some (Sl E (n+1) (n+1))/\wr.cell? (Ad w.heap.size 1)=some (Sl S n n)/\Bw w wr) (λ_ i _=>n+1 - (intOf i).toNat)
 case atStart =>
  refine⟨0,AV _,rfl,rfl,⟨⟨none,0,by simp[go_sem,Cs],BL _ _ _ _⟩,by simp[go_sem],by simp[go_sem,Cs],by simp[go_sem],by simp[go_sem,Cs],by simp[go_sem]⟩,by simp[go_sem],by simp[go_sem],?_⟩;have R:=(A9 w.heap.size w).alloc (Ai _) (Oc #[Sl E (n+1) (n+1),Sl S n n] 164);have b2:=R.alloc R.size (Oc #[.slice none 0 0] 37);have b3:=b2.alloc b2.size (Oc #[.string ⟨#[]⟩] 9);exact b3.alloc b3.size _
 case round =>
  obtain⟨k,hk,rfl,rfl,hg,b0,R,hwr⟩:=hrel;have hbd:=S6 G.1 k (by rw[HN.out];exact hk);have hpt:=Zp G.1 k;have hlt:=Il hg
  by_cases hkn:k<n
  . have hkr : k<G.1.length:=by rw[HN.out];exact hkn
    have e1:=H1.out k G.1[k].1 (by rw[AX (by simpa using hkr),BD,B7 hkr];rfl);have e2:=H2.out k G.1[k].2 (by rw[BD,B7 hkr];rfl);have N:=(zC hwr E k lt1).trans e1;have c2:=(zC hwr S k lt2).trans e2;have J:(G.1.take (k+1)).foldl Gt Cs=Gt ((G.1.take k).foldl Gt Cs) G.1[k]:=by rw[AD hkr,BJ];rfl
    have hql:G.1[k].1.length<=Ep G.1:=by
     have:=Zp G.1 (k+1);rw[AD hkr,UG]at this;omega
    have hsz:=HSZ.out;generalize G.1[k]=x at *;generalize (G.1.take k).foldl Gt Cs=K at *;obtain⟨q,d⟩:=x;obtain⟨out,put,drop,keep⟩:=K;have hbd':=hbd;obtain⟨f1,f2,f3,f4,f5,f6⟩:=hbd';simp only at f1 f2 f3 f4 f5 f6 N c2 hg hql ⊢;unfold Cz at N;have hcat:=OL put q;have hcb:¬9223372036854775807<put.length+q.length:=by omega
    have Y:Hid (Bn wr (w.heap.size+1) ⟨out,put,drop⟩):=hg;obtain⟨⟨p,c,o0,o1⟩,o2,o3,o4,o5,Z⟩:=hg;have HO:Hid (wr.ownsRow (w.heap.size+1+3) 87 3 (.slice p out.length c) out.length (Cw out)):=o1;have HC:Hid (wr.cell? (Ad (w.heap.size+1) 0)=some (.slice p out.length c)):=o0;have X:=Aa hwr;have lt1':E<wr.heap.size:=AK lt1 hwr.size;have hkz:(k:Int)<(n:Int)+1:=by omega
    have hkz2:(k:Int)<(n:Int):=by omega
    have hkb:((k:Int)==(n:Int))=false:=beq_eq_false_iff_ne.2 (by omega);have hw1:IntKind.i64.wrap (drop+1)=drop+1:=by rw[BG];omega
    have hw2:IntKind.i64.wrap (keep+1)=keep+1:=by rw[BG];omega
    have hw3:IntKind.i64.wrap ((0:Int)+1)=1:=by rw[BG];rfl
    have hol:out.length<500000000:=by omega
    clear e1 e2 o1 hwr hbd hpt hsz hql
    by_cases hq:q=[]
    . cases d with
      | true =>
       by_cases z:(0:Int)<keep
       . skip
         subst hq;have hcat0:(ByteArray.mk put.toArray++ByteArray.mk #[]:ByteArray)=⟨put.toArray⟩:=by have:=OL put [];simpa using this
         have hcb0:¬9223372036854775807<put.length:=by have:=hcb;simp at this;omega
         clear hcat hcb
         go_wp2_with (at_builtin;refine wpList_append_own _ rfl _ _ 37 rfl (w.heap.size+1+3) 87 i0 (.agg #[I6 0,I6 0,.string ⟨#[]⟩]) 3 32 underlying37 hi hz0 hz1 hz2 rfl (by decide) _ _ _ rfl (HO.out.alloc _) (Ad wr.heap.size 0) 1 1 (Ed ⟨keep,0,[]⟩) rfl rfl (He _ _ _) (Gx _) (by unfold maxLen;omega) (by omega) (by first | omega | (simp;omega)) ?_)
         intro v1 L f I _;have P1:=Mi (q:=⟨keep,0,[]⟩) Y.out HC.out f I;obtain⟨l,m,H⟩:=Bm f;rw[H]at P1 ⊢;obtain⟨G1,B1,b,r1,r2⟩:=P1;have k3:=(zC b (w.heap.size+1+1) 0 (by show w.heap.size+1+1<_;omega)).trans o3;have k4:=(b.frozen (p:=(Ad (w.heap.size+1+1) 0)) (by show w.heap.size+1+1<_;omega)).trans o4;have k5:=(zC b (w.heap.size+1+2) 0 (by show w.heap.size+1+2<_;omega)).trans o5;have k6:=(b.frozen (p:=(Ad (w.heap.size+1+2) 0)) (by show w.heap.size+1+2<_;omega)).trans Z;have k7:=(zC b w.heap.size 0 (by show w.heap.size<_;omega)).trans b0;have k8:=(zC b w.heap.size 1 (by show w.heap.size<_;omega)).trans R;have k9:=(zC b E k (by show E<_;omega)).trans N;have k10:=(zC b S k (by show S<_;omega)).trans c2;have g:Hid (Bn (L.setCell (Ad (w.heap.size+1) 0) (.slice l (out.length+1) m)) (w.heap.size+1) ⟨out++[⟨keep,0,[]⟩],put,drop⟩):=G1;have j:Hid (Bw w (L.setCell (Ad (w.heap.size+1) 0) (.slice l (out.length+1) m))):=X.out.trans (B1.mono (by omega));clear f I H G1 B1 b o0 o2 o3 o4 o5 Z b0 R N Y HC HO X c2;go_wp2;have m3:=(Ce (show w.heap.size+1+1≠w.heap.size+1 by omega) (.slice l (out.length+1) m)).trans k3;have m4:(L.setCell (Ad (w.heap.size+1) 0) (.slice l (out.length+1) m)).frozen? (Ad (w.heap.size+1+1) 0)=false:=by rw[AG];exact k4
         have m5:=(Ce (show w.heap.size+1+2≠w.heap.size+1 by omega) (.slice l (out.length+1) m)).trans k5;have m6:(L.setCell (Ad (w.heap.size+1) 0) (.slice l (out.length+1) m)).frozen? (Ad (w.heap.size+1+2) 0)=false:=by rw[AG];exact k6
         have m7:=(Ce (show w.heap.size≠w.heap.size+1 by omega) (.slice l (out.length+1) m)).trans k7;have m8:=(Ce (show w.heap.size≠w.heap.size+1 by omega) (.slice l (out.length+1) m)).trans k8;have m9:=(Ce (show E≠w.heap.size+1 by omega) (.slice l (out.length+1) m)).trans k9;have m10:=(Ce (show S≠w.heap.size+1 by omega) (.slice l (out.length+1) m)).trans k10;clear k3 k4 k5 k6 k7 k8 k9 r1 r2 k10;generalize L.setCell (Ad (w.heap.size+1) 0) (.slice l (out.length+1) m)=B at *;have hl2:=Il g.out;have C:=JN g.out (put);have o:Hid (Bn (B.setCell (Ad (w.heap.size+1+1) 0) (Sx (put))) (w.heap.size+1) ⟨out++[⟨keep,0,[]⟩],put,drop⟩):=C.1;have h:Hid (Bw w (B.setCell (Ad (w.heap.size+1+1) 0) (Sx (put)))):=j.out.trans (C.2.mono (show w.heap.size<=w.heap.size+1 by omega));clear C
         go_region
         have t:Hid ((G.1.take (k+1)).foldl Gt Cs=⟨out++[⟨keep,0,[]⟩],put,drop+1,0⟩):=by
          show _=_;rw[J];show F5 (Es ⟨out,put,drop,keep⟩ [] true) true=_;unfold Es;rw[if_pos (.inr rfl)];have Q:∀(x y:List Pt),(if 0<keep then x else y)=x:=λx y=>if_pos z;have O:(if 0<keep then (0:Int) else keep)=0:=if_pos z;simp only[Q,O,AZ];rfl
         clear J;have z7:(B.setCell (Ad (w.heap.size+1+1) 0) (Sx (put))).cell? (Ad w.heap.size 0)=some (Sl E (n+1) (n+1)):=(Ce (show w.heap.size≠w.heap.size+1+1 by omega) _).trans m7;have z8:(B.setCell (Ad (w.heap.size+1+1) 0) (Sx (put))).cell? (Ad w.heap.size 1)=some (Sl S n n):=(Ce (show w.heap.size≠w.heap.size+1+1 by omega) _).trans m8;have Z7:=Aa z7;have Z8:=Aa z8;have P4:=MG o.out (drop+1);have HP4:Hid _:=MU P4.1 (A9 _ _).drew;have HP5:Hid _:=(h.out.trans (P4.2.mono (show w.heap.size<=w.heap.size+1 by omega))).drew;clear P4 z7 z8;go_wp2
         go_roundw
         case rel=>exact⟨k+1,by omega,by go_num,by rw[t.out],by rw[t.out];exact HP4.out,(Ce (show w.heap.size≠w.heap.size+1+2 by omega) _).trans Z7.out,(Ce (show w.heap.size≠w.heap.size+1+2 by omega) _).trans Z8.out,HP5.out⟩
         case measure=>simp[intOf];omega
       . skip
         subst hq;have hcat0:(ByteArray.mk put.toArray++ByteArray.mk #[]:ByteArray)=⟨put.toArray⟩:=by have:=OL put [];simpa using this
         have hcb0:¬9223372036854775807<put.length:=by have:=hcb;simp at this;omega
         clear hcat hcb;have hkp':¬(0:Int)<keep:=z;go_wp2;have m3:=o3;have m4:=o4;have m5:=o5;have m6:=Z;have m7:=b0;have m8:=R;have m9:=N;have g:=Y;have j:=X;have m10:=c2;clear o0 o2 o3 o4 o5 Z b0 R N Y HC HO X c2;obtain⟨B,F⟩:∃W,W=wr:=⟨_,rfl⟩;rw[←F]at m3 m4 m5 m6 m7 m8 m9 m10 g j lt1' ⊢;clear F;have hl2:=Il g.out;have C:=JN g.out (put);have o:Hid (Bn (B.setCell (Ad (w.heap.size+1+1) 0) (Sx (put))) (w.heap.size+1) ⟨out,put,drop⟩):=C.1;have h:Hid (Bw w (B.setCell (Ad (w.heap.size+1+1) 0) (Sx (put)))):=j.out.trans (C.2.mono (show w.heap.size<=w.heap.size+1 by omega));clear C
         go_region
         have t:Hid ((G.1.take (k+1)).foldl Gt Cs=⟨out,put,drop+1,keep⟩):=by
          show _=_;rw[J];show F5 (Es ⟨out,put,drop,keep⟩ [] true) true=_;unfold Es;rw[if_pos (.inr rfl)];have Q:∀(x y:List Pt),(if 0<keep then x else y)=y:=λx y=>if_neg (by omega);have O:(if 0<keep then (0:Int) else keep)=keep:=if_neg (by omega);simp only[Q,O,AZ];rfl
         clear J;have z7:(B.setCell (Ad (w.heap.size+1+1) 0) (Sx (put))).cell? (Ad w.heap.size 0)=some (Sl E (n+1) (n+1)):=(Ce (show w.heap.size≠w.heap.size+1+1 by omega) _).trans m7;have z8:(B.setCell (Ad (w.heap.size+1+1) 0) (Sx (put))).cell? (Ad w.heap.size 1)=some (Sl S n n):=(Ce (show w.heap.size≠w.heap.size+1+1 by omega) _).trans m8;have Z7:=Aa z7;have Z8:=Aa z8;have P4:=MG o.out (drop+1);have HP4:Hid _:=MU P4.1 (A9 _ _).drew;have HP5:Hid _:=(h.out.trans (P4.2.mono (show w.heap.size<=w.heap.size+1 by omega))).drew;clear P4 z7 z8;go_wp2
         go_roundw
         case rel=>exact⟨k+1,by omega,by go_num,by rw[t.out],by rw[t.out];exact HP4.out,(Ce (show w.heap.size≠w.heap.size+1+2 by omega) _).trans Z7.out,(Ce (show w.heap.size≠w.heap.size+1+2 by omega) _).trans Z8.out,HP5.out⟩
         case measure=>simp[intOf];omega
      | false =>
       subst hq;have hcat0:(ByteArray.mk put.toArray++ByteArray.mk #[]:ByteArray)=⟨put.toArray⟩:=by have:=OL put [];simpa using this
       have hcb0:¬9223372036854775807<put.length:=by have:=hcb;simp at this;omega
       clear hcat hcb;have m3:=o3;have m4:=o4;have m5:=o5;have m6:=Z;have m7:=b0;have m8:=R;have m9:=N;have g:=Y;have j:=X;have m10:=c2;clear o0 o2 o3 o4 o5 Z b0 R N Y HC HO X c2;obtain⟨B,F⟩:∃W,W=wr:=⟨_,rfl⟩;rw[←F]at m3 m4 m5 m6 m7 m8 m9 m10 g j lt1' ⊢;clear F;have hl2:=Il g.out;have o:=g;have h:=j;have t:Hid ((G.1.take (k+1)).foldl Gt Cs=⟨Aq ⟨out,put,drop⟩,[],0,keep+1⟩):=by
        show _=_;rw[J];show F5 (Es ⟨out,put,drop,keep⟩ [] false) false=_;unfold Es;rw[if_neg (by simp)];rfl
       clear J;have z7:=m7;have z8:=m8;have Z7:=Aa z7;have Z8:=Aa z8;have HGD:=o.out;have cD:=NU (w.heap.size+1) _ _ HGD (by show(out).length<_;first | omega | (rw[AA];show out.length+1<_;omega)) (by show 0<=drop;omega);have HL3:=h.out.size;clear z7 z8 HGD
       go_wp2_with (go_at_call 118;refine cD.mono ?_;rintro e w4 ⟨⟨v4,rfl⟩,hg4,r⟩;have HG4:=Aa hg4;have A:=Aa r;clear hg4 r)
       go_roundw
       case rel=>exact⟨k+1,by omega,by go_num,by rw[t.out]<;>first | rfl | go_num,by rw[t.out];exact HG4.out,(zC A.out w.heap.size 0 (by show w.heap.size<_;omega)).trans Z7.out,(zC A.out w.heap.size 1 (by show w.heap.size<_;omega)).trans Z8.out,h.out.trans (A.out.mono (show w.heap.size<=w.heap.size+1 by omega))⟩
       case measure=>simp[intOf];omega
    . cases d with
      | true =>
       by_cases z:(0:Int)<keep
       . skip
         have hqe:q.isEmpty=false:=by simpa using hq
         go_wp2_with (at_builtin;refine wpList_append_own _ rfl _ _ 37 rfl (w.heap.size+1+3) 87 i0 (.agg #[I6 0,I6 0,.string ⟨#[]⟩]) 3 32 underlying37 hi hz0 hz1 hz2 rfl (by decide) _ _ _ rfl (HO.out.alloc _) (Ad wr.heap.size 0) 1 1 (Ed ⟨keep,0,[]⟩) rfl rfl (He _ _ _) (Gx _) (by unfold maxLen;omega) (by omega) (by first | omega | (simp;omega)) ?_)
         intro v1 L f I _;have P1:=Mi (q:=⟨keep,0,[]⟩) Y.out HC.out f I;obtain⟨l,m,H⟩:=Bm f;rw[H]at P1 ⊢;obtain⟨G1,B1,b,r1,r2⟩:=P1;have k3:=(zC b (w.heap.size+1+1) 0 (by show w.heap.size+1+1<_;omega)).trans o3;have k4:=(b.frozen (p:=(Ad (w.heap.size+1+1) 0)) (by show w.heap.size+1+1<_;omega)).trans o4;have k5:=(zC b (w.heap.size+1+2) 0 (by show w.heap.size+1+2<_;omega)).trans o5;have k6:=(b.frozen (p:=(Ad (w.heap.size+1+2) 0)) (by show w.heap.size+1+2<_;omega)).trans Z;have k7:=(zC b w.heap.size 0 (by show w.heap.size<_;omega)).trans b0;have k8:=(zC b w.heap.size 1 (by show w.heap.size<_;omega)).trans R;have k9:=(zC b E k (by show E<_;omega)).trans N;have k10:=(zC b S k (by show S<_;omega)).trans c2;have g:Hid (Bn (L.setCell (Ad (w.heap.size+1) 0) (.slice l (out.length+1) m)) (w.heap.size+1) ⟨out++[⟨keep,0,[]⟩],put,drop⟩):=G1;have j:Hid (Bw w (L.setCell (Ad (w.heap.size+1) 0) (.slice l (out.length+1) m))):=X.out.trans (B1.mono (by omega));clear f I H G1 B1 b o0 o2 o3 o4 o5 Z b0 R N Y HC HO X c2;go_wp2;have m3:=(Ce (show w.heap.size+1+1≠w.heap.size+1 by omega) (.slice l (out.length+1) m)).trans k3;have m4:(L.setCell (Ad (w.heap.size+1) 0) (.slice l (out.length+1) m)).frozen? (Ad (w.heap.size+1+1) 0)=false:=by rw[AG];exact k4
         have m5:=(Ce (show w.heap.size+1+2≠w.heap.size+1 by omega) (.slice l (out.length+1) m)).trans k5;have m6:(L.setCell (Ad (w.heap.size+1) 0) (.slice l (out.length+1) m)).frozen? (Ad (w.heap.size+1+2) 0)=false:=by rw[AG];exact k6
         have m7:=(Ce (show w.heap.size≠w.heap.size+1 by omega) (.slice l (out.length+1) m)).trans k7;have m8:=(Ce (show w.heap.size≠w.heap.size+1 by omega) (.slice l (out.length+1) m)).trans k8;have m9:=(Ce (show E≠w.heap.size+1 by omega) (.slice l (out.length+1) m)).trans k9;have m10:=(Ce (show S≠w.heap.size+1 by omega) (.slice l (out.length+1) m)).trans k10;clear k3 k4 k5 k6 k7 k8 k9 r1 r2 k10;generalize L.setCell (Ad (w.heap.size+1) 0) (.slice l (out.length+1) m)=B at *;have hl2:=Il g.out;have C:=JN g.out (put++q);have o:Hid (Bn (B.setCell (Ad (w.heap.size+1+1) 0) (Sx (put++q))) (w.heap.size+1) ⟨out++[⟨keep,0,[]⟩],put++q,drop⟩):=C.1;have h:Hid (Bw w (B.setCell (Ad (w.heap.size+1+1) 0) (Sx (put++q)))):=j.out.trans (C.2.mono (show w.heap.size<=w.heap.size+1 by omega));clear C
         go_region
         have t:Hid ((G.1.take (k+1)).foldl Gt Cs=⟨out++[⟨keep,0,[]⟩],put++q,drop+1,0⟩):=by
          show _=_;rw[J];show F5 (Es ⟨out,put,drop,keep⟩ q true) true=_;unfold Es;rw[if_pos (.inl hq)];have Q:∀(x y:List Pt),(if 0<keep then x else y)=x:=λx y=>if_pos z;have O:(if 0<keep then (0:Int) else keep)=0:=if_pos z;simp only[Q,O];rfl
         clear J;have z7:(B.setCell (Ad (w.heap.size+1+1) 0) (Sx (put++q))).cell? (Ad w.heap.size 0)=some (Sl E (n+1) (n+1)):=(Ce (show w.heap.size≠w.heap.size+1+1 by omega) _).trans m7;have z8:(B.setCell (Ad (w.heap.size+1+1) 0) (Sx (put++q))).cell? (Ad w.heap.size 1)=some (Sl S n n):=(Ce (show w.heap.size≠w.heap.size+1+1 by omega) _).trans m8;have Z7:=Aa z7;have Z8:=Aa z8;have P4:=MG o.out (drop+1);have HP4:Hid _:=MU P4.1 (A9 _ _).drew;have HP5:Hid _:=(h.out.trans (P4.2.mono (show w.heap.size<=w.heap.size+1 by omega))).drew;clear P4 z7 z8;go_wp2
         go_roundw
         case rel=>exact⟨k+1,by omega,by go_num,by rw[t.out],by rw[t.out];exact HP4.out,(Ce (show w.heap.size≠w.heap.size+1+2 by omega) _).trans Z7.out,(Ce (show w.heap.size≠w.heap.size+1+2 by omega) _).trans Z8.out,HP5.out⟩
         case measure=>simp[intOf];omega
       . skip
         have hqe:q.isEmpty=false:=by simpa using hq
         have hkp':¬(0:Int)<keep:=z;go_wp2;have m3:=o3;have m4:=o4;have m5:=o5;have m6:=Z;have m7:=b0;have m8:=R;have m9:=N;have g:=Y;have j:=X;have m10:=c2;clear o0 o2 o3 o4 o5 Z b0 R N Y HC HO X c2;obtain⟨B,F⟩:∃W,W=wr:=⟨_,rfl⟩;rw[←F]at m3 m4 m5 m6 m7 m8 m9 m10 g j lt1' ⊢;clear F;have hl2:=Il g.out;have C:=JN g.out (put++q);have o:Hid (Bn (B.setCell (Ad (w.heap.size+1+1) 0) (Sx (put++q))) (w.heap.size+1) ⟨out,put++q,drop⟩):=C.1;have h:Hid (Bw w (B.setCell (Ad (w.heap.size+1+1) 0) (Sx (put++q)))):=j.out.trans (C.2.mono (show w.heap.size<=w.heap.size+1 by omega));clear C
         go_region
         have t:Hid ((G.1.take (k+1)).foldl Gt Cs=⟨out,put++q,drop+1,keep⟩):=by
          show _=_;rw[J];show F5 (Es ⟨out,put,drop,keep⟩ q true) true=_;unfold Es;rw[if_pos (.inl hq)];have Q:∀(x y:List Pt),(if 0<keep then x else y)=y:=λx y=>if_neg (by omega);have O:(if 0<keep then (0:Int) else keep)=keep:=if_neg (by omega);simp only[Q,O];rfl
         clear J;have z7:(B.setCell (Ad (w.heap.size+1+1) 0) (Sx (put++q))).cell? (Ad w.heap.size 0)=some (Sl E (n+1) (n+1)):=(Ce (show w.heap.size≠w.heap.size+1+1 by omega) _).trans m7;have z8:(B.setCell (Ad (w.heap.size+1+1) 0) (Sx (put++q))).cell? (Ad w.heap.size 1)=some (Sl S n n):=(Ce (show w.heap.size≠w.heap.size+1+1 by omega) _).trans m8;have Z7:=Aa z7;have Z8:=Aa z8;have P4:=MG o.out (drop+1);have HP4:Hid _:=MU P4.1 (A9 _ _).drew;have HP5:Hid _:=(h.out.trans (P4.2.mono (show w.heap.size<=w.heap.size+1 by omega))).drew;clear P4 z7 z8;go_wp2
         go_roundw
         case rel=>exact⟨k+1,by omega,by go_num,by rw[t.out],by rw[t.out];exact HP4.out,(Ce (show w.heap.size≠w.heap.size+1+2 by omega) _).trans Z7.out,(Ce (show w.heap.size≠w.heap.size+1+2 by omega) _).trans Z8.out,HP5.out⟩
         case measure=>simp[intOf];omega
      | false =>
       by_cases z:(0:Int)<keep
       . skip
         have hqe:q.isEmpty=false:=by simpa using hq
         go_wp2_with (at_builtin;refine wpList_append_own _ rfl _ _ 37 rfl (w.heap.size+1+3) 87 i0 (.agg #[I6 0,I6 0,.string ⟨#[]⟩]) 3 32 underlying37 hi hz0 hz1 hz2 rfl (by decide) _ _ _ rfl (HO.out.alloc _) (Ad wr.heap.size 0) 1 1 (Ed ⟨keep,0,[]⟩) rfl rfl (He _ _ _) (Gx _) (by unfold maxLen;omega) (by omega) (by first | omega | (simp;omega)) ?_)
         intro v1 L f I _;have P1:=Mi (q:=⟨keep,0,[]⟩) Y.out HC.out f I;obtain⟨l,m,H⟩:=Bm f;rw[H]at P1 ⊢;obtain⟨G1,B1,b,r1,r2⟩:=P1;have k3:=(zC b (w.heap.size+1+1) 0 (by show w.heap.size+1+1<_;omega)).trans o3;have k4:=(b.frozen (p:=(Ad (w.heap.size+1+1) 0)) (by show w.heap.size+1+1<_;omega)).trans o4;have k5:=(zC b (w.heap.size+1+2) 0 (by show w.heap.size+1+2<_;omega)).trans o5;have k6:=(b.frozen (p:=(Ad (w.heap.size+1+2) 0)) (by show w.heap.size+1+2<_;omega)).trans Z;have k7:=(zC b w.heap.size 0 (by show w.heap.size<_;omega)).trans b0;have k8:=(zC b w.heap.size 1 (by show w.heap.size<_;omega)).trans R;have k9:=(zC b E k (by show E<_;omega)).trans N;have k10:=(zC b S k (by show S<_;omega)).trans c2;have g:Hid (Bn (L.setCell (Ad (w.heap.size+1) 0) (.slice l (out.length+1) m)) (w.heap.size+1) ⟨out++[⟨keep,0,[]⟩],put,drop⟩):=G1;have j:Hid (Bw w (L.setCell (Ad (w.heap.size+1) 0) (.slice l (out.length+1) m))):=X.out.trans (B1.mono (by omega));clear f I H G1 B1 b o0 o2 o3 o4 o5 Z b0 R N Y HC HO X c2;go_wp2;have m3:=(Ce (show w.heap.size+1+1≠w.heap.size+1 by omega) (.slice l (out.length+1) m)).trans k3;have m4:(L.setCell (Ad (w.heap.size+1) 0) (.slice l (out.length+1) m)).frozen? (Ad (w.heap.size+1+1) 0)=false:=by rw[AG];exact k4
         have m5:=(Ce (show w.heap.size+1+2≠w.heap.size+1 by omega) (.slice l (out.length+1) m)).trans k5;have m6:(L.setCell (Ad (w.heap.size+1) 0) (.slice l (out.length+1) m)).frozen? (Ad (w.heap.size+1+2) 0)=false:=by rw[AG];exact k6
         have m7:=(Ce (show w.heap.size≠w.heap.size+1 by omega) (.slice l (out.length+1) m)).trans k7;have m8:=(Ce (show w.heap.size≠w.heap.size+1 by omega) (.slice l (out.length+1) m)).trans k8;have m9:=(Ce (show E≠w.heap.size+1 by omega) (.slice l (out.length+1) m)).trans k9;have m10:=(Ce (show S≠w.heap.size+1 by omega) (.slice l (out.length+1) m)).trans k10;clear k3 k4 k5 k6 k7 k8 k9 r1 r2 k10;generalize L.setCell (Ad (w.heap.size+1) 0) (.slice l (out.length+1) m)=B at *;have hl2:=Il g.out;have C:=JN g.out (put++q);have o:Hid (Bn (B.setCell (Ad (w.heap.size+1+1) 0) (Sx (put++q))) (w.heap.size+1) ⟨out++[⟨keep,0,[]⟩],put++q,drop⟩):=C.1;have h:Hid (Bw w (B.setCell (Ad (w.heap.size+1+1) 0) (Sx (put++q)))):=j.out.trans (C.2.mono (show w.heap.size<=w.heap.size+1 by omega));clear C
         go_region
         have t:Hid ((G.1.take (k+1)).foldl Gt Cs=⟨Aq ⟨out++[⟨keep,0,[]⟩],put++q,drop⟩,[],0,0+1⟩):=by
          show _=_;rw[J];show F5 (Es ⟨out,put,drop,keep⟩ q false) false=_;unfold Es;rw[if_pos (.inl hq)];have Q:∀(x y:List Pt),(if 0<keep then x else y)=x:=λx y=>if_pos z;have O:(if 0<keep then (0:Int) else keep)=0:=if_pos z;simp only[Q,O];rfl
         clear J;have z7:(B.setCell (Ad (w.heap.size+1+1) 0) (Sx (put++q))).cell? (Ad w.heap.size 0)=some (Sl E (n+1) (n+1)):=(Ce (show w.heap.size≠w.heap.size+1+1 by omega) _).trans m7;have z8:(B.setCell (Ad (w.heap.size+1+1) 0) (Sx (put++q))).cell? (Ad w.heap.size 1)=some (Sl S n n):=(Ce (show w.heap.size≠w.heap.size+1+1 by omega) _).trans m8;have Z7:=Aa z7;have Z8:=Aa z8;have HGD:=MU o.out (A9 _ _).drew;have cD:=NU (w.heap.size+1) _ _ HGD (by show(out++[(⟨keep,0,[]⟩:Pt)]).length<_;first | omega | (rw[AA];show out.length+1<_;omega)) (by show 0<=drop;omega);have HL3:=h.out.size;clear z7 z8 HGD
         go_wp2_with (go_at_call 118;refine cD.mono ?_;rintro e w4 ⟨⟨v4,rfl⟩,hg4,r⟩;have HG4:=Aa hg4;have A:=Aa r;clear hg4 r)
         go_roundw
         case rel=>exact⟨k+1,by omega,by go_num,by rw[t.out]<;>first | rfl | go_num,by rw[t.out];exact HG4.out,(zC A.out w.heap.size 0 (by show w.heap.size<_;omega)).trans Z7.out,(zC A.out w.heap.size 1 (by show w.heap.size<_;omega)).trans Z8.out,h.out.drew.trans (A.out.mono (show w.heap.size<=w.heap.size+1 by omega))⟩
         case measure=>simp[intOf];omega
       . skip
         have hqe:q.isEmpty=false:=by simpa using hq
         have hkp':¬(0:Int)<keep:=z;go_wp2;have m3:=o3;have m4:=o4;have m5:=o5;have m6:=Z;have m7:=b0;have m8:=R;have m9:=N;have g:=Y;have j:=X;have m10:=c2;clear o0 o2 o3 o4 o5 Z b0 R N Y HC HO X c2;obtain⟨B,F⟩:∃W,W=wr:=⟨_,rfl⟩;rw[←F]at m3 m4 m5 m6 m7 m8 m9 m10 g j lt1' ⊢;clear F;have hl2:=Il g.out;have C:=JN g.out (put++q);have o:Hid (Bn (B.setCell (Ad (w.heap.size+1+1) 0) (Sx (put++q))) (w.heap.size+1) ⟨out,put++q,drop⟩):=C.1;have h:Hid (Bw w (B.setCell (Ad (w.heap.size+1+1) 0) (Sx (put++q)))):=j.out.trans (C.2.mono (show w.heap.size<=w.heap.size+1 by omega));clear C
         go_region
         have t:Hid ((G.1.take (k+1)).foldl Gt Cs=⟨Aq ⟨out,put++q,drop⟩,[],0,keep+1⟩):=by
          show _=_;rw[J];show F5 (Es ⟨out,put,drop,keep⟩ q false) false=_;unfold Es;rw[if_pos (.inl hq)];have Q:∀(x y:List Pt),(if 0<keep then x else y)=y:=λx y=>if_neg (by omega);have O:(if 0<keep then (0:Int) else keep)=keep:=if_neg (by omega);simp only[Q,O];rfl
         clear J;have z7:(B.setCell (Ad (w.heap.size+1+1) 0) (Sx (put++q))).cell? (Ad w.heap.size 0)=some (Sl E (n+1) (n+1)):=(Ce (show w.heap.size≠w.heap.size+1+1 by omega) _).trans m7;have z8:(B.setCell (Ad (w.heap.size+1+1) 0) (Sx (put++q))).cell? (Ad w.heap.size 1)=some (Sl S n n):=(Ce (show w.heap.size≠w.heap.size+1+1 by omega) _).trans m8;have Z7:=Aa z7;have Z8:=Aa z8;have HGD:=MU o.out (A9 _ _).drew;have cD:=NU (w.heap.size+1) _ _ HGD (by show(out).length<_;first | omega | (rw[AA];show out.length+1<_;omega)) (by show 0<=drop;omega);have HL3:=h.out.size;clear z7 z8 HGD
         go_wp2_with (go_at_call 118;refine cD.mono ?_;rintro e w4 ⟨⟨v4,rfl⟩,hg4,r⟩;have HG4:=Aa hg4;have A:=Aa r;clear hg4 r)
         go_roundw
         case rel=>exact⟨k+1,by omega,by go_num,by rw[t.out]<;>first | rfl | go_num,by rw[t.out];exact HG4.out,(zC A.out w.heap.size 0 (by show w.heap.size<_;omega)).trans Z7.out,(zC A.out w.heap.size 1 (by show w.heap.size<_;omega)).trans Z8.out,h.out.drew.trans (A.out.mono (show w.heap.size<=w.heap.size+1 by omega))⟩
         case measure=>simp[intOf];omega
  . have hke:k=n:=by omega
    have e1:=H1.out k G.2 (by rw[AL (by rw[BS,HN.out];omega),BS,HN.out,hke,BP];rfl);have N:=(zC hwr E k lt1).trans e1;have hta:G.1.take k=G.1:=AQ (by rw[HN.out];omega);rw[hta]at hg hbd ⊢;have HGP:Hid (JA G=Is (Es (G.1.foldl Gt Cs) G.2 false)):=by show _=_;rfl
    have hql:=HSZ.out;generalize G.2=q at *;generalize G.1.foldl Gt Cs=K at *;obtain⟨out,put,drop,keep⟩:=K;have hbd':=hbd;obtain⟨f1,f2,f3,f4,f5,f6⟩:=hbd';simp only at f1 f2 f3 f4 f5 f6 N hg ⊢;unfold Cz at N;have hcat:=OL put q;have hcb:¬9223372036854775807<put.length+q.length:=by omega
    have Y:Hid (Bn wr (w.heap.size+1) ⟨out,put,drop⟩):=hg;obtain⟨⟨p,c,o0,o1⟩,o2,o3,o4,o5,Z⟩:=hg;have HO:Hid (wr.ownsRow (w.heap.size+1+3) 87 3 (.slice p out.length c) out.length (Cw out)):=o1;have HC:Hid (wr.cell? (Ad (w.heap.size+1) 0)=some (.slice p out.length c)):=o0;have X:=Aa hwr;have lt1':E<wr.heap.size:=AK lt1 hwr.size;have hkz:(k:Int)<(n:Int)+1:=by omega
    have hkz2:¬(k:Int)<(n:Int):=by omega
    have hkb:((k:Int)==(n:Int))=true:=beq_iff_eq.2 (by omega);have hol:out.length<500000000:=by omega
    clear e1 o1 hwr hbd hpt hql hta hke
    by_cases hq:q=[]
    . by_cases z:(0:Int)<keep
      . skip
        have hqe:q.isEmpty=true:=by simpa using hq
        have P:Hid (JA G=Aq ⟨out++[⟨keep,0,[]⟩],put,drop⟩):=by
         show _=_;rw[HGP.out];simp[Is,Es,hq,z]
        go_wp2_with (at_builtin;refine wpList_append_own _ rfl _ _ 37 rfl (w.heap.size+1+3) 87 i0 (.agg #[I6 0,I6 0,.string ⟨#[]⟩]) 3 32 underlying37 hi hz0 hz1 hz2 rfl (by decide) _ _ _ rfl (HO.out.alloc _) (Ad wr.heap.size 0) 1 1 (Ed ⟨keep,0,[]⟩) rfl rfl (He _ _ _) (Gx _) (by unfold maxLen;omega) (by omega) (by first | omega | (simp;omega)) ?_)
        intro v1 L f I _;have P1:=Mi (q:=⟨keep,0,[]⟩) Y.out HC.out f I;obtain⟨l,m,H⟩:=Bm f;rw[H]at P1 ⊢;obtain⟨G1,B1,b,r1,r2⟩:=P1;have k3:=(zC b (w.heap.size+1+1) 0 (by show w.heap.size+1+1<_;omega)).trans o3;have k4:=(b.frozen (p:=(Ad (w.heap.size+1+1) 0)) (by show w.heap.size+1+1<_;omega)).trans o4;have k5:=(zC b (w.heap.size+1+2) 0 (by show w.heap.size+1+2<_;omega)).trans o5;have k6:=(b.frozen (p:=(Ad (w.heap.size+1+2) 0)) (by show w.heap.size+1+2<_;omega)).trans Z;have k7:=(zC b w.heap.size 0 (by show w.heap.size<_;omega)).trans b0;have k8:=(zC b w.heap.size 1 (by show w.heap.size<_;omega)).trans R;have k9:=(zC b E k (by show E<_;omega)).trans N;have g:Hid (Bn (L.setCell (Ad (w.heap.size+1) 0) (.slice l (out.length+1) m)) (w.heap.size+1) ⟨out++[⟨keep,0,[]⟩],put,drop⟩):=G1;have j:Hid (Bw w (L.setCell (Ad (w.heap.size+1) 0) (.slice l (out.length+1) m))):=X.out.trans (B1.mono (by omega));clear f I H G1 B1 b o0 o2 o3 o4 o5 Z b0 R N Y HC HO X;have o:=g;have h:=j;have cD:=NU (w.heap.size+1) _ _ o.out (by show(out++[(⟨keep,0,[]⟩:Pt)]).length<_;first | omega | (rw[AA];show out.length+1<_;omega)) (by show 0<=drop;omega)
        go_wp2_with (go_at_call 118;refine cD.mono ?_;rintro e w4 ⟨⟨v4,rfl⟩,⟨⟨p4,c4,h40,h41⟩,_⟩,r⟩;have A:=Aa r;clear r)
        go_ret;exact⟨_,rfl,by rw[P.out];exact J8 h41 (by omega),h.out.trans (A.out.mono (show w.heap.size<=w.heap.size+1 by omega))⟩
      . skip
        have hqe:q.isEmpty=true:=by simpa using hq
        have hkp':¬(0:Int)<keep:=z;have P:Hid (JA G=Aq ⟨out,put,drop⟩):=by
         show _=_;rw[HGP.out];simp[Is,Es,hq,z]
        have o:=Y;have h:=X;have cD:=NU (w.heap.size+1) _ _ o.out (by show(out).length<_;first | omega | (rw[AA];show out.length+1<_;omega)) (by show 0<=drop;omega)
        go_wp2_with (go_at_call 118;refine cD.mono ?_;rintro e w4 ⟨⟨v4,rfl⟩,⟨⟨p4,c4,h40,h41⟩,_⟩,r⟩;have A:=Aa r;clear r)
        go_ret;exact⟨_,rfl,by rw[P.out];exact J8 h41 (by omega),h.out.trans (A.out.mono (show w.heap.size<=w.heap.size+1 by omega))⟩
    . by_cases z:(0:Int)<keep
      . skip
        have hqe:q.isEmpty=false:=by simpa using hq
        have P:Hid (JA G=Aq ⟨out++[⟨keep,0,[]⟩],put++q,drop⟩):=by
         show _=_;rw[HGP.out];simp[Is,Es,hq,z]
        go_wp2_with (at_builtin;refine wpList_append_own _ rfl _ _ 37 rfl (w.heap.size+1+3) 87 i0 (.agg #[I6 0,I6 0,.string ⟨#[]⟩]) 3 32 underlying37 hi hz0 hz1 hz2 rfl (by decide) _ _ _ rfl (HO.out.alloc _) (Ad wr.heap.size 0) 1 1 (Ed ⟨keep,0,[]⟩) rfl rfl (He _ _ _) (Gx _) (by unfold maxLen;omega) (by omega) (by first | omega | (simp;omega)) ?_)
        intro v1 L f I _;have P1:=Mi (q:=⟨keep,0,[]⟩) Y.out HC.out f I;obtain⟨l,m,H⟩:=Bm f;rw[H]at P1 ⊢;obtain⟨G1,B1,b,r1,r2⟩:=P1;have k3:=(zC b (w.heap.size+1+1) 0 (by show w.heap.size+1+1<_;omega)).trans o3;have k4:=(b.frozen (p:=(Ad (w.heap.size+1+1) 0)) (by show w.heap.size+1+1<_;omega)).trans o4;have k5:=(zC b (w.heap.size+1+2) 0 (by show w.heap.size+1+2<_;omega)).trans o5;have k6:=(b.frozen (p:=(Ad (w.heap.size+1+2) 0)) (by show w.heap.size+1+2<_;omega)).trans Z;have k7:=(zC b w.heap.size 0 (by show w.heap.size<_;omega)).trans b0;have k8:=(zC b w.heap.size 1 (by show w.heap.size<_;omega)).trans R;have k9:=(zC b E k (by show E<_;omega)).trans N;have g:Hid (Bn (L.setCell (Ad (w.heap.size+1) 0) (.slice l (out.length+1) m)) (w.heap.size+1) ⟨out++[⟨keep,0,[]⟩],put,drop⟩):=G1;have j:Hid (Bw w (L.setCell (Ad (w.heap.size+1) 0) (.slice l (out.length+1) m))):=X.out.trans (B1.mono (by omega));clear f I H G1 B1 b o0 o2 o3 o4 o5 Z b0 R N Y HC HO X;go_wp2;have m3:=(Ce (show w.heap.size+1+1≠w.heap.size+1 by omega) (.slice l (out.length+1) m)).trans k3;have m4:(L.setCell (Ad (w.heap.size+1) 0) (.slice l (out.length+1) m)).frozen? (Ad (w.heap.size+1+1) 0)=false:=by rw[AG];exact k4
        have m5:=(Ce (show w.heap.size+1+2≠w.heap.size+1 by omega) (.slice l (out.length+1) m)).trans k5;have m6:(L.setCell (Ad (w.heap.size+1) 0) (.slice l (out.length+1) m)).frozen? (Ad (w.heap.size+1+2) 0)=false:=by rw[AG];exact k6
        have m7:=(Ce (show w.heap.size≠w.heap.size+1 by omega) (.slice l (out.length+1) m)).trans k7;have m8:=(Ce (show w.heap.size≠w.heap.size+1 by omega) (.slice l (out.length+1) m)).trans k8;have m9:=(Ce (show E≠w.heap.size+1 by omega) (.slice l (out.length+1) m)).trans k9;clear k3 k4 k5 k6 k7 k8 k9 r1 r2;generalize L.setCell (Ad (w.heap.size+1) 0) (.slice l (out.length+1) m)=B at *;have hl2:=Il g.out;have C:=JN g.out (put++q);have o:Hid (Bn (B.setCell (Ad (w.heap.size+1+1) 0) (Sx (put++q))) (w.heap.size+1) ⟨out++[⟨keep,0,[]⟩],put++q,drop⟩):=C.1;have h:Hid (Bw w (B.setCell (Ad (w.heap.size+1+1) 0) (Sx (put++q)))):=j.out.trans (C.2.mono (show w.heap.size<=w.heap.size+1 by omega));clear C
        go_region
        have cD:=NU (w.heap.size+1) _ _ (MU o.out (A9 _ _).drew) (by show(out++[(⟨keep,0,[]⟩:Pt)]).length<_;first | omega | (rw[AA];show out.length+1<_;omega)) (by show 0<=drop;omega)
        go_wp2_with (go_at_call 118;refine cD.mono ?_;rintro e w4 ⟨⟨v4,rfl⟩,⟨⟨p4,c4,h40,h41⟩,_⟩,r⟩;have A:=Aa r;clear r)
        go_ret;exact⟨_,rfl,by rw[P.out];exact J8 h41 (by omega),h.out.drew.trans (A.out.mono (show w.heap.size<=w.heap.size+1 by omega))⟩
      . skip
        have hqe:q.isEmpty=false:=by simpa using hq
        have hkp':¬(0:Int)<keep:=z;have P:Hid (JA G=Aq ⟨out,put++q,drop⟩):=by
         show _=_;rw[HGP.out];simp[Is,Es,hq,z]
        go_wp2;have m3:=o3;have m4:=o4;have m5:=o5;have m6:=Z;have m7:=b0;have m8:=R;have m9:=N;have g:=Y;have j:=X;clear o0 o2 o3 o4 o5 Z b0 R N Y HC HO X;obtain⟨B,F⟩:∃W,W=wr:=⟨_,rfl⟩;rw[←F]at m3 m4 m5 m6 m7 m8 m9 g j lt1' ⊢;clear F;have hl2:=Il g.out;have C:=JN g.out (put++q);have o:Hid (Bn (B.setCell (Ad (w.heap.size+1+1) 0) (Sx (put++q))) (w.heap.size+1) ⟨out,put++q,drop⟩):=C.1;have h:Hid (Bw w (B.setCell (Ad (w.heap.size+1+1) 0) (Sx (put++q)))):=j.out.trans (C.2.mono (show w.heap.size<=w.heap.size+1 by omega));clear C
        go_region
        have cD:=NU (w.heap.size+1) _ _ (MU o.out (A9 _ _).drew) (by show(out).length<_;first | omega | (rw[AA];show out.length+1<_;omega)) (by show 0<=drop;omega)
        go_wp2_with (go_at_call 118;refine cD.mono ?_;rintro e w4 ⟨⟨v4,rfl⟩,⟨⟨p4,c4,h40,h41⟩,_⟩,r⟩;have A:=Aa r;clear r)
        go_ret;exact⟨_,rfl,by rw[P.out];exact J8 h41 (by omega),h.out.drew.trans (A.out.mono (show w.heap.size<=w.heap.size+1 by omega))⟩
theorem E5{w w':World}{v:Value}{ps:List Pt}(h:Ae w v ps)(b:Bw w w'):Ae w' v ps:=Ec h b (Ai _)
theorem SA(ps:List Pt): -9223372036854775808<=(Be ps).1/\(Be ps).1<9223372036854775808:=by
 unfold Be
 rcases List.eq_nil_or_concat ps with rfl|⟨l,p,rfl⟩
 . simp
 . rw[List.concat_eq_append,BJ]
   show -9223372036854775808<=IntKind.i64.wrap _/\IntKind.i64.wrap _<_;rw[BG];omega
theorem UV(d:Bool):∀(n:Nat)(g:Dj),Ep (D6 d n g).1+(D6 d n g).2.length=Ep g.1+g.2.length
 | 0,_=>rfl
 | n+1,g=>by
  rw[D6,UV d n];show Ep (g.1++[(g.2,d)])+0=_;rw[UG];rfl
theorem QP(ps:List Pt)(h:∀p∈ps,Ek p):((Ep (Bk ps).1+(Bk ps).2.length:Nat):Int)<=Bj ps:=by
 have b:∀k,k<=ps.length->((Ep (Bk (ps.take k)).1+(Bk (ps.take k)).2.length:Nat):Int)<=Bj (ps.take k):=by
  intro k
  induction k with
  | zero=>intro _;simp[Bk,Ep,Bj]
  | succ k ih =>
   intro f;have l:=ih (by omega);have d:=h _ (BE (show k<ps.length by omega));rw[AD (by omega),QS,NC];generalize ps[k]=q at *;generalize Bk (ps.take k)=g at *;obtain⟨j,i⟩:=d;have c:Ee q=q.keep+q.drop+q.put.length:=rfl;have e:Ep (F0 g q).1+(F0 g q).2.length=Ep g.1+(g.2.length+q.put.length):=by
    unfold F0;rw[UV,UV];show Ep g.1+(g.2++q.put).length=_;rw[AA]
   rw[e];omega
 have:=b ps.length (Ai _);rwa[BV]at this
theorem OX(v:Value)(ps:List Pt)(w:World)(r:Ae w v ps)(h:∀p∈ps,Ek p)(x:Bj ps<10000000)(t:ps.length<10000000) :
    Cg 119 #[v] w λe w'=>∃g,e=.returned g/\Bw w w' /\
     Cg 84 #[g] w' λe f=>∃l,e=.returned l/\f.ownsRow w'.heap.size 87 3 l (Ag ps).length (Cw (Ag ps))/\Bw w' f:=by
 refine(Qr v ps w r h x t _ rfl).mono ?_;rintro e w' ⟨j,k,rfl,m,n,o⟩;refine⟨_,rfl,o,?_⟩;have z:=QP ps h;have y:=(Mg ps h (by omega)).2.2.1
 have := Yo j k (Bk ps).1.length (Bk ps) w' rfl (by omega) (by omega)
  (λi q c=>by
    have b:=(De c);rw[AA,BS,DN]at b;rw[m.cellAt i (by omega),BD];have e:Ez (Bk ps).1.length (Bk ps)=(Bk ps).1.map (·.1)++[(Bk ps).2]:=by simp[Ez]
    rw[e,c]
    rfl)
  (λi d c=>by
    have b:=(De c);rw[BS]at b;rw[n.cellAt i (by omega),BD];have e:Gj (Bk ps).1.length (Bk ps)=(Bk ps).1.map (·.2):=by simp[Gj]
    rw[e,c]
    rfl)
  (m.lt j rfl).2 (n.lt k rfl).2
 rw[jc ps h]at this;exact this
section
attribute [local go_sem] Oper.semAt_some
def Dy (a b:List Pt):Int:=if chkE a (Be a).1=0 then chkE b (Be b).1 else chkE a (Be a).1
theorem MI(p:Pt)(w:World):Cg 115 #[Cv p] w (Rt w (.bool (decide (p.put≠[])))):=by
 obtain⟨K,D,U⟩:=p;have b:(ByteArray.mk U.toArray).size=U.length:=by simp[ByteArray.size]
 unfold Cv
 go_enter func115,ntmps115
 go_wp2;go_ret;exact⟨by cases U<;>simp,zA _ _⟩
theorem OK(p:Pt)(w:World)(b:0<=p.keep/\0<=p.drop)(c:p.keep+p.drop+p.put.length<4611686018427387904):Cg 156 #[Cv p] w (Rt w (I6 (p.keep+p.drop+p.put.length))):=by
 obtain⟨K,D,U⟩:=p;simp only at b c;obtain⟨f,e⟩:=b;have d:(ByteArray.mk U.toArray).size=U.length:=by simp[ByteArray.size]
 unfold Cv
 go_enter func156,ntmps156
 go_wp2;go_ret;exact⟨rfl,zA _ _⟩
theorem NW(z y:Value)(a b:List Pt)(w:World)(G:Lib.Utf8Tabs 1 2 w)(B:Ae w z a)(F:Ae w y b)(x:∀p∈a,Cp p)(A:∀p∈b,Cp p)(I:a.length<10000000)(J:b.length<10000000) :
    Cg 110 #[z,y] w (Rt w (Ao (Dy a b))):=by
 have n:=Aa λi (l:Bw w i)=>Jr z a i (E5 B l) I;have k:=Aa λi (l:Bw w i)=>Jr y b i (E5 F l) J;have g:=Aa λi (l:Bw w i)=>L3 z a _ i (Go.Proofs.Utf8Tabs_below G l) (E5 B l) x (SA a) I;have h:=Aa λi (l:Bw w i)=>L3 y b _ i (Go.Proofs.Utf8Tabs_below G l) (E5 F l) A (SA b) J;obtain⟨R,j⟩:∃R,R=Dy a b:=⟨_,rfl⟩;rw[←j];unfold Dy at j;generalize chkE a (Be a).1=E1 at g j;generalize chkE b (Be b).1=E2 at h j;generalize (Be a).1=A1 at n g;generalize (Be a).2=A2 at n;generalize (Be b).1=B1 at k h;generalize (Be b).2=B2 at k;obtain⟨N,S,rfl,_⟩:=B;obtain⟨O,Q,rfl,_⟩:=F;clear G x A
 by_cases r:E1=0
 . rw [if_pos r]at j
   have t:Ao E1=.nilIface:=by unfold Ao;rw[if_pos r]
   rw[t]at g;obtain⟨V,d⟩:∃V,Ao R=V:=⟨_,rfl⟩;rw[←j,d]at h;rw[d];clear t d j r
   go_enter func110,ntmps110
   go_wp2_with (first
    | (have _:=m;go_at_call 68;refine(h.out _ m.out).mono ?_;rintro e P ⟨rfl,E⟩;have H:=Aa (m.out.trans (E.mono m.out.size)))
    | (have _:=f;go_at_call 43;refine(k.out _ f.out).mono ?_;rintro e L ⟨rfl,C⟩;have m:=Aa (f.out.trans (C.mono f.out.size)))
    | (have _:=c;go_at_call 68;refine(g.out _ c.out).mono ?_;rintro e A ⟨rfl,q⟩;have f:=Aa (c.out.trans (q.mono c.out.size)))
    | (go_at_call 43;refine(n.out _ (A9 _ _)).mono ?_;rintro e x ⟨rfl,o⟩;have c:=Aa o))
   go_ret;exact⟨rfl,H.out⟩
 . rw [if_neg r]at j
   have t:Ao E1=.iface 30 (I6 E1):=by unfold Ao;rw[if_neg r]
   rw[t]at g;have d:Ao R=.iface 30 (I6 E1):=by rw[j];exact t
   rw[d];clear t d j r h k
   go_enter func110,ntmps110
   go_wp2_with (first
    | (have _:=c;go_at_call 68;refine(g.out _ c.out).mono ?_;rintro e A ⟨rfl,q⟩;have f:=Aa (c.out.trans (q.mono c.out.size)))
    | (go_at_call 43;refine(n.out _ (A9 _ _)).mono ?_;rintro e x ⟨rfl,o⟩;have c:=Aa o))
   go_ret;exact⟨rfl,f.out⟩
end
end Go.Proofs.YtkcpjanmemdjlaaGreatDoor
