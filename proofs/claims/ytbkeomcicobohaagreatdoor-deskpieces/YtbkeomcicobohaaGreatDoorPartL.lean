/-
  A part of the texts that the proof uses.
-/
import Derived.Test.YtbkeomcicobohaaGreatDoorPartK
set_option maxRecDepth 100000
set_option maxHeartbeats 40000000
set_option linter.unusedVariables false
namespace Go.Proofs.YtbkeomcicobohaaGreatDoor
open Go.Proofs.Tryz Go.RowKit Go.Maps
def Jke (v:Jdx):Prop:=∀(S:DkS) (k:Nat) (ws:List (List UInt8)),DInv k S->(∀s∈ws.drop 1,s.length<=1999)->DInv (k+1) (v S ws).1
theorem JcB{v:Jdx}(h:∀S ws,(v S ws).1=S):Jke v:=λS k ws hd _=>by rw[h];exact hd.more
theorem Jhb{E:DkS->Int->Int}{f:DkS->Int->DkS}(h:∀(S:DkS)(k:Nat)(j:Int),DInv k S->E S j=0->DInv (k+1) (f S j)):Jke (oneV E f):=λS k ws hd _=>by
 unfold oneV
 cases numW (wd ws 1) with
 | none=>exact hd.more
 | some j =>
  simp only
  by_cases h0:E S j=0
  . rw[if_pos h0];exact h S k j hd h0
  . rw[if_neg h0];exact hd.more
theorem Jvm{n:Nat}{k:Int}(h:inR n k=0):0<=k/\k<(n:Int):=by
 unfold inR at h
 split at h
 . assumption
 . cases h
theorem Jvd:Jke sendV:=Jhb λS k j hd h0=>by
 obtain⟨n,D,a,b,c,d⟩:=hd;have:=Jvm h0;obtain⟨_,_,_,_,e⟩:=Jdp S.R (askP S.R j.toNat);have:=Jfj S.R (askP S.R j.toNat);exact⟨n,D,by omega,b.sendK (by omega),by show potR (JdO S.R j.toNat)<=_;unfold JdO;omega,by show(JdO S.R j.toNat).cl.length<=6;unfold JdO;rw[e];exact d⟩
theorem JoQ:Jke Jt8:=Jhb λS k j hd h0=>by
 obtain⟨n,D,a,b,c,d⟩:=hd;obtain⟨D',h1,h3,h4,h5⟩:=b.deliv j.toNat;refine⟨n,D',by omega,h1,?_,by show(Jcn S.l0 S.R j.toNat).cl.length<=6;rw[h4];exact d⟩;show potR (Jcn S.l0 S.R j.toNat)<=_;have hf:=h1.few;unfold Jcn at hf ⊢
 cases hp:S.R.fl[j.toNat]? with
 | none=>simp only;omega
 | some p =>
  rw[hp]at hf;simp only at hf ⊢;have a:=(JgT S.l0 (outR S.R j.toNat) p hf).1;have b:=JoF S.R j.toNat;have c:=(Jm6 p).2
  split at a<;>omega
theorem Jve:Jke loseV:=Jhb λS k j hd h0=>by
 obtain⟨n,D,a,b,c,d⟩:=hd;have:=JoF S.R j.toNat;exact⟨n,D,by omega,b.out _,by show potR (outR S.R j.toNat)<=_;omega,d⟩
theorem Jtd:Jke Jse:=Jhb λS k j hd h0=>by
 obtain⟨n,D,a,b,c,d⟩:=hd;show DInv (k+1) { S with R:=Jlt S.R j.toNat };unfold Jlt
 cases hp:S.R.fl[j.toNat]? with
 | none=>exact⟨n,D,by omega,b,by simp only;omega,d⟩
 | some p =>
  obtain⟨_,_,_,_,e⟩:=Jdp S.R p;have:=Jfj S.R p;exact⟨n,D,by omega,b.twice hp,by show potR (JbK S.R p)<=_;omega,by show(JbK S.R p).cl.length<=6;rw[e];exact d⟩
theorem Jte:Jke Js7:=λS k ws hd _=>by
 obtain⟨n,D,a,b,c,d⟩:=hd;obtain⟨D',h1,h3,h4,h5,h6⟩:=b.quiet;exact⟨n,D',by omega,h1,by show potR (JeI S.l0 S.R)<=_;omega,by show(JeI S.l0 S.R).cl.length<=6;rw[h4];exact d⟩
theorem JpO{t:List UInt8}{us:List Int}(hok:(scan t).2=true)(ht:t.length<=2000)(hu:us.all Jl3=true)(hl:us.length<=6)(k:Nat):DInv k (newS t us):=by
 obtain⟨h1,_,h3⟩:=Jrq (JfR hok) ht (us:=us) λu h=>by have:=List.all_eq_true.1 hu u h;unfold Jl3 at this;show u=1\/u=2\/u=3;exact of_decide_eq_true this
 exact⟨0,[t],by omega,h1,by show potR (Jdi t us)<=_;omega,by show(us.map _).length<=6;rw[List.length_map];exact hl⟩
theorem Jtf:Jke Jf2:=λS k ws hd hsz=>by
 have hw1:=Jgs (i:=1) hsz;have ht:(Ja2 (wd ws 1)).length<=2000:=by unfold Ja2;split<;>simp<;>omega
 unfold Jf2
 cases hns:Jdq (ws.drop 2) with
 | none=>exact hd.more
 | some us =>
  simp only
  split
  . split
    . exact hd.more
    . split
      . exact JpO ‹_› ht ‹_› (by omega) _
      . exact hd.more
  . exact hd.more
theorem Jvf:Jke Jmj:=λS k ws hd hsz=>by
 obtain⟨n,D,a,b,c,d⟩:=hd;unfold Jmj
 cases Jd7 (ws.drop 2) with
 | none=>exact⟨n,D,by omega,b,by simp only;omega,d⟩
 | some ps =>
  simp only
  rcases hx:cliD S.R.cl.length (wd ws 1) with m|j
  . exact⟨n,D,by omega,b,by simp only;omega,d⟩
  . simp only
    have hj:j<S.R.cl.length:=by
     unfold cliD at hx
     split at hx
     . cases hx
     . split at hx
       . injection hx with hx;omega
       . cases hx
    exact⟨n+1,D,by omega,b.edit hj ps,by show potR S.R<=_;omega,by show(Jmk S.R j ps).cl.length<=6;unfold Jmk setC;simpa using d⟩
theorem JvW:∀v∈tabL,Jdm v.fn v.does (v.behind+1)/\Jke v.does:=by
 simp only[tabL,List.forall_mem_cons,List.not_mem_nil,false_imp_iff,implies_true,and_true];exact⟨⟨okBegin,Jtf⟩,⟨okEdit,Jvf⟩,⟨okSend,Jvd⟩,⟨JsP,JoQ⟩,⟨okLose,Jve⟩,⟨okTwice,Jtd⟩,⟨okQuiet,Jte⟩,⟨okMany,JcB λ_ _=>rfl⟩,⟨okRev,JcB λ_ _=>rfl⟩,⟨okText,JcB λ_ _=>rfl⟩,⟨okSeen,JcB λ_ _=>rfl⟩,⟨JuK,JcB λ_ _=>rfl⟩,⟨okCount,JcB λ_ _=>rfl⟩,⟨okSpot,JcB λ_ _=>rfl⟩,⟨okPlace,JcB λ_ _=>rfl⟩,⟨okHelp,JcB λ_ _=>rfl⟩⟩
theorem Jhj{w:List UInt8}:∀{l:List Vb}{v:Vb},JfM w l=some v->v∈l/\w=v.word
 | [],v,h=>by cases h
 | x :: l,v,h=>by
  unfold JfM at h
  split at h
  . injection h with h;subst h;exact⟨by simp,by assumption⟩
  . obtain⟨a,b⟩:=Jhj h;exact⟨by simp[a],b⟩
theorem JfP(p:Addr)(n:Int)(h0: -9223372036854775808<=n)(h1:n<=9223372036854775807)(w:World)(he:EnvK w)(v:Value)(hc:w.cell? p=some v)(hz:w.frozen? p=false) :
    CallsD prog 19 #[.pointer (some p)] (.panicking [{ v:=erV n,recovered:=false }]) w λe u' w' =>
     e=.returned (.tuple #[])/\u'=.panicking [{ v:=erV n,recovered:=true }]/\∃w1,Bw w w1/\w'=w1.setCell p (Sx (errT n)):=by
 have CT:Hid _:=Jl7 n h0 h1 w he;refine callsD_of_wpS func19 rfl λc₀ cs hu=>?_;unfold erV at hu ⊢;apply wpS_seq;apply wpS_region;simp[wpOpsS,go_sem,recoverD,hu,ntmps19,Exit.thenS];refine wpS_of_wp ?_;have ht: #[Value.pointer (some p)]++((Array.replicate 15 undef).setIfInBounds 3 (Value.iface 25 (Value.int IntKind.i64 n))).setIfInBounds 0 (Value.iface 25 (Value.int IntKind.i64 n))=#[.pointer (some p),.iface 25 (I6 n),undef,undef,.iface 25 (I6 n),undef,undef,undef,undef,undef,undef,undef,undef,undef,undef,undef]:=rfl;rw[ht];clear ht;have hta:∀w:World,(Instr.typeAssert (.iface 25 (I6 n)) 20 25 true).run prog w=.ok (.tuple #[I6 n,.bool true]) w:=λw=>by kernel_rfl
 have HC:Hid (w.cell? p=some v):=hc;have HZ:Hid (w.frozen? p=false):=hz;have HP:Hid (p.block<w.heap.size):=blt w _ hc;clear hc hz he
 go_wp2_with (go_at_call 5;refine Calls.mono CT.out ?_;rintro e w1 ⟨rfl,h⟩;have HB1:=hdz h;have hc:=(h.cell HP.out).trans HC.out;have hz:=(World.frozen?_of_block (h.block _ HP.out)).trans HZ.out;clear h)
 exact⟨rfl,_,rfl,.tuple #[],by simp[results,results19],rfl,rfl,w1,HB1.out,rfl⟩
theorem Jla(p:Addr)(w:World) :
    CallsD prog 19 #[.pointer (some p)] .returning w λe u' w'=>e=.returned (.tuple #[])/\u'=.returning/\w'=w:=by
 refine callsD_of_wpS func19 rfl λc₀ cs hu=>?_;apply wpS_seq;apply wpS_region;simp[wpOpsS,go_sem,recoverD,hu,ntmps19,Exit.thenS];refine wpS_of_wp ?_;have ht: #[Value.pointer (some p)]++((Array.replicate 15 undef).setIfInBounds 3 Value.nilIface).setIfInBounds 0 Value.nilIface=#[.pointer (some p),.nilIface,undef,undef,.nilIface,undef,undef,undef,undef,undef,undef,undef,undef,undef,undef,undef]:=rfl;rw[ht];clear ht;go_wp2
 cases c₀
 subst hu;exact⟨rfl,_,rfl,.tuple #[],by simp[results,results19],rfl,rfl,rfl⟩
def tabE (q:Nat) (i:Nat):Array MapEntry:=(tabG q 0 (tabL.take i)).toArray
theorem JcG(es:Array MapEntry)(n:Nat)(k:ByteArray)(x:Value)(w:World)(h:Instr.findNow .string (.string k) es.toList 0=some none) :
    (Instr.mapUpdate 45 (.map (some w.heap.size)) (.string k) x).run prog (w.alloc (.map es n))=.ok () (w.alloc (.map (es.push { key:=.string k,val:=x,born:=n }) (n+1))):=by
 have hm:prog.underlying 45=some (.map 9 58):=by kernel_rfl
 have hk:prog.underlying 9=some .string:=by kernel_rfl
 have hb:(w.alloc (.map es n)).heap[w.heap.size]?=some (.map es n):=heap_alloc_new _ _;have hc:(Instr.checkKey false 10000 9 (.string k)).run prog (w.alloc (.map es n))=.ok () (w.alloc (.map es n)):=MapKept.run_checkKey (k:=.string k) hk (by simp[MapKept.IsKey]) false 9999;simp[Instr.mapUpdate,run_underlying hm,MapKept.run_getObj_map hb,hc,MapKept.run_findKey hk h,MapKept.run_setObj_map _ hb,Result.andThen]
 have e:∀(a b:Obj),(w.heap.push a).setIfInBounds w.heap.size b=w.heap.push b:=λa b=>by
  apply Array.ext_getElem?;intro i
  by_cases hi:i=w.heap.size
  . subst hi;simp
  . rw[Array.getElem?_setIfInBounds_ne (λh=>hi h.symm)]
    simp[Array.getElem?_push,hi]
 exact congrArg (λh=>({ w with heap:=h }:World)) (e _ _)
theorem Jsq(q:Nat)(w:World):Cg 14 #[Pd q 0] w λe w'=>e=.returned (.map (some w.heap.size))/\w'=w.alloc (.map (tabG q 0 tabL).toArray 16):=by
 have hmf:∀(fn:Fn) (first cap:Array Value) (w:World),(Instr.makeFunc fn first cap).run prog w=.ok (.func fn first cap) w:=λ_ _ _ _=>rfl;have hmm:(Instr.makeMap 45 none).run prog w=.ok (.map (some w.heap.size)) (w.alloc (.map (tabE q 0) 0)):=run_makeMap_plain w _;have I0:(Instr.mapUpdate 45 (.map (some w.heap.size)) (.string ⟨#[98,101,103,105,110]⟩) (.agg #[.int .i64 1,.bool true,.func (.func 25) #[Pd q 0] #[]])).run prog (w.alloc (.map (tabE q 0) 0))=.ok () (w.alloc (.map (tabE q 1) 1)):=JcG (tabE q 0) 0 _ _ w (by kernel_rfl);have I1:(Instr.mapUpdate 45 (.map (some w.heap.size)) (.string ⟨#[101,100,105,116]⟩) (.agg #[.int .i64 1,.bool true,.func (.func 26) #[Pd q 0] #[]])).run prog (w.alloc (.map (tabE q 1) 1))=.ok () (w.alloc (.map (tabE q 2) 2)):=JcG (tabE q 1) 1 _ _ w (by kernel_rfl);have I2:(Instr.mapUpdate 45 (.map (some w.heap.size)) (.string ⟨#[115,101,110,100]⟩) (.agg #[.int .i64 1,.bool false,.func (.func 27) #[Pd q 0] #[]])).run prog (w.alloc (.map (tabE q 2) 2))=.ok () (w.alloc (.map (tabE q 3) 3)):=JcG (tabE q 2) 2 _ _ w (by kernel_rfl);have I3:(Instr.mapUpdate 45 (.map (some w.heap.size)) (.string ⟨#[100,101,108,105,118,101,114]⟩) (.agg #[.int .i64 1,.bool false,.func (.func 28) #[Pd q 0] #[]])).run prog (w.alloc (.map (tabE q 3) 3))=.ok () (w.alloc (.map (tabE q 4) 4)):=JcG (tabE q 3) 3 _ _ w (by kernel_rfl);have I4:(Instr.mapUpdate 45 (.map (some w.heap.size)) (.string ⟨#[108,111,115,101]⟩) (.agg #[.int .i64 1,.bool false,.func (.func 29) #[Pd q 0] #[]])).run prog (w.alloc (.map (tabE q 4) 4))=.ok () (w.alloc (.map (tabE q 5) 5)):=JcG (tabE q 4) 4 _ _ w (by kernel_rfl);have I5:(Instr.mapUpdate 45 (.map (some w.heap.size)) (.string ⟨#[116,119,105,99,101]⟩) (.agg #[.int .i64 1,.bool false,.func (.func 30) #[Pd q 0] #[]])).run prog (w.alloc (.map (tabE q 5) 5))=.ok () (w.alloc (.map (tabE q 6) 6)):=JcG (tabE q 5) 5 _ _ w (by kernel_rfl);have I6:(Instr.mapUpdate 45 (.map (some w.heap.size)) (.string ⟨#[113,117,105,101,116]⟩) (.agg #[.int .i64 0,.bool false,.func (.func 31) #[Pd q 0] #[]])).run prog (w.alloc (.map (tabE q 6) 6))=.ok () (w.alloc (.map (tabE q 7) 7)):=JcG (tabE q 6) 6 _ _ w (by kernel_rfl);have I7:(Instr.mapUpdate 45 (.map (some w.heap.size)) (.string ⟨#[109,97,110,121]⟩) (.agg #[.int .i64 0,.bool false,.func (.func 32) #[Pd q 0] #[]])).run prog (w.alloc (.map (tabE q 7) 7))=.ok () (w.alloc (.map (tabE q 8) 8)):=JcG (tabE q 7) 7 _ _ w (by kernel_rfl);have I8:(Instr.mapUpdate 45 (.map (some w.heap.size)) (.string ⟨#[114,101,118]⟩) (.agg #[.int .i64 1,.bool false,.func (.func 33) #[Pd q 0] #[]])).run prog (w.alloc (.map (tabE q 8) 8))=.ok () (w.alloc (.map (tabE q 9) 9)):=JcG (tabE q 8) 8 _ _ w (by kernel_rfl);have I9:(Instr.mapUpdate 45 (.map (some w.heap.size)) (.string ⟨#[116,101,120,116]⟩) (.agg #[.int .i64 1,.bool false,.func (.func 34) #[Pd q 0] #[]])).run prog (w.alloc (.map (tabE q 9) 9))=.ok () (w.alloc (.map (tabE q 10) 10)):=JcG (tabE q 9) 9 _ _ w (by kernel_rfl);have I10:(Instr.mapUpdate 45 (.map (some w.heap.size)) (.string ⟨#[115,101,101,110]⟩) (.agg #[.int .i64 1,.bool false,.func (.func 35) #[Pd q 0] #[]])).run prog (w.alloc (.map (tabE q 10) 10))=.ok () (w.alloc (.map (tabE q 11) 11)):=JcG (tabE q 10) 10 _ _ w (by kernel_rfl);have I11:(Instr.mapUpdate 45 (.map (some w.heap.size)) (.string ⟨#[115,101,114,118,101,114]⟩) (.agg #[.int .i64 0,.bool false,.func (.func 36) #[Pd q 0] #[]])).run prog (w.alloc (.map (tabE q 11) 11))=.ok () (w.alloc (.map (tabE q 12) 12)):=JcG (tabE q 11) 11 _ _ w (by kernel_rfl);have I12:(Instr.mapUpdate 45 (.map (some w.heap.size)) (.string ⟨#[99,111,117,110,116]⟩) (.agg #[.int .i64 1,.bool false,.func (.func 37) #[Pd q 0] #[]])).run prog (w.alloc (.map (tabE q 12) 12))=.ok () (w.alloc (.map (tabE q 13) 13)):=JcG (tabE q 12) 12 _ _ w (by kernel_rfl);have I13:(Instr.mapUpdate 45 (.map (some w.heap.size)) (.string ⟨#[115,112,111,116]⟩) (.agg #[.int .i64 3,.bool false,.func (.func 38) #[Pd q 0] #[]])).run prog (w.alloc (.map (tabE q 13) 13))=.ok () (w.alloc (.map (tabE q 14) 14)):=JcG (tabE q 13) 13 _ _ w (by kernel_rfl);have I14:(Instr.mapUpdate 45 (.map (some w.heap.size)) (.string ⟨#[112,108,97,99,101]⟩) (.agg #[.int .i64 4,.bool false,.func (.func 39) #[Pd q 0] #[]])).run prog (w.alloc (.map (tabE q 14) 14))=.ok () (w.alloc (.map (tabE q 15) 15)):=JcG (tabE q 14) 14 _ _ w (by kernel_rfl);have I15:(Instr.mapUpdate 45 (.map (some w.heap.size)) (.string ⟨#[104,101,108,112]⟩) (.agg #[.int .i64 0,.bool false,.func (.func 40) #[Pd q 0] #[]])).run prog (w.alloc (.map (tabE q 15) 15))=.ok () (w.alloc (.map (tabE q 16) 16)):=JcG (tabE q 15) 15 _ _ w (by kernel_rfl);have HE:Hid (tabE q 16=(tabG q 0 tabL).toArray):=rfl
 go_enter func14,ntmps14
 go_wp2;go_ret;exact⟨rfl,by rw[HE.out]⟩
theorem Juk(a b:List UInt8):((ByteArray.mk a.toArray)==(ByteArray.mk b.toArray))=decide (a=b):=by
 by_cases h:a=b
 . subst h
   rw[decide_eq_true rfl];exact(MapKept.bytes_beq _ _).2 rfl
 . rw[decide_eq_false h]
   refine Bool.eq_false_iff.2 λe=>h ?_;have e:=(MapKept.bytes_beq _ _).1 e;injection e with e;simpa using e
theorem Jqa(q:Nat)(k:List UInt8):∀(l:List Vb)(i j:Nat),∃x,Instr.findNow .string (Sx k) (tabG q i l) j=some ((JfM k l).map λv=>(x,tabV q v))
 | [],i,j=>⟨0,rfl⟩
 | v :: vs,i,j=>by
  obtain⟨x,hx⟩:=Jqa q k vs (i+1) (j+1);unfold tabG Instr.findNow JfM;simp only[Instr.sameNow,Juk]
  by_cases h:k=v.word
  . rw[decide_eq_true h,if_pos h]
    exact⟨j,rfl⟩
  . rw[decide_eq_false h,if_neg h]
    exact⟨x,hx⟩
def JvR:Value:=.agg #[I6 0,.bool false,.nilFunc]
theorem Jp6{w:World}{mp q:Nat}(h:JeK w mp q)(k:List UInt8):(Instr.lookup 45 (.map (some mp)) (Sx k) true).run prog w=.ok (.tuple #[match JfM k tabL with | some v=>tabV q v | none=>JvR,.bool (JfM k tabL).isSome]) w:=by
 have hm:prog.underlying 45=some (.map 9 58):=by kernel_rfl
 have hk:prog.underlying 9=some .string:=by kernel_rfl
 have hz:(zeroValue 58).run prog w=.ok JvR w:=by kernel_rfl
 have hc:∀em,(Instr.checkKey em 10000 9 (Sx k)).run prog w=.ok () w:=λem=>MapKept.run_checkKey (k:=Sx k) hk (by simp[MapKept.IsKey]) em 9999;obtain⟨x,hf⟩:=Jqa q k tabL 0 0;have hf:Instr.findNow .string (Sx k) (tabG q 0 tabL).toArray.toList 0=some ((JfM k tabL).map λv=>(x,tabV q v)):=hf
 cases hv:JfM k tabL with
 | none =>
  rw[hv]at hf;simp[Instr.lookup,run_underlying hm,MapKept.run_getObj_map h,hc,MapKept.run_findKey hk hf,hz,Result.andThen]
 | some v =>
  rw[hv]at hf;simp[Instr.lookup,run_underlying hm,MapKept.run_getObj_map h,hc,MapKept.run_findKey hk hf,Result.andThen]
end Go.Proofs.YtbkeomcicobohaaGreatDoor
namespace Go.Proofs
open Go.Shelf
def Tryz.lays229_ren:Go.Shelf.Ren:=⟨λ| 229=>44 | n=>n,λ| 9=>9 | 40=>75 | 31=>54 | 152=>118 | 3=>3 | 0=>0 | 4=>4 | 21=>21 | 154=>120 | n=>n,λ| n=>n⟩
theorem Tryz.lays229:Go.Proofs.Lays.n229 Tryz.prog Tryz.lays229_ren:={
 mixed:=by kernel_rfl
 f229:=Tryz.func44.trans (congrArg some (by kernel_rfl))
 t0:=Tryz.underlying0
 a0:=Tryz.isAgg0
 z0:=Tryz.sizeOf0
 v0:=Tryz.zeroValue0
 t3:=Tryz.underlying3
 a3:=Tryz.isAgg3
 z3:=Tryz.sizeOf3
 v3:=Tryz.zeroValue3
 t4:=Tryz.underlying4
 a4:=Tryz.isAgg4
 z4:=Tryz.sizeOf4
 v4:=Tryz.zeroValue4
 t9:=Tryz.underlying9
 a9:=Tryz.isAgg9
 z9:=Tryz.sizeOf9
 v9:=Tryz.zeroValue9
 t21:=Tryz.underlying21
 a21:=Tryz.isAgg21
 z21:=Tryz.sizeOf21
 v21:=Tryz.zeroValue21
 t31:=Tryz.underlying54
 a31:=Tryz.isAgg54
 z31:=Tryz.sizeOf54
 v31:=Tryz.zeroValue54
 t40:=Tryz.underlying75
 a40:=Tryz.isAgg75
 z40:=Tryz.sizeOf75
 v40:=Tryz.zeroValue75
 t152:=Tryz.underlying118
 a152:=Tryz.isAgg118
 z152:=Tryz.sizeOf118
 v152:=Tryz.zeroValue118
 t154:=Tryz.underlying120
 a154:=Tryz.isAgg120
 z154:=Tryz.sizeOf120
 v154:=Tryz.zeroValue120 }
open Go.RowKit Go.Lib in
theorem Tryz.strings_FieldsFunc(g:Nat)(lb:Array Value)(eg:∀args w,(callFunc g args).run Tryz.prog w=.ok (.enter g args) w)(p:Nat->Bool)(s:ByteArray)(w:World)(hs:s.size<=4294967296)(hp:PredAt Tryz.prog g lb encR p w) :
    Calls Tryz.prog 44 #[.string s,.func (.func g) #[] lb] w λe w'=>∃A,e=.returned (.slice (some ⟨A,0,none⟩) (Lib.goFieldsP p s).length (Lib.goFieldsP p s).length)/\w.heap.size<=A /\
     w'.ownsRow w.heap.size 9 1 (.slice (some ⟨A,0,none⟩) (Lib.goFieldsP p s).length (Lib.goFieldsP p s).length) (Lib.goFieldsP p s).length ((Lib.goFieldsP p s).map Value.string)/\Below w.heap.size w w':=Any.strings_FieldsFunc Tryz.lays229 g lb eg p s w hs hp (by kernel_rfl) (by kernel_rfl)
end Go.Proofs
namespace Go.Proofs.YtbkeomcicobohaaGreatDoor
open Go.Proofs.Tryz Go.RowKit Go.Maps
theorem JrC(w:World):PredAt prog 45 #[] encR Jgx w:=λW r _=>by
 unfold FnGives
 by_cases h:r=32
 . have hb:Jgx r=true:=decide_eq_true h
   have hi:((r:Int)==32)=true:=by rw[beq_iff_eq];omega
   rw[hb]
   go_enter func45,ntmps45
   go_wp2;go_ret;exact⟨rfl,0,rfl⟩
 . have hb:Jgx r=false:=decide_eq_false h
   have hi:((r:Int)==32)=false:=beq_eq_false_iff_ne.2 (by omega);rw[hb]
   go_enter func45,ntmps45
   go_wp2;go_ret;exact⟨rfl,0,rfl⟩
theorem Jgz(s:List UInt8)(hs:s.length<=1000000)(w:World) :
    Cg 20 #[Sx s] w λe w'=>∃v,e=.returned v/\JcE w' v (Jcx s)/\(∀b,v.ownBlock=some b->∃cs fz,w'.heap[b]?=some (.cells cs 9 fz))/\Bw w w':=by
 have CF:Hid (Cg 44 #[Sx s,.func (.func 45) #[] #[]] w λe w'=>∃v,e=.returned v/\JcE w' v (Jcx s)/\(∀b,v.ownBlock=some b->∃cs fz,w'.heap[b]?=some (.cells cs 9 fz))/\Bw w w'):=by
  refine(strings_FieldsFunc 45 #[] (enters_of func45 (by kernel_rfl) rfl) Jgx ⟨s.toArray⟩ w (by simp[ByteArray.size];omega) (JrC w)).mono ?_;rintro e w' ⟨A,rfl,hA,hown,hb⟩;have hl:(Jcx s).length=(Lib.goFieldsP Jgx ⟨s.toArray⟩).length:=by unfold Jcx;rw[List.length_map]
  have hc:strC (Jcx s)=(Lib.goFieldsP Jgx ⟨s.toArray⟩).map Value.string:=by
   unfold strC Jcx;rw[List.map_map];rfl
  have key:∀v,w'.ownsRow w.heap.size 9 1 v (Jcx s).length (strC (Jcx s))->∀b,v.ownBlock=some b->∃cs fz,w'.heap[b]?=some (.cells cs 9 fz):=λv h b hb'=>by
   rcases h.2 with ⟨e,_⟩|⟨g,cap,cur,e,_,h4,_⟩
   . rw[e]at hb';cases hb'
   . rw[e]at hb'
     obtain rfl:g=b:=osi hb';exact⟨_,_,h4⟩
  exact⟨_,rfl,JlD (B:=w.heap.size) (e:=9) (by rw[hl,hc];exact hown),key _ (by rw[hl,hc];exact hown),hb⟩
 go_enter func20,ntmps20
 go_wp2_with (go_at_call 44;refine Calls.mono CF.out ?_;rintro e w1 ⟨v,rfl,h1,h3,h2⟩;have HS:=hdz h1;have HT:=hdz h3;have HB:=hdz h2;clear h1 h2 h3)
 go_ret;exact⟨_,rfl,HS.out,HT.out,HB.out⟩
section
variable {m u a : Int}{rs : List Nat}
def Jd2 (m:Int):Prop:=0<=m/\m<=100
theorem JcO{p:Prop} [Decidable p] {a b:Int}(ha:p->Jd2 a)(hb:¬p->Jd2 b):Jd2 (if p then a else b):=by
 by_cases h:p
 . rw[if_pos h];exact ha h
 . rw[if_neg h];exact hb h
theorem JbA{n:Int}(h:0<=n/\n<=100:=by decide):Jd2 n:=h
theorem JkX:∀ps:List Pt,Jd2 (chk1 ps)
 | []=>JbA
 | p :: ps=>JcO (λ_=>JcO (λ_=>JkX ps) λ_=>JbA) λ_=>JbA
theorem JkV:∀(ps:List Pt)(n:Int),Jd2 (chk2 ps n)
 | [],n=>JcO (λ_=>JbA) λ_=>JbA
 | p :: ps,n=>JcO (λ_=>JbA) λ_=>JkV ps _
theorem Jt3(u:Int)(S:Cl)(q:List Pt):Jd2 (edE u S q):=by
 have h1:∀n,Jd2 (chkE q n):=λn=>JcO (λ_=>JkV q n) λ_=>JkX q;have h2:∀rs u v,Jd2 (tzE rs u v q):=λrs u v=>JcO (λ_=>JcO (λ_=>JcO (λ_=>JbA) λ_=>JbA) λ_=>h1 _) λ_=>JbA;exact JcO (λ_=>JbA) λ_=>JcO (λ_=>h2 _ _ _) λ_=>JcO (λ_=>JbA) λ_=>JbA
def Errs (v:Jdx):Prop:=∀(S:DkS) (ws:List (List UInt8)) (m:Int),(v S ws).2=.error m->Jd2 m
theorem Jmf{v:Jdx}(h:∀S ws,∃t,(v S ws).2=.ok t):Errs v:=λS ws m e=>by
 obtain⟨t,ht⟩:=h S ws;rw[ht]at e;cases e
theorem JkT{n:Nat}{s:List UInt8}(h:cliD n s=.error m):Jd2 m:=by
 unfold cliD at h
 split at h
 . injection h with h;subst h;exact JbA
 . split at h
   . cases h
   . injection h with h;subst h;exact JbA
theorem Jmg(f:Cl->List UInt8):Errs (cliV f):=λS ws m e=>by
 have e:(cliD S.R.cl.length (wd ws 1)).map _=.error m:=e
 cases hx:cliD S.R.cl.length (wd ws 1) with
 | error n=>rw[hx]at e;injection e with e;subst e;exact JkT hx
 | ok k=>rw[hx]at e;cases e
theorem Ji7{E:DkS->Int->Int}{f:DkS->Int->DkS}(h:∀S k,Jd2 (E S k)):Errs (oneV E f):=λS ws m e=>by
 unfold oneV at e
 split at e
 . injection e with e;subst e;exact JbA
 . split at e
   . cases e
   . injection e with e;subst e;exact h _ _
theorem Jhd(n:Nat)(k:Int):Jd2 (inR n k):=JcO (λ_=>JbA) λ_=>JbA
theorem Jqb{f:List Int->List Nat->Except Int (List Int)}(h:∀ns rs m,f ns rs=.error m->Jd2 m):Errs (docV f):=λS ws m e=>by
 unfold docV at e;simp only at e
 split at e
 . injection e with e;subst e;exact JbA
 . rename_i ns _
   split at e
   . cases hx:f ns (Ja0 (Ja2 (wd ws 1))) with
     | error n=>rw[hx]at e;injection e with e;subst e;exact h _ _ _ hx
     | ok k=>rw[hx]at e;cases e
   . injection e with e;subst e;exact JbA
theorem Jox(h:JlF u a rs=.error m):Jd2 m:=by
 unfold JlF at h
 repeat' split at h
 all_goals first | (injection h with h;subst h;exact JbA) | cases h
theorem Jnf{c:Int}(h:JgW u a c rs=.error m):Jd2 m:=by
 unfold JgW at h
 repeat' split at h
 all_goals first | (injection h with h;subst h;exact JbA) | cases h
theorem Jrs:Errs Jf2:=λS ws m h=>by
 unfold Jf2 at h
 repeat' split at h
 all_goals first | (injection h with h;subst h;exact JbA) | cases h
theorem Jrr:Errs Jqh:=λS ws m h=>by
 have h:Jj5 (Ja2 (wd ws 1))=.error m:=h;unfold Jj5 at h
 split at h
 . cases h
 . injection h with h;subst h;exact JbA
theorem Jt1:Errs Jmj:=λS ws m h=>by
 unfold Jmj at h
 split at h
 . injection h with h;subst h;exact JbA
 . split at h
   . rename_i hx;injection h with h;subst h;exact JkT hx
   . simp only at h
     split at h
     . cases h
     . injection h with h;subst h;exact Jt3 _ _ _
theorem Jss:∀v∈tabL,Errs v.does:=by
 simp only[tabL,List.forall_mem_cons,List.not_mem_nil,false_imp_iff,implies_true,and_true];exact⟨Jrs,Jt1,Ji7 λ_ _=>Jhd _ _,Ji7 λ_ _=>Jhd _ _,Ji7 λ_ _=>Jhd _ _,Ji7 λ_ _=>Jhd _ _,Jmf λ_ _=>⟨_,rfl⟩,Jmf λ_ _=>⟨_,rfl⟩,Jmg _,Jmg _,Jmg _,Jmf λ_ _=>⟨_,rfl⟩,Jrr,Jqb λ_ _ _ h=>Jox h,Jqb λ_ _ _ h=>Jnf h,Jmf λ_ _=>⟨_,rfl⟩⟩
/-! how long words are -/
structure Apart (acc:List (Nat×Nat)) (m:Nat):Prop where
 two:2*acc.length<=m
 late:∀(i:Nat) (x:Nat×Nat),1<=i->acc[i]?=some x->2<=x.1
theorem Apart.snoc{acc:List (Nat×Nat)}{m a b:Nat}(h:Apart acc m)(hm:m<=a)(hab:a<b):Apart (acc++[(a,b)]) (b+1):=by
 have h2:=h.two;refine⟨by simp;omega,λi x hi hx=>?_⟩
 rcases Nat.lt_or_ge i acc.length with h' | h'
 . rw[List.getElem?_append_left h']at hx
   exact h.late i x hi hx
 . have:i<(acc++[(a,b)]).length:=(llt hx)
   simp at this;obtain rfl:i=acc.length:=by omega
   rw[List.getElem?_append_right (nlr _),Nat.sub_self]at hx;injection hx with hx;subst hx;show 2<=a;omega
def JvX (s:ByteArray) (m pos:Nat):Option Nat->Prop
 | some a=>m<=a/\a<pos/\a<s.size
 | none=>m<=pos
theorem Jee(p:Nat->Bool)(s:ByteArray):∀(f pos:Nat)(st:Option Nat)(acc:List (Nat×Nat))(m:Nat),Apart acc m->JvX s m pos st->m<=s.size+1 ->
    ∃m' pos',Apart (Lib.spansFromP p s f pos st acc).1 m'/\JvX s m' pos' (Lib.spansFromP p s f pos st acc).2/\m'<=s.size+1
 | 0,pos,st,acc,m,h,hs,hm=>⟨m,pos,h,hs,hm⟩
 | f + 1, pos,st,acc,m,h,hs,hm=>by
  have hw:=Lib.width_pos s pos;unfold Lib.spansFromP
  by_cases hp:pos<s.size
  . rw [if_pos hp]
    by_cases hb:p (Utf8.decode s pos).1=true
    . rw [if_pos hb]
      cases st with
      | some a =>
       obtain⟨h1,h2,h3⟩:=hs;exact Jee p s f _ none _ (pos+1) (h.snoc h1 h2) (show pos+1<=pos+_ by omega) (by omega)
      | none=>exact Jee p s f _ none acc m h (show m<=pos+_ by have:m<=pos:=hs;omega) hm
    . rw [if_neg hb]
      cases st with
      | some a =>
       obtain⟨h1,h2,h3⟩:=hs;exact Jee p s f _ (some a) acc m h ⟨h1,by omega,h3⟩ hm
      | none=>exact Jee p s f _ (some pos) acc m h ⟨hs,by omega,hp⟩ hm
  . rw[if_neg hp]
    exact⟨m,pos,h,hs,hm⟩
theorem JiG(line:List UInt8):2*(Jcx line).length<=line.length+1/\∀s∈(Jcx line).drop 1,s.length+2<=line.length:=by
 have hz:(ByteArray.mk line.toArray).size=line.length:=by simp[ByteArray.size]
 obtain⟨m,pos,h1,h2,h3⟩:=Jee Jgx ⟨line.toArray⟩ (ByteArray.mk line.toArray).size 0 none [] 0 ⟨by simp,λi x _ hx=>by cases hx⟩ (nlr 0) (by omega)
 have key:∃m',Apart (Lib.spansOfP Jgx ⟨line.toArray⟩) m'/\m'<=line.length+1:=by
  unfold Lib.spansOfP Lib.closeSpans;generalize Lib.spansFromP Jgx ⟨line.toArray⟩ (ByteArray.mk line.toArray).size 0 none []=X at *;obtain⟨acc,st⟩:=X
  cases st with
  | some a =>
   obtain⟨g1,g2,g3⟩:=h2;exact⟨_,h1.snoc g1 g3,by omega⟩
  | none=>exact⟨m,h1,by omega⟩
 obtain⟨m',k1,k2⟩:=key;unfold Jcx Lib.goFieldsP;refine⟨by simp only[List.length_map];have:=k1.two;omega,λs hs=>?_⟩;obtain⟨i,hi⟩:=List.mem_iff_getElem?.1 hs;rw[List.getElem?_drop,List.map_map,List.getElem?_map]at hi;obtain⟨x,hx,rfl⟩:=Option.map_eq_some_iff.1 hi;have h2:=k1.late (1+i) x (by omega) hx;have:((ByteArray.mk line.toArray).extract x.1 x.2).data.toList.length<=line.length - x.1:=by
  simp[ByteArray.data_extract];omega
 have h3:=(llt hx);have h4:=k1.two;show((ByteArray.mk line.toArray).extract x.1 x.2).data.toList.length+2<=_;omega
end
section
attribute [local go_sem] Oper.semAt_some Jaj JaD
variable {lo β q k : Nat}{w x w1 : World}{v : Value}{S : DkS}
theorem Jnt{lo:Nat}{w w':World}{q:Nat}{S:DkS}{X:Nat->Prop}(h:isSes lo w q S)(hs:sameBut w w' X)(hX:∀k,k<w.heap.size->X k->lo<=k/\∃cs T fz,w.heap[k]?=some (.cells cs T fz)/\¬Jj3 T/\T≠96):isSes lo w' q S:=by
 obtain⟨h0,hl,r,bx,bmx,bs,mp,h1,h2,h3,h4⟩:=h;have hs2:sameBut w w' (λk=>k<w.heap.size/\X k):=hs.mono λk hk e=>⟨hk,e⟩;have nq:¬X q:=λe=>by
  obtain⟨_,cs,T,fz,hc,hT,_⟩:=hX q (alt h1) e;have:=JaB h1 hc;subst this;exact hT (.inr rfl)
 have nm:¬X mp:=λe=>by
  obtain⟨_,cs,T,fz,hc,_⟩:=hX mp (alt h4) e;unfold JeK at h4;rw[h4]at hc;cases hc
 refine⟨h0.same hs2 λk e=>(hX k e.1 e.2).1,hl,r,bx,bmx,bs,mp,(hs.block q (alt h1) nq).trans h1,Jgf h2 hs λk hk e=>?_,h3,(hs.block mp (alt h4) nm).trans h4⟩;obtain⟨g1,cs,T,fz,hc,hT,hP⟩:=hX k hk e;refine⟨g1,Ja8 hc hP,λe=>Jb0 h2.srv.2.2.2 _ _ _ (e ▸ hc),λcs' T' fz' hc' hT'=>hT ?_⟩;rw[hc]at hc';injection hc' with hc';injection hc' with _ e2 _;subst e2;exact .inl hT'
theorem Jq7(h:sameBut w x (Jbx lo w))(hβ:w.heap.size<=β):sameBut w (x.setCell (Ad β 0) v) (Jbx lo w) :=
 ⟨by simpa using h.size,λk hk hn=>(Below.heap_setCell _ _ _ _ (by simp only;omega)).trans (h.block k hk hn),h.os,h.tape,h.output⟩
theorem Jvs(b:Nat)(m:Bool)(f:Value)(hf:∃g q,f=.func (.func g) #[Pd q 0] #[])(n:Nat)(w:World)(hb:b<=1000)(hn:n<=100000) :
    Cg 21 #[.agg #[I6 (b:Int),.bool m,f],I6 (n:Int)] w (Rt w (.bool (decide (n=b) || (decide (b<n) && m)))):=by
 obtain⟨g,q,rfl⟩:=hf
 by_cases h:n=b
 . have h1:((n:Int)==(b:Int))=true:=by rw[beq_iff_eq];omega
   rw[decide_eq_true h,Bool.true_or];clear h hb hn
   go_enter func21,ntmps21
   go_wp2;go_ret;exact⟨rfl,(brf _ w).alloc (nlr _) _⟩
 . have h1:((n:Int)==(b:Int))=false:=beq_eq_false_iff_ne.2 (by omega)
   rw[decide_eq_false h,Bool.false_or]
   by_cases h2:b<n
   . have h3:(b:Int)<(n:Int):=by omega
     rw[decide_eq_true h2,Bool.true_and];clear h hb hn h2
     go_enter func21,ntmps21
     go_wp2;go_ret;exact⟨rfl,(brf _ w).alloc (nlr _) _⟩
   . have h3:¬(b:Int)<(n:Int):=by omega
     rw[decide_eq_false h2,Bool.false_and];clear h hb hn h2
     go_enter func21,ntmps21
     go_wp2;go_ret;exact⟨rfl,(brf _ w).alloc (nlr _) _⟩
structure AnsAt (lo:Nat) (w w1:World) (q β:Nat) (S:DkS):Prop where
 ses:isSes lo w1 q S
 low:Bw w w1
 eq:w.heap.size=β
 lob:lo<=β
 box:w1.heap[β]?=some (Oc #[.string ⟨#[]⟩] 9)
theorem AnsAt.notK(h:AnsAt lo w w1 q β S):¬Jbx lo w1 β:=λe=>by
 rcases e.2 with ⟨cs',T,hc',hT⟩|⟨es,c,hm⟩
 . have:=JaB h.box hc'
   subst this;revert hT;unfold Jj3 Jfh;decide
 . rw[h.box]at hm;cases hm
theorem AnsAt.cell(h:AnsAt lo w w1 q β S)(hs:sameBut w1 x (Jbx lo w1)):x.heap[β]?=some (Oc #[.string ⟨#[]⟩] 9) :=
 (hs.block β (alt h.box) h.notK).trans h.box
theorem AnsAt.ends{S':DkS}(h:AnsAt lo w w1 q β S)(hx:isSes lo x q S')(hs:sameBut w1 x (Jbx lo w1))(t:Value):isSes lo (x.setCell (Ad β 0) t) q S'/\sameBut w (x.setCell (Ad β 0) t) (Jbx lo w):=by
 have hc:=h.cell hs;refine⟨Jnt (X:=λk=>k=β) hx ⟨by simp,λk _ hk=>Below.heap_setCell _ _ _ _ hk,rfl,rfl,rfl⟩ λk _ e=>?_,Jq7 (Jd1 h.low hs) (by have:=h.eq;omega)⟩;subst e;exact⟨h.lob,_,_,_,hc,by unfold Jj3 Jfh;decide,by decide⟩
theorem Joc{line:List UInt8}(h:JcE w v (Jcx line))(h0:Jcx line=[]):∃p c,v=.slice p 0 c:=by
 obtain⟨p,c,rfl,_⟩:=h;rw[h0];exact⟨p,c,rfl⟩
theorem Jpt(line:List UInt8)(hl:line.length<=2001)(h:isSes lo w q S)(h0:Jcx line=[]) :
    Cg 9 #[Pd q 0,Sx line] w λe w'=>e=.returned (.string ⟨#[111,107]⟩)/\isSes lo w' q S/\sameBut w w' (Jbx lo w):=by
 have hmf:∀(fn:Fn) (first cap:Array Value) (w:World),(Instr.makeFunc fn first cap).run prog w=.ok (.func fn first cap) w:=λ_ _ _ _=>rfl;have hb1:Bw w (w.alloc (Oc #[.string ⟨#[]⟩] 9)):=zA _ _;have HA:Hid (AnsAt lo w (w.alloc (Oc #[.string ⟨#[]⟩] 9)) q w.heap.size S):=⟨h.below hb1,hb1,rfl,Nat.le_of_lt (Nat.lt_of_le_of_lt h.low h.lt),heap_alloc_new _ _⟩
 have CW:Hid (Cg 20 #[Sx line] (w.alloc (Oc #[.string ⟨#[]⟩] 9)) λe w'=>∃p c,e=.returned (.slice p 0 c)/\sameBut (w.alloc (Oc #[.string ⟨#[]⟩] 9)) w' (Jbx lo (w.alloc (Oc #[.string ⟨#[]⟩] 9)))/\isSes lo w' q S) :=
  (Jgz line (by omega) _).mono λe w' ⟨v,e1,e2,_,e3⟩=>by
    obtain⟨p,c,rfl⟩:=Joc e2 h0;exact⟨p,c,e1,Jbe e3,HA.out.ses.below e3⟩
 clear h h0 hl hb1
 go_enter_defers func9,ntmps9
 go_wp2_with (go_at_call 20;refine Calls.mono CW.out ?_;rintro e w2 ⟨p,c,rfl,hs,hx⟩;have HS2:=hdz hs;have HX2:=hdz hx;have hbx:=HA.out.cell hs;have g0:=chp hbx 0;have f0:=Lib.frozen_of_heap hbx 0;clear hs hx hbx)
 refine leaves_cons (f:=19) (args:=#[Pd w.heap.size 0]) (by simp) (by simp[go_sem]) ?_;refine(Jla _ _).mono ?_;rintro e u' w'' ⟨rfl,rfl,rfl⟩;refine⟨_,by simp[results,results9,go_sem,g0],rfl,HA.out.ends HX2.out HS2.out _⟩
theorem JnW(line:List UInt8)(hl:line.length<=2001)(h:isSes lo w q S)(s0:List UInt8)(rest:List (List UInt8))(h0:Jcx line=s0 :: rest)(hr:rest.length<=1000)(hbad:JfM s0 tabL=none) :
    Cg 9 #[Pd q 0,Sx line] w λe w'=>e=.returned (Sx (errT 3))/\isSes lo w' q S/\sameBut w w' (Jbx lo w):=by
 have hmf:∀(fn:Fn) (first cap:Array Value) (w:World),(Instr.makeFunc fn first cap).run prog w=.ok (.func fn first cap) w:=λ_ _ _ _=>rfl;have hb1:Bw w (w.alloc (Oc #[.string ⟨#[]⟩] 9)):=zA _ _;have HA:Hid (AnsAt lo w (w.alloc (Oc #[.string ⟨#[]⟩] 9)) q w.heap.size S):=⟨h.below hb1,hb1,rfl,Nat.le_of_lt (Nat.lt_of_le_of_lt h.low h.lt),heap_alloc_new _ _⟩
 have CW:Hid (Cg 20 #[Sx line] (w.alloc (Oc #[.string ⟨#[]⟩] 9)) λe w'=>∃b o c mp,e=.returned (.slice (some (Ad b o)) (rest.length+1) c)/\w'.cell? (Ad b o)=some (Sx s0)/\w'.cell? (Ad q 1)=some (.map (some mp))/\JeK w' mp q/\Below (w.alloc (Oc #[.string ⟨#[]⟩] 9)).heap.size (w.alloc (Oc #[.string ⟨#[]⟩] 9)) w') :=
  (Jgz line (by omega) _).mono λe w' ⟨v,e1,e2,_,e3⟩=>by
    rw[h0]at e2;obtain⟨b,o,c,rfl,_,_,hc⟩:=JcR (i:=0) (s:=s0) e2 rfl;obtain⟨_,_,r,bx,bmx,bs,mp,g1,_,_,g4⟩:=HA.out.ses.below e3;exact⟨b,o,c,mp,by simpa using e1,hc,chp g1 1,g4,e3⟩
 have hni:((rest.length:Int)+1==0)=false:=beq_eq_false_iff_ne.2 (by omega);have hnc:(((rest.length+1:Nat):Int)==0)=false:=beq_eq_false_iff_ne.2 (by omega);have hn0:0<rest.length+1:=by omega
 have HB:Hid (JfM s0 tabL=none):=hbad;generalize rest.length=n at *;clear h h0 hl hb1 hbad hr
 go_enter_defers func9,ntmps9
 go_wp2_with (go_at_call 20;refine Calls.mono CW.out ?_;rintro e w2 ⟨b,o,c,mp,rfl,g0,gm,ht,hb⟩;have HT2:=hdz ht;have HB2:=hdz hb;clear ht hb)
 have zk:∀{x y:World},(x.cell? (Ad q 1)=some (.map (some mp))/\x.cell? (Ad b o)=some (Sx s0)/\JeK x mp q)->Bw x y->(y.cell? (Ad q 1)=some (.map (some mp))/\y.cell? (Ad b o)=some (Sx s0)/\JeK y mp q):=λ{x y} h hb =>
  ⟨(hb.cell (blt x _ h.1)).trans h.1,(hb.cell (blt x _ h.2.1)).trans h.2.1,(hb.block mp (alt h.2.2)).trans h.2.2⟩
 refine Jch (λwx=>wx.cell? (Ad q 1)=some (.map (some mp))/\wx.cell? (Ad b o)=some (Sx s0)/\JeK wx mp q) 14 14 (by kernel_rfl) rfl ?_;intro w3 hb3;have hz3:=zk ⟨gm,g0,HT2.out⟩ hb3;have hb3A:=HB2.out.trans (hb3.mono HB2.out.size);obtain⟨G,hG⟩:=Jb6 hz3 zk;have y0:∀x,(G x).cell? (Ad q 1)=some (.map (some mp)):=λx=>(hG.but x).1;have y1:∀x,(G x).cell? (Ad b o)=some (Sx s0):=λx=>(hG.but x).2.1;have y2:∀x,(Instr.lookup 45 (.map (some mp)) (Sx s0) true).run prog (G x)=.ok (.tuple #[.agg #[I6 0,.bool false,.nilFunc],.bool false]) (G x):=λx=>by
  have:=Jp6 (hG.but x).2.2 s0;rw[HB.out]at this;exact this
 (iterate 11 (refine ay hG hz3 λ_ k=>?_;go_simp;apply k;clear k));clear y0 y1 y2;refine aO 11 ⟨_,rfl,?_⟩;intro w4 hb4 K hK
 go_simp
 have hbn:Bw w4 (w4.alloc (Oc #[I6 0,.bool false,.nilFunc] 58)):=zA _ _;refine hK _ _ (λh=>zk h hbn) ?_;clear hK K;have hk5:(w4.alloc (Oc #[I6 0,.bool false,.nilFunc] 58)).heap[w4.heap.size]?=some (Oc #[I6 0,.bool false,.nilFunc] 58):=heap_alloc_new _ _;have hb4A:=hb3A.trans (hb4.mono hb3A.size);have hbl:=hb4A.size;have hb5A:=hb4A.trans (hbn.mono hb4A.size);have hz5:=zk (zk hz3 hb4) hbn;have hbq:q<w4.heap.size:=blt _ _ (zk hz3 hb4).1;have hbb:b<w4.heap.size:=blt _ _ (zk hz3 hb4).2.1;have hbm:mp<w4.heap.size:=(Array.getElem?_eq_some_iff.1 (zk hz3 hb4).2.2).1;generalize w4.alloc (Oc #[I6 0,.bool false,.nilFunc] 58)=w5 at *;obtain⟨γ,hγ⟩:∃γ,w4.heap.size=γ:=⟨_,rfl⟩;rw[hγ]at hk5 hbl hbq hbb hbm ⊢;refine aO 12 ⟨_,rfl,?_⟩;intro w6 hb6 K hK;have hk6:=(hb6.block γ (alt hk5)).trans hk5;have c0:=cQ hk6 0 rfl;have c1:=cQ hk6 1 rfl;have c2:=cQ hk6 2 rfl;have f0:=Lib.frozen_of_heap hk6 0;have f1:=Lib.frozen_of_heap hk6 1;have f2:=Lib.frozen_of_heap hk6 2;have hb6A:=hb5A.trans (hb6.mono hb5A.size);have hz6:=zk hz5 hb6
 go_simp
 refine hK _ _ (λh=>?_) ?_
 . have nb:∀y,y<γ->(((w6.setCell (Ad γ 0) (I6 0)).setCell (Ad γ 1) (.bool false)).setCell (Ad γ 2) (.nilFunc)).heap[y]?=w6.heap[y]?:=λy hy=>((Below.heap_setCell _ _ _ _ (by simp only;omega)).trans (Below.heap_setCell _ _ _ _ (by simp only;omega))).trans (Below.heap_setCell _ _ _ _ (by simp only;omega))
   exact⟨(World.cell?_of_block (nb q hbq)).trans h.1,(World.cell?_of_block (nb b hbb)).trans h.2.1,(nb mp hbm).trans h.2.2⟩
 clear hK K;refine aO 13 ⟨_,rfl,?_⟩;intro w7 hb7 K hK
 go_simp
 refine hK _ _ (λh=>h) ?_;clear hK K;refine ae ?_;intro w8 hb8;have hbs:=((hb6A.setCell (p:=(Ad γ 0)) hbl (I6 0)).setCell (p:=(Ad γ 1)) hbl (.bool false)).setCell (p:=(Ad γ 2)) hbl (.nilFunc);have hbt:=hb7.trans (hb8.mono hb7.size);have HB8:Hid (Below (w.alloc (Oc #[.string ⟨#[]⟩] 9)).heap.size (w.alloc (Oc #[.string ⟨#[]⟩] 9)) w8):=hbs.trans (hbt.mono hbs.size);clear hb3 hb4 hb6 hb7 hb8 hb3A hb4A hb5A hb6A hbn hbs hbt hz3 hz5 hz6 hk5 hk6 c0 c1 c2 f0 f1 f2 hG G zk gm g0 hbl hbq hbb hbm hγ;go_wp2;have hbx:=HA.out.cell (Jbe HB8.out);refine leaves_cons (f:=19) (args:=#[Pd w.heap.size 0]) (by simp) (by simp[go_sem]) ?_;refine(JfP (Ad w.heap.size 0) 3 (by decide) (by decide) w8 (HA.out.ses.below HB8.out).env.nums _ (chp hbx 0) (Lib.frozen_of_heap hbx 0)).mono ?_;rintro e u' w'' ⟨rfl,rfl,w9,hb9,rfl⟩;have HB9:=HB8.out.trans (hb9.mono HB8.out.size);have hc9:w9.cell? (Ad w.heap.size 0)=some (.string ⟨#[]⟩):=chp (HA.out.cell (Jbe HB9)) 0;refine⟨_,by simp[results,results9,go_sem,hc9],rfl,HA.out.ends (HA.out.ses.below HB9) (Jbe HB9) _⟩
theorem Jst:∀v∈tabL,(∀xs wx,(callFunc v.fn xs).run prog wx=(pure (.enter v.fn xs):Sem Next).run prog wx)/\v.behind<=1000:=by
 simp only[tabL,List.forall_mem_cons,List.not_mem_nil,false_imp_iff,implies_true,and_true];refine⟨?_,?_,?_,?_,?_,?_,?_,?_,?_,?_,?_,?_,?_,?_,?_,?_⟩
 all_goals exact⟨λxs wx=>by go_simp,by decide⟩
theorem Jps(line:List UInt8)(hl:line.length<=2001)(h:isSes lo w q S)(hd:DInv k S)(hk:k<=3000)(s0:List UInt8)(rest:List (List UInt8))(h0:Jcx line=s0 :: rest)(hr:rest.length<=1000)(hsz:∀s∈rest,s.length<=1999)(v:Vb)(hv:JfM s0 tabL=some v) :
    Cg 9 #[Pd q 0,Sx line] w λe w'=>e=.returned (Sx (ansD (JeR S (s0 :: rest)).2))/\isSes lo w' q (JeR S (s0 :: rest)).1/\sameBut w w' (Jbx lo w):=by
 have hmf:∀(fn:Fn) (first cap:Array Value) (w:World),(Instr.makeFunc fn first cap).run prog w=.ok (.func fn first cap) w:=λ_ _ _ _=>rfl;have hb1:Bw w (w.alloc (Oc #[.string ⟨#[]⟩] 9)):=zA _ _;have HA:Hid (AnsAt lo w (w.alloc (Oc #[.string ⟨#[]⟩] 9)) q w.heap.size S):=⟨h.below hb1,hb1,rfl,Nat.le_of_lt (Nat.lt_of_le_of_lt h.low h.lt),heap_alloc_new _ _⟩
 have CW:Hid (Cg 20 #[Sx line] (w.alloc (Oc #[.string ⟨#[]⟩] 9)) λe w'=>∃b o c mp,e=.returned (.slice (some (Ad b o)) (rest.length+1) c)/\w'.cell? (Ad b o)=some (Sx s0)/\w'.cell? (Ad q 1)=some (.map (some mp))/\JeK w' mp q/\wordsAt w' (.slice (some (Ad b o)) (rest.length+1) c) (s0 :: rest)/\Below (w.alloc (Oc #[.string ⟨#[]⟩] 9)).heap.size (w.alloc (Oc #[.string ⟨#[]⟩] 9)) w') :=
  (Jgz line (by omega) _).mono λe w' ⟨v,e1,e2,et,e3⟩=>by
    rw[h0]at e2;obtain⟨b,o,c,rfl,_,_,hc⟩:=JcR (i:=0) (s:=s0) e2 rfl;obtain⟨_,_,r,bx,bmx,bs,mp,g1,_,_,g4⟩:=HA.out.ses.below e3;exact⟨b,o,c,mp,by simpa using e1,hc,chp g1 1,g4,⟨e2,et⟩,e3⟩
 have hni:((rest.length:Int)+1==0)=false:=beq_eq_false_iff_ne.2 (by omega);have hnc:(((rest.length+1:Nat):Int)==0)=false:=beq_eq_false_iff_ne.2 (by omega);have hn0:0<rest.length+1:=by omega
 have hnb:(rest.length:Int)<=1000:=by omega
 obtain⟨hvm,rfl⟩:=Jhj hv;obtain⟨hok,_⟩:=JvW v hvm;obtain⟨eL,hvb⟩:=Jst v hvm;have EL:=hdz eL;have HB:Hid (JfM v.word tabL=some v):=hv;have CF:Hid (∀wx,Cg 21 #[.agg #[I6 (v.behind:Int),.bool v.more,.func (.func v.fn) #[Pd q 0] #[]],I6 (rest.length:Int)] wx (Rt wx (.bool (Jro v rest.length)))):=λwx=>Jvs v.behind v.more _ ⟨_,_,rfl⟩ rest.length wx hvb (by omega);have CV:Hid (Jro v rest.length=true->∀(wx:World) (vw:Value),isSes lo wx q S->wordsAt wx vw (v.word :: rest)->Cg v.fn #[Pd q 0,vw] wx λe w'=>e=JgJ (v.does S (v.word :: rest)).2/\isSes lo w' q (v.does S (v.word :: rest)).1/\sameBut wx w' (Jbx lo wx)):=λhf wx vw hx hw=>by
  refine hok lo wx q S k (v.word :: rest) vw hx hd hk hw (by simpa using hsz) (by simp;omega) ?_;unfold Jro at hf;simp only[List.length_cons];rw[Bool.or_eq_true,Bool.and_eq_true]at hf
  rcases hf with hf|⟨hf,_⟩<;>have:=of_decide_eq_true hf<;>omega
 have HDo:Hid (JeR S (v.word :: rest)=if Jro v rest.length=true then v.does S (v.word :: rest) else (S,.error 3)):=by show _=_;simp only[JeR,hv]
 rw[HDo.out];have HER:Hid (∀m,(v.does S (v.word :: rest)).2=.error m->0<=m/\m<=100):=λm h=>Jss v hvm _ _ m h;generalize hfd:Jro v rest.length=FD at *;generalize v.does S (v.word :: rest)=DO at *;obtain⟨vw,vb,vm,vf,vd⟩:=v;simp only at HB EL CF CV CW hvb ⊢;generalize hnr:rest.length=n at *;clear h h0 hl hb1 hr hd hk hsz hvm hok hv eL HDo hfd
 go_enter_defers func9,ntmps9
 go_wp2_with (go_at_call 20;refine Calls.mono CW.out ?_;rintro e w2 ⟨b,o,c,mp,rfl,g0,gm,ht,hwd,hb⟩;have HT2:=hdz ht;have HB2:=hdz hb;have HW2:=hdz hwd;clear ht hb hwd)
 have zk:∀{x y:World},(x.cell? (Ad q 1)=some (.map (some mp))/\x.cell? (Ad b o)=some (Sx vw)/\JeK x mp q)->Bw x y->(y.cell? (Ad q 1)=some (.map (some mp))/\y.cell? (Ad b o)=some (Sx vw)/\JeK y mp q):=λ{x y} h hb =>
  ⟨(hb.cell (blt x _ h.1)).trans h.1,(hb.cell (blt x _ h.2.1)).trans h.2.1,(hb.block mp (alt h.2.2)).trans h.2.2⟩
 refine Jch (λwx=>wx.cell? (Ad q 1)=some (.map (some mp))/\wx.cell? (Ad b o)=some (Sx vw)/\JeK wx mp q) 14 14 (by kernel_rfl) rfl ?_;intro w3 hb3;have hz3:=zk ⟨gm,g0,HT2.out⟩ hb3;have hb3A:=HB2.out.trans (hb3.mono HB2.out.size);obtain⟨G,hG⟩:=Jb6 hz3 zk;have y0:∀x,(G x).cell? (Ad q 1)=some (.map (some mp)):=λx=>(hG.but x).1;have y1:∀x,(G x).cell? (Ad b o)=some (Sx vw):=λx=>(hG.but x).2.1;have y2:∀x,(Instr.lookup 45 (.map (some mp)) (Sx vw) true).run prog (G x)=.ok (.tuple #[.agg #[I6 (vb:Int),.bool vm,.func (.func vf) #[Pd q 0] #[]],.bool true]) (G x):=λx=>by
  have:=Jp6 (hG.but x).2.2 vw;rw[HB.out]at this;exact this
 (iterate 11 (refine ay hG hz3 λ_ k=>?_;go_simp;apply k;clear k));clear y0 y1 y2;refine aO 11 ⟨_,rfl,?_⟩;intro w4 hb4 K hK
 go_simp
 have hbn:Bw w4 (w4.alloc (Oc #[I6 0,.bool false,.nilFunc] 58)):=zA _ _;refine hK _ _ (λh=>zk h hbn) ?_;clear hK K;have hk5:(w4.alloc (Oc #[I6 0,.bool false,.nilFunc] 58)).heap[w4.heap.size]?=some (Oc #[I6 0,.bool false,.nilFunc] 58):=heap_alloc_new _ _;have hb4A:=hb3A.trans (hb4.mono hb3A.size);have hb4B:=hb3.trans (hb4.mono hb3.size);have hblB:=hb4B.size;have hb5B:=hb4B.trans (hbn.mono hb4B.size);have hbl:=hb4A.size;have hb5A:=hb4A.trans (hbn.mono hb4A.size);have hz5:=zk (zk hz3 hb4) hbn;have hbq:q<w4.heap.size:=blt _ _ (zk hz3 hb4).1;have hbb:b<w4.heap.size:=blt _ _ (zk hz3 hb4).2.1;have hbm:mp<w4.heap.size:=(Array.getElem?_eq_some_iff.1 (zk hz3 hb4).2.2).1;generalize w4.alloc (Oc #[I6 0,.bool false,.nilFunc] 58)=w5 at *;obtain⟨γ,hγ⟩:∃γ,w4.heap.size=γ:=⟨_,rfl⟩;rw[hγ]at hk5 hbl hblB hbq hbb hbm ⊢;refine aO 12 ⟨_,rfl,?_⟩;intro w6 hb6 K hK;have hk6:=(hb6.block γ (alt hk5)).trans hk5;have c0:=cQ hk6 0 rfl;have c1:=cQ hk6 1 rfl;have c2:=cQ hk6 2 rfl;have f0:=Lib.frozen_of_heap hk6 0;have f1:=Lib.frozen_of_heap hk6 1;have f2:=Lib.frozen_of_heap hk6 2;have hb6A:=hb5A.trans (hb6.mono hb5A.size);have hb6B:=hb5B.trans (hb6.mono hb5B.size);have hz6:=zk hz5 hb6
 go_simp
 refine hK _ _ (λh=>?_) ?_
 . have nb:∀y,y<γ->(((w6.setCell (Ad γ 0) (I6 (vb:Int))).setCell (Ad γ 1) (.bool vm)).setCell (Ad γ 2) (.func (.func vf) #[Pd q 0] #[])).heap[y]?=w6.heap[y]?:=λy hy=>((Below.heap_setCell _ _ _ _ (by simp only;omega)).trans (Below.heap_setCell _ _ _ _ (by simp only;omega))).trans (Below.heap_setCell _ _ _ _ (by simp only;omega))
   exact⟨(World.cell?_of_block (nb q hbq)).trans h.1,(World.cell?_of_block (nb b hbb)).trans h.2.1,(nb mp hbm).trans h.2.2⟩
 clear hK K;refine aO 13 ⟨_,rfl,?_⟩;intro w7 hb7 K hK
 go_simp
 refine hK _ _ (λh=>h) ?_;clear hK K;refine ae ?_;intro w8 hb8;have hbs:=((hb6A.setCell (p:=(Ad γ 0)) hbl (I6 (vb:Int))).setCell (p:=(Ad γ 1)) hbl (.bool vm)).setCell (p:=(Ad γ 2)) hbl (.func (.func vf) #[Pd q 0] #[]);have hbt:=hb7.trans (hb8.mono hb7.size);have HB8:Hid (Below (w.alloc (Oc #[.string ⟨#[]⟩] 9)).heap.size (w.alloc (Oc #[.string ⟨#[]⟩] 9)) w8):=hbs.trans (hbt.mono hbs.size);have hbs2:=((hb6B.setCell (p:=(Ad γ 0)) hblB (I6 (vb:Int))).setCell (p:=(Ad γ 1)) hblB (.bool vm)).setCell (p:=(Ad γ 2)) hblB (.func (.func vf) #[Pd q 0] #[]);have HB28:Hid (Bw w2 w8):=hbs2.trans (hbt.mono hbs2.size);have hlt:γ<(((w6.setCell (Ad γ 0) (I6 (vb:Int))).setCell (Ad γ 1) (.bool vm)).setCell (Ad γ 2) (.func (.func vf) #[Pd q 0] #[])).heap.size:=by have:=(alt hk6);simpa using this
 have HG:Hid (∀wx,Bw w8 wx->wx.cell? (Ad γ 0)=some (I6 (vb:Int))/\wx.cell? (Ad γ 1)=some (.bool vm)/\wx.cell? (Ad γ 2)=some (.func (.func vf) #[Pd q 0] #[])):=λwx hx=>by
  have hy:=hbt.trans (hx.mono hbt.size);exact⟨(zC hy γ 0 hlt).trans (by simp[go_sem,c0]),(zC hy γ 1 hlt).trans (by simp[go_sem,c1]),(zC hy γ 2 hlt).trans (by simp[go_sem,c2])⟩
 clear hb3 hb4 hb6 hb7 hb8 hb3A hb4A hb5A hb6A hb4B hb5B hb6B hblB hbn hbs hbs2 hbt hz3 hz5 hz6 hk5 hk6 c0 c1 c2 f0 f1 f2 hG G zk gm g0 hbl hbq hbb hbm hγ hlt;obtain⟨d0,d1,d2⟩:=HG.out w8 (brf _ _)
 cases FD with
 | false =>
  go_wp2_with (go_at_call 21;refine(CF.out _).mono ?_;rintro e w9 ⟨rfl,h⟩;have HB9:=hdz (HB8.out.trans (h.mono HB8.out.size));clear h)
  have hbx:=HA.out.cell (Jbe HB9.out);refine leaves_cons (f:=19) (args:=#[Pd w.heap.size 0]) (by simp) (by simp[go_sem]) ?_;refine(JfP (Ad w.heap.size 0) 3 (by decide) (by decide) w9 (HA.out.ses.below HB9.out).env.nums _ (chp hbx 0) (Lib.frozen_of_heap hbx 0)).mono ?_;rintro e u' w'' ⟨rfl,rfl,w10,hb10,rfl⟩;have HB10:=HB9.out.trans (hb10.mono HB9.out.size);have hc10:w10.cell? (Ad w.heap.size 0)=some (.string ⟨#[]⟩):=chp (HA.out.cell (Jbe HB10)) 0;refine⟨_,by simp[results,results9,go_sem,hc10,ansD],rfl,HA.out.ends (HA.out.ses.below HB10) (Jbe HB10) _⟩
 | true =>
  obtain⟨S',X⟩:=DO;have CV2:=λwx vw h1 h2=>CV.out rfl wx vw h1 h2
  cases X with
  | ok t =>
   have CV3:Hid (∀(wx:World),Below (w.alloc (Oc #[.string ⟨#[]⟩] 9)).heap.size (w.alloc (Oc #[.string ⟨#[]⟩] 9)) wx->Bw w2 wx->Cg vf #[Pd q 0,.slice (some (Ad b o)) (n+1) c] wx λe w'=>e=.returned (Sx t)/\isSes lo w' q S'/\sameBut wx w' (Jbx lo wx)):=λwx h1 h2=>CV2 wx _ (HA.out.ses.below h1) (wordsAt.below HW2.out h2);clear CV CV2 HER
   go_wp2_with (go_at_call 21;refine(CF.out _).mono ?_;rintro e w9 ⟨rfl,h⟩;have HB9:=hdz (HB8.out.trans (h.mono HB8.out.size));have HB29:=hdz (HB28.out.trans (h.mono HB28.out.size));obtain⟨_,_,d2'⟩:=HG.out w9 h;clear h)
   rw[EL.out]
   go_simp
   refine(CV3.out w9 HB9.out HB29.out).mono ?_;rintro e w10 ⟨rfl,hx,hs⟩;have hs10:=Jd1 HB9.out hs;have HS10:=hdz hs10;have HX10:=hdz hx;have hbx:=HA.out.cell hs10;have g0:=chp hbx 0;have f0:=Lib.frozen_of_heap hbx 0;clear hs hs10 hx hbx;go_wp2;refine leaves_cons (f:=19) (args:=#[Pd w.heap.size 0]) (by simp) (by simp[go_sem]) ?_;refine(Jla _ _).mono ?_;rintro e u' w'' ⟨rfl,rfl,rfl⟩;refine⟨_,by simp[results,results9,go_sem,g0,ansD],rfl,HA.out.ends HX10.out HS10.out _⟩
  | error m =>
   obtain⟨m0,m1⟩:=HER.out m rfl;have CV3:Hid (∀(wx:World),Below (w.alloc (Oc #[.string ⟨#[]⟩] 9)).heap.size (w.alloc (Oc #[.string ⟨#[]⟩] 9)) wx->Bw w2 wx->Cg vf #[Pd q 0,.slice (some (Ad b o)) (n+1) c] wx λe w'=>e=JaA m/\isSes lo w' q S'/\sameBut wx w' (Jbx lo wx)):=λwx h1 h2=>CV2 wx _ (HA.out.ses.below h1) (wordsAt.below HW2.out h2);clear CV CV2 HER
   go_wp2_with (go_at_call 21;refine(CF.out _).mono ?_;rintro e w9 ⟨rfl,h⟩;have HB9:=hdz (HB8.out.trans (h.mono HB8.out.size));have HB29:=hdz (HB28.out.trans (h.mono HB28.out.size));obtain⟨_,_,d2'⟩:=HG.out w9 h;clear h)
   rw[EL.out]
   go_simp
   refine(CV3.out w9 HB9.out HB29.out).mono ?_;rintro e w10 ⟨rfl,hx,hs⟩;unfold JaA;have hs10:=Jd1 HB9.out hs;have HS10:=hdz hs10;have HX10:=hdz hx;have hbx:=HA.out.cell hs10;clear hs hs10 hx;refine leaves_cons (f:=19) (args:=#[Pd w.heap.size 0]) (by simp) (by simp[go_sem]) ?_;refine(JfP (Ad w.heap.size 0) m (by omega) (by omega) w10 HX10.out.env.nums _ (chp hbx 0) (Lib.frozen_of_heap hbx 0)).mono ?_;rintro e u' w'' ⟨rfl,rfl,w11,hb11,rfl⟩;have hs11:=JhV HS10.out hb11;have hc11:w11.cell? (Ad w.heap.size 0)=some (.string ⟨#[]⟩):=chp (HA.out.cell hs11) 0;refine⟨_,by simp[results,results9,go_sem,hc11,ansD],rfl,HA.out.ends (HX10.out.below hb11) hs11 _⟩
theorem JrI(line:List UInt8)(hl:line.length<=2001)(h:isSes lo w q S)(hd:DInv k S)(hk:k<=3000) :
    Cg 9 #[Pd q 0,Sx line] w λe w'=>e=.returned (Sx ((Jcu S line).2))/\isSes lo w' q (Jcu S line).1/\sameBut w w' (Jbx lo w):=by
 obtain⟨a,b⟩:=JiG line;unfold Jcu
 cases h0:Jcx line with
 | nil=>exact Jpt line hl h h0
 | cons s0 rest =>
  rw[h0]at a b;simp only[List.length_cons,List.drop_succ_cons,List.drop_zero]at a b
  cases hv:JfM s0 tabL with
  | none =>
   have e:JeR S (s0 :: rest)=(S,.error 3):=by simp only[JeR,hv]
   rw[e];exact JnW line hl h s0 rest h0 (by omega) hv
  | some v=>exact Jps line hl h hd hk s0 rest h0 (by omega) (λs hs=>by have:=b s hs;omega) v hv
theorem Jrd(line:List UInt8)(hl:line.length<=2001)(hd:DInv k S):DInv (k+1) (Jcu S line).1:=by
 obtain⟨a,b⟩:=JiG line;unfold Jcu
 cases h0:Jcx line with
 | nil=>exact hd.more
 | cons s0 rest =>
  rw[h0]at a b;show DInv (k+1) (JeR S (s0 :: rest)).1;unfold JeR;simp only
  cases hv:JfM s0 tabL with
  | none=>exact hd.more
  | some v =>
   simp only
   split
   . exact(JvW v (Jhj hv).1).2 S k _ hd λs hs=>by have:=b s hs;omega
   . exact hd.more
end
theorem JjZ(w:World)(he:EnvD w.heap.size w) :
    Cg 6 #[] w λe w'=>∃q,e=.returned (Pd q 0)/\isSes w.heap.size w' q Jcr/\Bw w w':=by
 have CR:Hid (Cg 13 #[.string ⟨#[]⟩,Sl w.heap.size 3 3] (w.alloc (Oc #[I6 1,I6 2,I6 3] 3)) λe w'=>∃r bx bmx bs,e=.returned (.tuple #[Pd r 0,.nilIface])/\isRoom w.heap.size w' r bx bmx bs (Jdi [] [1,2,3])/\Bw w w'):=by
  have hb:Bw w (w.alloc (.cells (intC [1,2,3]).toArray 3)):=zA _ _;refine(JqO [] JdG (by simp) [1,2,3] (λu hu=>?_) (by simp) _ w.heap.size _ (he.env.below hb) hb.size (Jdt w [1,2,3] 3 (by simp))).mono ?_
  . show u=1\/u=2\/u=3
    simpa using hu
  . rintro e w' ⟨r,bx,bmx,bs,rfl,h1,h2,_⟩
    exact⟨r,bx,bmx,bs,rfl,h1,hb.trans (h2.mono hb.size)⟩
 have HE:=hdz he;have CT:Hid (∀(q:Nat) (wx:World),Cg 14 #[Pd q 0] wx λe w'=>e=.returned (.map (some wx.heap.size))/\w'=wx.alloc (.map (tabG q 0 tabL).toArray 16)):=λq wx=>Jsq q wx;clear he
 go_enter func6,ntmps6
 go_wp2_with (first
  | (go_at_call 13;refine Calls.mono CR.out ?_;rintro e w1 ⟨r,bx,bmx,bs,rfl,h1,h2⟩;have HR1:=hdz h1;have HB1:=hdz h2;clear h1 h2)
  | (go_at_call 14;refine(CT.out _ _).mono ?_;rintro e w2 ⟨rfl,rfl⟩))
 go_ret;have hb2:Bw w1 (w1.alloc (Oc #[Pd r 0,.map (some (w1.heap.size+1))] 47)):=zA _ _;have hb3:Bw w1 ((w1.alloc (Oc #[Pd r 0,.map (some (w1.heap.size+1))] 47)).alloc (.map (tabG w1.heap.size 0 tabL).toArray 16)):=hb2.alloc hb2.size _;have hB:=HB1.out.trans (hb3.mono HB1.out.size);refine⟨w1.heap.size,rfl,⟨HE.out.below hB,HB1.out.size,r,bx,bmx,bs,w1.heap.size+1,?_,Jal HR1.out hb3,?_,?_⟩,hB⟩
 . exact(heap_alloc_old _ _ (by simp)).trans (heap_alloc_new _ _)
 . have:=Jnu HR1.out.srv.2.2.2;omega
 . have:=heap_alloc_new (w1.alloc (Oc #[Pd r 0,.map (some (w1.heap.size+1))] 47)) (.map (tabG w1.heap.size 0 tabL).toArray 16)
   rw[wsa]at this;exact this
theorem Jrp:DInv 0 Jcr:=JpO (t:=[]) (us:=[1,2,3]) (Joa JdG) (by simp) (by decide) (by simp) 0
theorem Ji2{ns:List Int}(hr:∀n∈ns,-9223372036854775808<=n/\n<=9223372036854775807):(JcV ns).length<=22*ns.length:=by
 have:=Ji6 [32] 21 (ns.map Lib.itoa) λx hx=>by
  obtain⟨n,hn,rfl⟩:=List.mem_map.1 hx;exact Lib.itoa_length_le n (hr n hn).1 (hr n hn).2
 unfold JcV;simp at this;omega
theorem JsS{n:Int}(h:0<=n/\n<=1000000000):(JcV [n]).length<=22:=Ji2 (ns:=[n]) λx hx=>by rw[List.mem_singleton.1 hx];omega
theorem Jl6(s:List UInt8):(Jh5 s).length<=s.length+1:=by unfold Jh5;split<;>simp
def JdM (v:Jdx):Prop:=∀(S:DkS) (k:Nat) (ws:List (List UInt8)) (t:List UInt8),DInv k S->k<=3000->(∀s∈ws,s.length<=2001)->(v S ws).2=.ok t->t.length<=20000
theorem Joe{ws:List (List UInt8)}(hs:∀s∈ws,s.length<=2001)(i:Nat):(wd ws i).length<=2001:=by
 unfold wd
 cases h:ws[i]? with
 | none=>simp
 | some s=>exact hs s (List.mem_of_getElem? h)
theorem JfY{v:Jdx}(h:∀S ws t,(v S ws).2=.ok t->t=wd ws 0):JdM v:=λS k ws t _ _ hs e=>by
 rw[h S ws t e];have:=Joe hs 0;omega
theorem JgO{E:DkS->Int->Int}{f:DkS->Int->DkS}:JdM (oneV E f):=JfY λS ws t e=>by
 unfold oneV at e
 split at e
 . cases e
 . split at e
   . injection e with e;exact e.symm
   . cases e
theorem Jo0:JdM Jf2:=JfY λS ws t e=>by
 unfold Jf2 at e
 repeat' split at e
 all_goals first | (injection e with e;exact e.symm) | cases e
theorem JqI:JdM Jmj:=JfY λS ws t e=>by
 unfold Jmj at e
 split at e
 . cases e
 . split at e
   . cases e
   . simp only at e
     split at e
     . injection e with e;exact e.symm
     . cases e
theorem JiW{f:Cl->List UInt8}(h:∀(n:Int)(D:List (List UInt8))(E:List SE)(q:Int×Cl),n<=3000->okCl n D q->Lk E D->E.length<=300->(f q.2).length<=20000):JdM (cliV f):=λS k ws t hd hk hs e=>by
 obtain⟨n,D,a,b,c,d⟩:=hd;have e:(cliD S.R.cl.length (wd ws 1)).map (λk=>f (clK S.R k).2)=.ok t:=e
 rcases hx:cliD S.R.cl.length (wd ws 1) with m|j
 . rw[hx]at e;cases e
 . rw [hx]at e
   injection e with e;subst e
   have hj:j<S.R.cl.length:=by
    unfold cliD at hx
    split at hx
    . cases hx
    . split at hx
      . injection hx with hx;omega
      . cases hx
   exact h n D S.R.E _ (by omega) (b.clk hj).2 b.lk b.few
theorem JqD:JdM textV:=JiW λn D E q hn hq hl _=>by
 have h1:=hq.ok.len;have h2:=hq.small hl;have:=Jl6 q.2.doc;omega
theorem JqF:JdM seenV:=JiW λn D E q hn hq hl _=>by
 have h2:=hq.small hl;have:=Jl6 q.2.seen;omega
theorem Js3:JdM revV:=JiW λn D E q hn hq hl he=>by
 have e1:=hq.revle hl;have e3:=hq.dr;have e4:=hq.id;have e5:=hq.rev;have:=Ji2 (ns:=[q.2.rev,q.2.drops]) λx hx=>by
  simp only[List.mem_cons,List.not_mem_nil,or_false]at hx
  rcases hx with rfl|rfl
  . omega
  . split at e3<;>split at e4<;>omega
 unfold revT;have hb:(Lib.formatBool (decide (0<q.2.mine.length))).length<=5:=by unfold Lib.formatBool;split<;>decide
 simp at this ⊢;omega
theorem JmP:JdM Jo3:=λS k ws t hd hk hs e=>by
 obtain⟨n,D,a,b,c,d⟩:=hd;have e:(.ok (JiX S.R):Except Int (List UInt8))=.ok t:=e;injection e with e;subst e;have:=JsS (n:=(S.R.E.length:Int)) ⟨by omega,by have:=b.few;omega⟩;have:=Jl6 S.R.t;have:=b.srv.room;unfold JiX;simp;omega
theorem JqG:JdM manyV:=λS k ws t hd hk hs e=>by
 obtain⟨n,D,a,b,c,d⟩:=hd;have e:(.ok (JcV [(S.R.fl.length:Int)]):Except Int (List UInt8))=.ok t:=e;injection e with e;subst e;have:=JsS (n:=(S.R.fl.length:Int)) ⟨by omega,by have:=b.room;omega⟩;omega
theorem JmF(s:List UInt8):(Ja2 s).length<=s.length:=by unfold Ja2;split<;>simp
theorem Joz:JdM Jqh:=λS k ws t hd hk hs e=>by
 have e:Jj5 (Ja2 (wd ws 1))=.ok t:=e;unfold Jj5 at e
 split at e
 . injection e with e
   subst e;have h1:=Joe hs 1;have h2:=JmF (wd ws 1);have:=Ji2 (JkS (Ja2 (wd ws 1)) (by omega));have hl:(cntL (Ja2 (wd ws 1))).length=4:=rfl;omega
 . cases e
theorem JmQ{f:List Int->List Nat->Except Int (List Int)}(h:∀ns rs l,C1 rs<=100000000->f ns rs=.ok l->l.length<=10/\∀n∈l,-9223372036854775808<=n/\n<=9223372036854775807):JdM (docV f):=λS k ws t hd hk hs e=>by
 unfold docV at e;simp only at e
 split at e
 . cases e
 . rename_i ns _
   split at e
   . rename_i hok
     have h1:=Joe hs 1;have h2:=JmF (wd ws 1);have hz:C1 (Ja0 (Ja2 (wd ws 1)))<=100000000:=by rw[Jcb,JbD hok];omega
     cases hx:f ns (Ja0 (Ja2 (wd ws 1))) with
     | error n=>rw[hx]at e;cases e
     | ok l =>
      rw[hx]at e;injection e with e;subst e;obtain⟨g1,g2⟩:=h ns _ l hz hx;have:=Ji2 g2;omega
   . cases e
theorem JqE:JdM spotV:=JmQ λns rs l hz e=>by
 obtain⟨X,Y,E,_,h2,h3,h4⟩:=Jkx (iAt ns 0) (iAt ns 1) rs hz;rw[h2]at e
 split at e
 . injection e with e
   subst e;exact⟨by simp,λn hn=>by simp only[List.mem_cons,List.not_mem_nil,or_false]at hn;rcases hn with rfl|rfl;exact h3;exact h4⟩
 . cases e
theorem Joy:JdM JsD:=JmQ λns rs l hz e=>by
 obtain⟨X,E,_,h2,h3⟩:=Jjf (iAt ns 0) (iAt ns 1) (iAt ns 2) rs hz;rw[h2]at e
 split at e
 . injection e with e
   subst e;exact⟨by simp,λn hn=>by rw[List.mem_singleton.1 hn];exact h3⟩
 . cases e
theorem JqH:JdM helpV:=λS k ws t hd hk hs e=>by
 have e:(.ok helpT:Except Int (List UInt8))=.ok t:=e;injection e with e;subst e
 decide +kernel
theorem Jsr:∀v∈tabL,JdM v.does:=by
 simp only[tabL,List.forall_mem_cons,List.not_mem_nil,false_imp_iff,implies_true,and_true];exact⟨Jo0,JqI,JgO,JgO,JgO,JgO,JfY λS ws t e=>by injection e with e;exact e.symm,JqG,Js3,JqD,JqF,JmP,Joz,JqE,Joy,JqH⟩
theorem Juj(line:List UInt8):∀s∈Jcx line,s.length<=line.length:=λs hs=>by
 unfold Jcx Lib.goFieldsP at hs;rw[List.map_map]at hs;obtain⟨x,_,rfl⟩:=List.mem_map.1 hs;show((ByteArray.mk line.toArray).extract x.1 x.2).data.toList.length<=_;simp[ByteArray.data_extract];omega
theorem Jpd{m:Int}(h:Jd2 m):(errT m).length<=100:=by
 have:=Lib.itoa_length_le m (by have:=h.1;omega) (by have:=h.2;omega);unfold errT;simp;omega
theorem JkD{k:Nat}{S:DkS}(line:List UInt8)(hl:line.length<=2001)(hd:DInv k S)(hk:k<=3000):(Jcu S line).2.length<=20000:=by
 have hw:=Juj line;unfold Jcu
 cases h0:Jcx line with
 | nil=>simp[JeR,ansD]
 | cons s0 rest =>
  rw[h0]at hw;show(ansD (JeR S (s0 :: rest)).2).length<=_;unfold JeR;simp only
  cases hv:JfM s0 tabL with
  | none=>have:=Jpd (m:=3) ⟨by decide,by decide⟩;show(errT 3).length<=_;omega
  | some v =>
   simp only
   split
   . have hm:=(Jhj hv).1
     cases hx:(v.does S (s0 :: rest)).2 with
     | ok t=>exact Jsr v hm S k _ t hd hk (λs hs=>by have:=hw s hs;omega) hx
     | error m=>have:=Jpd (Jss v hm S _ m hx);show(errT m).length<=_;omega
   . have:=Jpd (m:=3) ⟨by decide,by decide⟩;show(errT 3).length<=_;omega
end Go.Proofs.YtbkeomcicobohaaGreatDoor
namespace Go.Proofs
open Go.Shelf
def Tryz.lays145_ren:Go.Shelf.Ren:=⟨λ| 145=>17 | 220=>42 | 219=>80 | 217=>127 | 225=>128 | 224=>129 | 267=>130 | 266=>182 | 314=>183 | n=>n,λ| 9=>9 | 4=>4 | 59=>51 | 3=>3 | 5=>5 | 46=>174 | 146=>226 | 51=>177 | n=>n,λ| 1=>0 | n=>n⟩
theorem Tryz.lays145:Go.Proofs.Lays.n145 Tryz.prog Tryz.lays145_ren:={
 mixed:=by kernel_rfl
 f145:=Tryz.func17.trans (congrArg some (by kernel_rfl))
 f217:=Tryz.func127.trans (congrArg some (by kernel_rfl))
 f219:=Tryz.func80.trans (congrArg some (by kernel_rfl))
 f220:=Tryz.func42.trans (congrArg some (by kernel_rfl))
 f224:=Tryz.func129.trans (congrArg some (by kernel_rfl))
 f225:=Tryz.func128.trans (congrArg some (by kernel_rfl))
 f266:=Tryz.func182.trans (congrArg some (by kernel_rfl))
 f267:=Tryz.func130.trans (congrArg some (by kernel_rfl))
 f314:=Tryz.func183.trans (congrArg some (by kernel_rfl))
 t3:=Tryz.underlying3
 a3:=Tryz.isAgg3
 z3:=Tryz.sizeOf3
 v3:=Tryz.zeroValue3
 t4:=Tryz.underlying4
 a4:=Tryz.isAgg4
 z4:=Tryz.sizeOf4
 v4:=Tryz.zeroValue4
 t5:=Tryz.underlying5
 a5:=Tryz.isAgg5
 z5:=Tryz.sizeOf5
 v5:=Tryz.zeroValue5
 t9:=Tryz.underlying9
 a9:=Tryz.isAgg9
 z9:=Tryz.sizeOf9
 v9:=Tryz.zeroValue9
 t46:=Tryz.underlying174
 a46:=Tryz.isAgg174
 z46:=Tryz.sizeOf174
 v46:=Tryz.zeroValue174
 t51:=Tryz.underlying177
 a51:=Tryz.isAgg177
 z51:=Tryz.sizeOf177
 v51:=Tryz.zeroValue177
 t59:=Tryz.underlying51
 a59:=Tryz.isAgg51
 z59:=Tryz.sizeOf51
 v59:=Tryz.zeroValue51
 t146:=Tryz.underlying226
 a146:=Tryz.isAgg226
 z146:=Tryz.sizeOf226
 v146:=Tryz.zeroValue226
 g1:=by kernel_rfl }
open Go.RowKit Go.Lib in
theorem Tryz.strings_Cut(s sep:ByteArray)(m:Int)(w:World)(hs:s.size<4294967281)(hm:w.cell? ⟨0,0,none⟩=some (.int .i64 m)) :
    Calls Tryz.prog 17 #[.string s,.string sep] w λe w'=>e=.returned (.tuple #[.string ⟨(Lib.cut s.data.toList sep.data.toList).1.toArray⟩,.string ⟨(Lib.cut s.data.toList sep.data.toList).2.1.toArray⟩,.bool (Lib.cut s.data.toList sep.data.toList).2.2])/\∃n,w'=w.drewN n:=Any.strings_Cut Tryz.lays145 s sep m w hs hm
def Tryz.lays102_ren:Go.Shelf.Ren:=⟨λ| 102=>16 | 209=>41 | 207=>79 | n=>n,λ| 9=>9 | 4=>4 | 3=>3 | n=>n,λ| n=>n⟩
theorem Tryz.lays102:Go.Proofs.Lays.n102 Tryz.prog Tryz.lays102_ren:={
 mixed:=by kernel_rfl
 f102:=Tryz.func16.trans (congrArg some (by kernel_rfl))
 f207:=Tryz.func79.trans (congrArg some (by kernel_rfl))
 f209:=Tryz.func41.trans (congrArg some (by kernel_rfl))
 t3:=Tryz.underlying3
 a3:=Tryz.isAgg3
 z3:=Tryz.sizeOf3
 v3:=Tryz.zeroValue3
 t4:=Tryz.underlying4
 a4:=Tryz.isAgg4
 z4:=Tryz.sizeOf4
 v4:=Tryz.zeroValue4
 t9:=Tryz.underlying9
 a9:=Tryz.isAgg9
 z9:=Tryz.sizeOf9
 v9:=Tryz.zeroValue9 }
open Go.RowKit Go.Lib in
theorem Tryz.strings_TrimSuffix(s p:ByteArray)(w:World)(hs:s.size<=9223372036854775807) :
    Calls Tryz.prog 16 #[.string s,.string p] w λe w'=>e=.returned (.string ⟨(Lib.trimSuffix s.data.toList p.data.toList).toArray⟩)/\w'=w:=Any.strings_TrimSuffix Tryz.lays102 s p w hs
end Go.Proofs
namespace Go.Proofs.YtbkeomcicobohaaGreatDoor
open Go.Proofs.Tryz Go.RowKit Go.Maps
section
theorem Jjr(c:UInt8)(r:List UInt8):([10]:List UInt8).isPrefixOf (c :: r)=decide (c=10):=by
 show((10:UInt8)==c && true)=_;rw[Bool.and_true]
 by_cases h:c=10
 . subst h;rfl
 . rw[decide_eq_false h];exact beq_eq_false_iff_ne.2 λe=>h e.symm
theorem JhC(b:UInt8)(l sub:List UInt8):Lib.index (b :: l) sub=if sub.isPrefixOf (b :: l) then 0 else if Lib.index l sub == -1 then -1 else Lib.index l sub+1:=rfl
theorem Jqg:∀s:List UInt8,cutD s=(Lib.cut s [10]).1 :: (if (Lib.cut s [10]).2.2=true then cutD (Lib.cut s [10]).2.1 else [])/\((Lib.cut s [10]).2.2=true->(Lib.cut s [10]).2.1.length<s.length)/\(Lib.cut s [10]).2.1.length<=s.length/\(Lib.cut s [10]).1.length<=s.length
 | []=>⟨rfl,λh=>(by cases h),nlr _,nlr _⟩
 | c :: r=>by
  obtain⟨h1,h2,h3,h4⟩:=Jqg r;have hi:=Lib.index_ge r [10]
  by_cases hc:c=10
  . have e:Lib.index (c :: r) [10]=0:=by rw[JhC,Jjr,decide_eq_true hc,if_pos rfl]
    have e2:Lib.cut (c :: r) [10]=([],r,true):=by unfold Lib.cut;rw[e];rfl
    rw[e2];exact⟨by simp[cutD,hc],λ_=>by simp,by simp,by simp⟩
  . by_cases h0:0<=Lib.index r [10]
    . have e:Lib.index (c :: r) [10]=Lib.index r [10]+1:=by
        rw[JhC,Jjr,decide_eq_false hc,if_neg (by decide),if_neg (by rw[beq_iff_eq];omega)]
      have ec:Lib.cut r [10]=(r.take (Lib.index r [10]).toNat,r.drop ((Lib.index r [10]).toNat+1),true):=by unfold Lib.cut;rw[if_pos h0];rfl
      have e2:Lib.cut (c :: r) [10]=(c :: r.take (Lib.index r [10]).toNat,r.drop ((Lib.index r [10]).toNat+1),true):=by
       unfold Lib.cut;rw[e,if_pos (by omega)];have:(Lib.index r [10]+1).toNat=(Lib.index r [10]).toNat+1:=by omega
       rw[this];simp
      rw[ec]at h1 h2 h3 h4;rw[e2];simp only[if_true]at h1 h2 h3 h4 ⊢;refine⟨?_,λ_=>by have:=h2 trivial;simp only[List.length_cons];omega,by simp only[List.length_cons];omega,by simp only[List.length_cons];omega⟩
      conv=>lhs;unfold cutD
      rw[if_neg hc,h1]
    . have e:Lib.index (c :: r) [10] = -1:=by
        rw[JhC,Jjr,decide_eq_false hc,if_neg (by decide),if_pos (by rw[beq_iff_eq];omega)]
      have ec:Lib.cut r [10]=(r,[],false):=by unfold Lib.cut;rw[if_neg h0]
      have e2:Lib.cut (c :: r) [10]=(c :: r,[],false):=by unfold Lib.cut;rw[e];rfl
      rw[ec]at h1;rw[e2];simp only[Bool.false_eq_true,if_false]at h1 ⊢;refine⟨?_,λh=>h.elim,by simp,by simp⟩
      conv=>lhs;unfold cutD
      rw[if_neg hc,h1]
theorem Jq5(s:List UInt8):Lib.trimSuffix s [10]=JcT s:=by
 unfold Lib.trimSuffix Lib.hasSuffix JcT
 by_cases h:s.getLast?=some 10
 . rw[if_pos h]
   obtain⟨ys,rfl⟩:=List.getLast?_eq_some_iff.1 h;rw[if_pos (by rw[List.isSuffixOf_iff_suffix];exact⟨ys,rfl⟩),List.dropLast_concat];simp
 . rw[if_neg h,if_neg]
   intro hs;rw[List.isSuffixOf_iff_suffix]at hs;obtain⟨ys,rfl⟩:=hs;exact h (by simp)
attribute [local go_sem] Oper.semAt_some
def limAt (w:World):Prop:=∃m,w.cell? (Ad 0 0)=some (I6 m)
theorem limAt.below{w w':World}(h:limAt w)(hb:Bw w w'):limAt w':=by
 obtain⟨m,h⟩:=h;exact⟨m,(hb.cell (blt w _ h)).trans h⟩
theorem JsZ(t:List UInt8)(w:World):Cg 7 #[Sx t] w λe w'=>e=.returned (.func (.func 15) #[] #[Pd w.heap.size 0])/\w'=w.alloc (Oc #[Sx t] 9):=by
 have hmf:∀(fn:Fn) (first cap:Array Value) (w:World),(Instr.makeFunc fn first cap).run prog w=.ok (.func fn first cap) w:=λ_ _ _ _=>rfl
 go_enter func7,ntmps7
 go_wp2;go_ret;exact⟨rfl,rfl⟩
theorem JsY(t:List UInt8)(ht:t.length<=1000000)(sb:Nat)(W:World)(h0:W.cell? (Ad sb 0)=some (Sx t)) :
    Jlv prog 15 #[Pd sb 0] (λ_ (x:List UInt8)=>#[Sx x]) (λA B=>Bw A B/\W.heap.size<=A.heap.size) (λA B=>A.heap.size<=B.heap.size) limAt
     (λxs=>xs=cutD (JcT t)) (λpre=>∃rest,cutD (JcT t)=pre++rest) W:=by
 intro l J Jx hZ hZx hJ hJx hR hj0;have CT:Hid (∀wx:World,Cg 16 #[Sx t,.string ⟨#[10]⟩] wx λe w'=>e=.returned (Sx (JcT t))/\w'=wx):=λwx=>by
  have:=strings_TrimSuffix ⟨t.toArray⟩ ⟨#[10]⟩ wx (by simp[ByteArray.size];omega);rw[show(ByteArray.mk t.toArray).data.toList=t from rfl,show(ByteArray.mk #[10]).data.toList=[10] from rfl,Jq5]at this;exact this
 have CC:Hid (∀(r:List UInt8) (wx:World),r.length<=1000000->limAt wx->Cg 17 #[Sx r,.string ⟨#[10]⟩] wx (Rt wx (.tuple #[Sx ((Lib.cut r [10]).1),Sx ((Lib.cut r [10]).2.1),.bool (Lib.cut r [10]).2.2]))):=λr wx hr ⟨m,hm⟩ =>
  (strings_Cut ⟨r.toArray⟩ ⟨#[10]⟩ m wx (by simp[ByteArray.size];omega) hm).mono λe w' ⟨h1,k,h2⟩=>⟨h1,by rw[h2];exact⟨rfl,rfl,rfl,nlr _,λ_ _=>rfl⟩⟩
 have hl:(JcT t).length<=1000000:=by unfold JcT;split<;>first | (simp;omega) | omega
 have HL:Hid ((JcT t).length<=1000000):=hl;have HJ0:Hid (J [] W):=hj0;have HZ:Hid (∀pre A,J pre A->limAt A):=hZ;have HJ:Hid (∀pre A B,J pre A->Bw A B/\W.heap.size<=A.heap.size->J pre B):=hJ
 have HR:Hid (∀pre x A,J pre A->(∃rest,cutD (JcT t)=(pre++[x])++rest)->YieldAt Fence.wide 0 prog l #[Sx x] A λe A' =>
     (e=.returned (.bool true)/\J (pre++[x]) A'/\A.heap.size<=A'.heap.size)\/(e=.returned (.bool false)/\Jx (pre++[x]) A'/\A.heap.size<=A'.heap.size)):=hR
 clear hZ hZx hJ hJx hR hj0 hl;generalize JcT t=tt at *;refine callsIn_of_wp func15 rfl trivial ?_ rfl;simp only[ntmps15,List.size_toArray,List.length_cons,List.length_nil,Nat.reduceAdd,Nat.reduceSub,Array.replicate_succ,Array.replicate_zero,List.push_toArray,List.append_toArray,List.nil_append,List.cons_append]
 gi_wp2_with (refine⟨trivial,rfl,?_⟩;gi_at_call 16;refine(callsIn_wide.2 (CT.out _)).mono ?_;rintro e w1 ⟨rfl,hw1⟩;obtain rfl:=hw1.symm)
 gi_loopw [3,4] (λv3 v4 wr=>∃(pre:List (List UInt8)) (rest:List UInt8),v3=Sx rest/\rest.length<=1000000/\(J pre wr/\W.heap.size<=wr.heap.size)/\(v4=.bool true/\cutD tt=pre++cutD rest\/v4=.bool false/\pre=cutD tt)) (λv3 v4 _=>match v3,v4 with | .string s,.bool true=>s.size+1 | _,_=>0)
 case atStart=>exact⟨[],tt,rfl,HL.out,⟨HJ0.out,nlr _⟩,.inl ⟨rfl,rfl⟩⟩
 case round =>
  obtain⟨pre,rest,rfl,hrl,⟨hj,hws⟩,⟨rfl,heq⟩|⟨rfl,heq⟩⟩:=hrel
  . obtain ⟨k1,k2,k3,k4⟩:=Jqg rest
    have hlim:=HZ.out pre wr hj;have CC2:Hid _:=CC.out rest wr hrl hlim;have HJP:Hid (J pre wr):=hj;have HWS:Hid (W.heap.size<=wr.heap.size):=hws;generalize hb:(Lib.cut rest [10]).1=B at *;generalize ha:(Lib.cut rest [10]).2.1=A1 at *;generalize hm:(Lib.cut rest [10]).2.2=M at *;have HSP:Hid (∃r,cutD tt=(pre++[B])++r):=⟨if M=true then cutD A1 else [],by rw[heq,k1];simp⟩;have HNX:Hid (M=true->cutD tt=(pre++[B])++cutD A1):=λe=>by rw[heq,k1,if_pos e];simp
    have HEND:Hid (M=false->pre++[B]=cutD tt):=λe=>by rw[heq,k1,if_neg (by rw[e];decide)]
    have HLA:Hid (A1.length<=1000000/\(M=true->A1.length<rest.length)):=⟨by omega,k2⟩;clear heq k1 k2 k3 k4 hb ha hm hlim hj hws CC CT
    gi_wp2_with (refine⟨trivial,rfl,?_⟩;gi_at_call 17;refine(callsIn_wide.2 CC2.out).mono ?_;rintro e w2 ⟨rfl,hb2⟩;have HJ2:Hid (J pre w2):=HJ.out _ _ _ HJP.out ⟨hb2,HWS.out⟩;have HS2:Hid (wr.heap.size<=w2.heap.size):=hb2.size;obtain⟨fn,tmps,assign,body,hyy,hRd⟩:=HR.out pre B w2 HJ2.out HSP.out;clear hb2)
    refine⟨rfl,hRd.mono ?_⟩;rintro e A' (⟨rfl,hj2,hsz⟩|⟨rfl,hjx,_⟩)
    . have HJ3:Hid (J (pre++[B]) A'/\W.heap.size<=A'.heap.size):=⟨hj2,Nat.le_trans HWS.out (Nat.le_trans HS2.out hsz)⟩
      clear hj2 hRd hyy hsz
      gi_wp2
      go_roundw
      case rel=>exact⟨pre++[B],A1,rfl,HLA.out.1,HJ3.out,by
       cases M with
       | true=>exact .inl ⟨rfl,HNX.out rfl⟩
       | false=>exact .inr ⟨rfl,HEND.out rfl⟩⟩
      case measure =>
       cases M with
       | true=>have:=HLA.out.2 rfl;simp[ByteArray.size];omega
       | false=>simp
    . have HJX:Hid (Jx (pre++[B]) A'):=hjx
      clear hjx hRd hyy
      gi_wp2
      refine bodyPost_ret (results_none rfl _ _ _) rfl ?_;exact⟨⟨_,rfl⟩,.inr ⟨_,HSP.out,HJX.out⟩⟩
  . have HX:Hid (J (cutD tt) wr):=by rw[←heq];exact hj
    clear heq hj hws
    gi_wp2
    go_end0;exact⟨⟨_,rfl⟩,.inl ⟨_,rfl,HX.out⟩⟩
end
section
/-! lines, one behind the other -/
variable {w A B : World}{β q : Nat}{r : Loop}{S : DkS}{out : List UInt8}
def endD {σ:Type} (f:σ->List UInt8->σ×List UInt8):σ->List (List UInt8)->σ
 | s,[]=>s
 | s,x :: xs=>endD f (f s x).1 xs
theorem JmX{σ:Type}(f:σ->List UInt8->σ×List UInt8):∀(a:List (List UInt8))(x:List UInt8)(s:σ),runD f s (a++[x])=runD f s a++(f (endD f s a) x).2++[10]/\endD f s (a++[x])=(f (endD f s a) x).1
 | [],x,s=>⟨by simp[runD,endD],rfl⟩
 | y :: a,x,s=>by
  obtain⟨h1,h2⟩:=JmX f a x (f s y).1;exact⟨by simp[runD,h1,endD],by simp[endD,h2]⟩
theorem JhI:∀s:List UInt8,(cutD s).length<=s.length+1/\∀x∈cutD s,x.length<=s.length
 | []=>⟨by simp[cutD],λx hx=>by simp[cutD]at hx;subst hx;simp⟩
 | c :: r=>by
  obtain⟨h1,h2⟩:=JhI r;unfold cutD
  split
  . refine⟨by simp;omega,λx hx=>?_⟩
    rcases List.mem_cons.1 hx with rfl|hx
    . simp
    . have:=h2 x hx;simp;omega
  . split
    . rename_i y ys e
      rw[e]at h1 h2;refine⟨by simp at h1 ⊢;omega,λx hx=>?_⟩
      rcases List.mem_cons.1 hx with rfl|hx
      . have:=h2 y (by simp);simp;omega
      . have:=h2 x (by simp[hx]);simp;omega
    . exact⟨by simp,λx hx=>by rw[List.mem_singleton.1 hx];simp⟩
theorem JkB:∀(pre:List (List UInt8))(S:DkS)(k:Nat),DInv k S->(∀x∈pre,x.length<=2001)->k+pre.length<=2900->DInv (k+pre.length) (endD Jcu S pre)/\(runD Jcu S pre).length<=20001*pre.length
 | [],S,k,hd,_,_=>⟨hd,by simp[runD]⟩
 | x :: pre,S,k,hd,hx,hl=>by
  simp only[List.length_cons]at hl;have hx':=hx x (by simp);have h3:=JkD x hx' hd (by omega);obtain⟨h1,h2⟩:=JkB pre (Jcu S x).1 (k+1) (Jrd x hx' hd) (λy hy=>hx y (by simp[hy])) (by omega);refine⟨?_,?_⟩
  . have e:k+(x :: pre).length=k+1+pre.length:=by simp;omega
    rw[e];exact h1
  . simp only[runD,List.length_append,List.length_cons]
    omega
theorem Jnn(pre:List (List UInt8))(hx:∀x∈pre,x.length<=2001)(hl:pre.length<=2900):DInv pre.length (endD Jcu Jcr pre)/\(runD Jcu Jcr pre).length<=20001*pre.length:=by
 have:=JkB pre Jcr 0 Jrp hx (by omega);rwa[Nat.zero_add]at this
/-! in memory -/
structure sesI (w:World) (β q:Nat) (r:Loop) (S:DkS) (out:List UInt8) (A:World):Prop where
 low:w.heap.size<=β
 below:Bw w A
 size:β+5<=A.heap.size
 ses:isSes w.heap.size A q S
 lim:limAt A
 bld:Lib.IsBuilder 31 5 β (β+1) (Lib.byteCells out) A
 hv:A.heap[β]?=some (Oc #[Pd q 0] 26)
 h3:A.heap[β+3]?=some (.deferred (some []))
 h4:A.heap[β+4]?=some (.loop r)
theorem sesI.grow(h:sesI w β q r S out A)(hb:Bw A B):sesI w β q r S out B:=by
 have hs:=h.size;exact⟨h.low,h.below.trans (hb.mono h.below.size),Nat.le_trans hs hb.size,h.ses.below hb,h.lim.below hb,JnR h.bld (hb.block (β+1) (by omega)) (λv hv=>Jbl hv hb),(hb.block β (by omega)).trans h.hv,(hb.block (β+3) (by omega)).trans h.h3,(hb.block (β+4) (by omega)).trans h.h4⟩
theorem sesI.put{r':Loop}(h:sesI w β q r S out A)(hp:Put1 (β+4) A B)(hl:B.heap[β+4]?=some (.loop r')):sesI w β q r' S out B:=by
 have hs:=h.size;have hlo:=h.low;have hsb:sameBut A B (λk=>k=β+4):=⟨Nat.le_of_eq hp.size.symm,λk _ hk=>hp.block k hk,hp.os,hp.tape,hp.output⟩;have hno:∀cs T fz,A.heap[β+4]?≠some (.cells cs T fz):=λcs T fz e=>by rw[h.h4]at e;cases e
 refine⟨hlo,h.below.trans (hp.below (by omega)),by rw[hp.size];exact hs,?_,?_,JnR h.bld (hp.block (β+1) (by omega)) (λv hv=>JsI hv h.h4 hp),(hp.block β (by omega)).trans h.hv,(hp.block (β+3) (by omega)).trans h.h3,hl⟩
 . -- the loop's record is none of a session's blocks
   obtain⟨h0,hl',rr,bx,bmx,bs,mp,g1,g2,g3,g4⟩:=h.ses;have nq:q≠β+4:=λe=>hno _ _ _ (e ▸ g1);have nm:mp≠β+4:=λe=>by unfold JeK at g4;rw[e,h.h4]at g4;cases g4
   refine⟨h0.same hsb λk e=>by omega,hl',rr,bx,bmx,bs,mp,(hp.block q nq).trans g1,Jgf g2 hsb λk hk e=>?_,g3,(hp.block mp nm).trans g4⟩;subst e;exact ⟨by omega,λcs fz e=>hno _ _ _ e,λe=>(by
    obtain⟨D,⟨es,clock,hb,_⟩,_⟩:=g2.srv.2.2.2
    rw[←e,h.h4]at hb;cases hb),λcs T fz e=>absurd e (hno _ _ _)⟩
 . obtain ⟨m,hm⟩:=h.lim
   exact ⟨m,(hp.cell (b:=0) (o:=0) λe=>by
    have hc:=blt A _ hm;unfold World.cell? at hm;simp only at hm
    rw[e,h.h4]at hm;cases hm).trans hm⟩
theorem sesI.said{S':DkS}(h:sesI w β q r S out A)(hx:isSes w.heap.size B q S')(hs:sameBut A B (Jbx w.heap.size A))(hg:0<w.heap.size):sesI w β q r S' out B:=by
 have hz:=h.size
 have no:∀{k:Nat} {cs:Array Value} {T:TypeId} {fz:Nat×Nat},A.heap[k]?=some (.cells cs T fz)->¬Jj3 T->¬Jbx w.heap.size A k:=λhc hT e=>by
  rcases e.2 with ⟨cs',T',hc',hT'⟩|⟨es,c,hm⟩
  . have:=JaB hc hc'
    subst this;exact hT hT'
  . rw[hm]at hc;cases hc
 have nl:∀{k:Nat} {o:Obj},A.heap[k]?=some o->(∀cs T fz,o≠.cells cs T fz)->(∀es c,o≠.map es c)->¬Jbx w.heap.size A k:=λhk h1 h2 e=>by
  rcases e.2 with ⟨cs',T',hc',hT'⟩|⟨es,c,hm⟩
  . rw[hk]at hc';injection hc' with e;exact h1 _ _ _ e
  . rw[hk]at hm;injection hm with e;exact h2 _ _ e
 have hbk:A.heap[β+1]?=some (Oc (A.heap[β+1]?.elim #[] λo=>match o with | .cells cs _ _=>cs | _=>#[]) 31):=by
  rcases h.bld with ⟨_,v,hb,_⟩|⟨_,v,hb,_⟩<;>rw[hb]<;>rfl
 have n1:=no hbk (by unfold Jj3 Jfh;decide)
 refine ⟨h.low,⟨hs.os.trans h.below.os,hs.tape.trans h.below.tape,hs.output.trans h.below.output,Nat.le_trans h.below.size hs.size,λk hk=>(hs.block k (Nat.lt_of_lt_of_le hk h.below.size) λe=>absurd e.1 (Nat.not_le.2 hk)).trans (h.below.block k hk)⟩,Nat.le_trans hz hs.size,hx,?_,
  JnR h.bld (hs.block (β+1) (by omega) n1) (λv hv=>JcP hv hs λk hk=>?_),(hs.block β (by omega) (no h.hv (by unfold Jj3 Jfh;decide))).trans h.hv,(hs.block (β+3) (by omega) (nl h.h3 (by intro cs T fz e;cases e) (by intro es c e;cases e))).trans h.h3,(hs.block (β+4) (by omega) (nl h.h4 (by intro cs T fz e;cases e) (by intro es c e;cases e))).trans h.h4⟩
 . obtain⟨m,hm⟩:=h.lim
   exact⟨m,JcM hs hm λe=>absurd e.1 (Nat.not_le.2 hg)⟩
 . obtain⟨_,_,cs,hc⟩:=Jeh hv hk
   exact no hc (by unfold Jj3 Jfh;decide)
theorem sesI.wrote{out':List UInt8}(h:sesI w β q r S out A)(h1:Lib.IsBuilder 31 5 β (β+1) (Lib.byteCells out') B)(h2:Below β A B)(h3:Lib.OthersKept 5 (some (β+1)) A B)(hg:0<w.heap.size):sesI w β q r S out' B:=by
 have hz:=h.size;have hlo:=h.low
 have hsb:sameBut A B (λk=>β<=k/\(k=β+1\/∃c fz,A.heap[k]?=some (.cells c 5 fz))):=⟨h2.size,λk hk hn=>by
  rcases Nat.lt_or_ge k β with hk' | hk'
  . exact h2.block k hk'
  . obtain⟨o,ho⟩:∃o,A.heap[k]?=some o:=⟨_,Array.getElem?_eq_getElem hk⟩
    exact(h3 k o ho (λe=>hn ⟨hk',.inl (osi e)⟩) λc fz e=>hn ⟨hk',.inr ⟨c,fz,e ▸ ho⟩⟩).trans ho.symm,h2.os,h2.tape,h2.output⟩
 have hbk:∃cs,A.heap[β+1]?=some (Oc cs 31):=by rcases h.bld with ⟨_,v,hb,_⟩|⟨_,v,hb,_⟩<;>exact⟨_,hb⟩
 refine⟨hlo,h.below.trans (h2.mono hlo),Nat.le_trans hz h2.size,Jnt h.ses hsb λk hk e=>⟨by omega,?_⟩,?_,h1,h3 _ _ h.hv (by simp) (by intro c fz e;cases e),h3 _ _ h.h3 (by simp) (by intro c fz e;cases e),h3 _ _ h.h4 (by simp) (by intro c fz e;cases e)⟩
 . rcases e.2 with rfl | ⟨c,fz,hc⟩
   . obtain⟨cs,hc⟩:=hbk
     exact⟨cs,_,_,hc,by unfold Jj3 Jfh;decide,by decide⟩
   . exact⟨c,_,fz,hc,by unfold Jj3 Jfh;decide,by decide⟩
 . obtain⟨m,hm⟩:=h.lim
   exact⟨m,(zC h2 0 0 (Nat.lt_of_lt_of_le hg hlo)).trans hm⟩
attribute [local go_sem] Oper.semAt_some
theorem Jo2(t:List UInt8)(ht:t.length<=2001)(w:World)(he:EnvD w.heap.size w)(hlim:limAt w) :
    Cg 4 #[.string ⟨t.toArray⟩] w (Rt w (.string ⟨(Jez t).toArray⟩)):=by
 have CN:Hid _:=JjZ w he;have HLIM:Hid (limAt w):=hlim;have HG:Hid (0<w.heap.size):=by obtain⟨m,hm⟩:=hlim;exact blt w _ hm
 have hsz:¬(20000:Int)<(t.length:Int):=by omega
 have HT:Hid (t.length<=2001):=ht;have htd:(JcT t).length<=2001:=by unfold JcT;split<;>first | (simp;omega) | omega
 obtain⟨c1,c2⟩:=JhI (JcT t);have HC:Hid ((cutD (JcT t)).length<=2002/\∀x∈cutD (JcT t),x.length<=2001):=⟨by omega,λx hx=>by have:=c2 x hx;omega⟩;obtain⟨SD,hSD⟩:∃SD:ByteArray,ByteArray.mk (Jez t).toArray=SD:=⟨_,rfl⟩;have HSD:Hid (ByteArray.mk (runD Jcu Jcr (cutD (JcT t))).toArray=SD):=hSD;rw[hSD];clear he hlim ht htd c1 c2 hSD;refine(callsIn_wide (n:=3)).1 ?_;refine callsIn_of_wp_marks func4 rfl trivial ?_ rfl;simp only[ntmps4,List.size_toArray,List.length_cons,List.length_nil,Nat.reduceAdd,Nat.reduceSub,Array.replicate_succ,Array.replicate_zero,List.push_toArray,List.append_toArray,List.nil_append,List.cons_append]
 gi_wp2_with (first
  | (refine⟨trivial,?_⟩;gi_at_call 6;refine(callsIn_wide.2 CN.out).mono ?_;rintro e w1 ⟨q,rfl,hs1,hb1⟩;have HS1:=hdz hs1;have HB1:=hdz hb1;clear hs1 hb1)
  | (refine⟨trivial,?_⟩;gi_at_call 7;refine(callsIn_wide.2 (JsZ t _)).mono ?_;rintro e w2 ⟨rfl,rfl⟩))
 have hlt1:w.heap.size<=w1.heap.size:=HB1.out.size;obtain⟨β,hβ⟩:∃β,w1.heap.size=β:=⟨_,rfl⟩;obtain⟨W4,hW4⟩:∃W4,W4=((w1.alloc (Oc #[Pd q 0] 26)).alloc (Oc #[.pointer none,.slice none 0 0] 31)).alloc (Oc #[.string ⟨t.toArray⟩] 9):=⟨_,rfl⟩;have hb14:Below w1.heap.size w1 W4:=by rw[hW4];exact(((brf _ w1).alloc (nlr _) _).alloc (by simp) _).alloc (by simp;omega) _
 have hb4:Below w.heap.size w W4:=HB1.out.trans (hb14.mono HB1.out.size);have hs4:W4.heap.size=β+3:=by rw[hW4,←hβ];simp
 have q0:W4.heap[β]?=some (Oc #[Pd q 0] 26):=by rw[hW4,←hβ];exact(heap_alloc_old _ _ (by rw[wsa,World.size_alloc];omega)).trans ((heap_alloc_old _ _ (by rw[wsa];omega)).trans (heap_alloc_new _ _))
 have q1:W4.heap[β+1]?=some (Oc #[.pointer none,.slice none 0 0] 31):=by rw[hW4,←hβ];exact(heap_alloc_old _ _ (by simp)).trans (by have:=heap_alloc_new (w1.alloc (Oc #[Pd q 0] 26)) (Oc #[.pointer none,.slice none 0 0] 31);rwa[World.size_alloc]at this)
 have q2:W4.heap[β+2]?=some (Oc #[.string ⟨t.toArray⟩] 9):=by rw[hW4,←hβ];have:=heap_alloc_new ((w1.alloc (Oc #[Pd q 0] 26)).alloc (Oc #[.pointer none,.slice none 0 0] 31)) (Oc #[.string ⟨t.toArray⟩] 9);rwa[World.size_alloc,World.size_alloc]at this
 have HS4:Hid (isSes w.heap.size W4 q Jcr):=HS1.out.below hb14;rw[←hW4,hβ];rw[hβ]at hlt1;clear hW4 CN hβ hb14 HS1
 refine JgH (gf:=15) (lb:=#[.pointer (some (Ad (β+1+1) 0))]) rfl (enters_of func15 (by kernel_rfl) rfl) (encs:=λ_ (x:List UInt8)=>#[.string ⟨x.toArray⟩]) (λ_ _=>rfl)
  (It:=λA B=>Below A.heap.size A B/\β+5<=A.heap.size) (Kp:=λA B=>A.heap.size<=B.heap.size) (Z:=limAt) (S:=λxs=>xs=cutD (JcT t)) (Sp:=λpre=>∃rest,cutD (JcT t)=pre++rest)
  ?seq ?its (λh k=>Nat.le_trans h k) ?hkb
  (λpre W=>∃r,sesI w β q r (endD Jcu Jcr pre) (runD Jcu Jcr pre) W)
  (λ_ _ _=>False) (λ_ _ h=>by obtain⟨r,h⟩:=h;exact h.lim) (λ_ _ _ h=>h.elim) ?ii ?ib (λ_ _ _ _ h _=>h) (λ_ _ _ _ h=>h) ?h0 ?round ?done (λ_ _ _ _ h=>h.elim)
 case seq =>
  intro W hs1 hb1;rw[hs4]at hs1 hb1;have:=JsY t (by have:=HT.out;omega) (β+1+1) W (chp ((hb1.block (β+2) (by omega)).trans q2) 0);rw[hs1]at this;exact this
 case its=>exact λA B h=>Same2.of_below h.1 (by rw[hs4];omega)
 case hkb=>exact λA r=>by simp
 case ii=>exact λpre A B h hb=>by obtain⟨r,h⟩:=h;exact⟨r,h.grow hb.1⟩
 case ib =>
  rintro pre A r ⟨r0,h⟩;rw[hs4];exact⟨r,h.put (Put1.putObj _ _ _) (World.putObj_heap_same (by have:=h.size;omega))⟩
 case h0 =>
  rintro W hs hb ⟨r,hr⟩ hd;rw[hs4]at hs hb hr hd;have hb':Below W4.heap.size W4 W:=by rw[hs4];exact hb
  exact⟨r,hlt1,hb4.trans (hb.mono (by omega)),by omega,HS4.out.below hb',(HLIM.out.below hb4).below hb',.inl ⟨by omega,.slice none 0 0,(hb.block (β+1) (by omega)).trans q1,World.ownsRow_nil _ _ _ _,by simp[Value.ownBlock]⟩,(hb.block β (by omega)).trans q0,hd,hr⟩
 case round =>
  rintro l pre x W ⟨r0,hI⟩ hlW ⟨rest,hSp⟩;rw[hs4]at hlW ⊢;have hpl:pre.length<=2001:=by have:=congrArg List.length hSp;have:=HC.out.1;simp at *;omega
  have hpx:∀y∈pre++[x],y.length<=2001:=λy hy=>HC.out.2 y (by rw[hSp];exact List.mem_append_left _ hy);have hx:=hpx x (by simp);obtain⟨hD,hO⟩:=Jnn pre (λy hy=>hpx y (by simp[hy])) (by omega);obtain⟨n1,n2⟩:=JmX Jcu pre x Jcr;have hshort:=JkD x hx hD (by omega);have HI:=hdz hI;have CA:Hid (∀wx,isSes w.heap.size wx q (endD Jcu Jcr pre)->Cg 9 #[Pd q 0,.string ⟨x.toArray⟩] wx λe w'=>e=.returned (.string ⟨(Jcu (endD Jcu Jcr pre) x).2.toArray⟩)/\isSes w.heap.size w' q (Jcu (endD Jcu Jcr pre) x).1/\sameBut wx w' (Jbx w.heap.size wx)):=λwx h=>JrI x hx h hD (by omega);have HN:Hid (runD Jcu Jcr (pre++[x])=(runD Jcu Jcr pre++(Jcu (endD Jcu Jcr pre) x).2)++[10]/\endD Jcu Jcr (pre++[x])=(Jcu (endD Jcu Jcr pre) x).1):=⟨n1,n2⟩;have HL:Hid ((runD Jcu Jcr pre).length+(Jcu (endD Jcu Jcr pre) x).2.length<=100000000):=by show _<=_;omega
  generalize hST:endD Jcu Jcr pre=ST at *;generalize runD Jcu Jcr pre=OUT at *;generalize hAN:Jcu ST x=AN at *;obtain⟨ST2,AN2⟩:=AN;simp only at CA HN HL;clear hI hSp q0 q1 q2 hb4 hx hpx hpl hD hO n1 n2 hshort hST hAN HS4 HSD HC
  gi_wp2
  refine⟨Same2.refl _ W,nlr _,?_⟩;intro w2 hp ⟨r,hr⟩;have hI2:=HI.out.put hp hr;have HI2:=hdz hI2;have g0:=cQ hI2.hv 0 rfl;clear hp hr hI2
  gi_wp2_with (first
   | (refine⟨trivial,rfl,?_⟩;gi_at_call 9;refine(CallsIn.inRound l (callsIn_wide.2 (CA.out _ (sesI.ses HI2.out)))).mono ?_;rintro e w3 ⟨rfl,h1,h2⟩;have HI3:Hid _:=sesI.said HI2.out h1 h2 HG.out;have HZ3:Hid (w2.heap.size<=w3.heap.size):=h2.size;clear h1 h2)
   | (refine⟨trivial,rfl,?_⟩;gi_at_call 8;refine(CallsIn.inRound l (callsIn_wide.2 (Jc7 β (β+1) _ _ _ (sesI.bld HI3.out) (by have:=HL.out;rw[Lib.byteCells_length];show _+AN2.toArray.size<=_;simp only[List.size_toArray];omega) (by have:=sesI.size HI3.out;omega)))).mono ?_;rintro e w4 ⟨⟨v4,rfl⟩,hw4,hb4,hk4⟩;have HI4:Hid (sesI w β q r ST2 (OUT++AN2) w4):=sesI.wrote HI3.out (by rw[Lib.byteCells_append];exact hw4) hb4 hk4 HG.out;have HZ4:Hid (w3.heap.size<=w4.heap.size):=hb4.size;clear hw4 hb4 hk4)
   | (refine⟨trivial,rfl,?_⟩;gi_at_call 10;refine(CallsIn.inRound l (callsIn_wide.2 (Jm2 β (β+1) _ 10 _ (sesI.bld HI4.out) (by have:=HL.out;rw[Lib.byteCells_length,List.length_append];omega) (by have:=sesI.size HI4.out;omega)))).mono ?_;rintro e w5 ⟨rfl,hw5,hb5,hk5⟩;have HI5:Hid (sesI w β q r ST2 (OUT++AN2++[10]) w5):=sesI.wrote HI4.out (by rw[Lib.byteCells_append];exact hw5) hb5 hk5 HG.out;have HZ5:Hid (w4.heap.size<=w5.heap.size):=hb5.size;clear hw5 hb5 hk5))
  refine⟨⟨(sesI.h3 HI5.out).trans (sesI.h3 HI2.out).symm,(sesI.h4 HI5.out).trans (sesI.h4 HI2.out).symm⟩,Nat.le_trans HZ3.out (Nat.le_trans HZ4.out HZ5.out),r,?_⟩;rw[HN.out.1,HN.out.2];exact HI5.out
 case done =>
  rintro xs W rfl ⟨r,hI⟩ hDef;rw[hs4]at hDef ⊢;have HI:=hdz hI;have cS:=JhQ β (β+1) _ W (sesI.bld hI) (by have:=hI.size;omega);rw[HSD.out]at cS;clear hI q0 q1 q2 hb4
  gi_wp2_with (refine⟨trivial,?_⟩;gi_at_call 11;refine(callsIn_wide.2 cS).mono ?_;rintro e w6 ⟨rfl,hb6,hk6⟩)
  have hDef6:=hk6 _ _ hDef (λe=>by have:=osi e;omega) (by intro c fz e;cases e);have hP:=Put1.putObj (β+3) w6 (.deferred none);refine⟨by simp,.inl ⟨_,_,rfl,run_takeDeferred hDef6,?_⟩⟩;exact⟨.string SD,by simp[results,results4,go_sem],rfl,((sesI.below HI.out).trans (hb6.mono hlt1)).trans (hP.below (by omega))⟩
end
theorem Jn0:Jez [99,111,117,110,116,32,97,98,47,10,120,10]=[51,32,51,32,51,32,49,10,101,114,114,111,114,32,51,10]:=by decide +kernel
theorem JmT(t:List UInt8)(ht:t.length<=2001):(Jez t).length<=50000000:=by
 have htd:(JcT t).length<=2001:=by unfold JcT;split<;>first | (simp;omega) | omega
 obtain⟨c1,c2⟩:=JhI (JcT t);have:=(Jnn (cutD (JcT t)) (λx hx=>by have:=c2 x hx;omega) (by omega)).2;unfold Jez;omega
theorem EnvD.grow{lo hi:Nat}{w:World}(h:EnvD lo w)(hl:lo<=hi):EnvD hi w :=
 ⟨⟨h.env.lay,h.env.tabs,Nat.lt_of_lt_of_le h.env.g1 hl,Nat.lt_of_lt_of_le h.env.g2.1 hl,Nat.lt_of_lt_of_le h.env.g2.2 hl⟩,h.nums,Nat.lt_of_lt_of_le h.low.1 hl,Nat.lt_of_lt_of_le h.low.2.1 hl,Nat.lt_of_lt_of_le h.low.2.2 hl⟩
def Jja (s:ByteArray):ByteArray:=⟨(Jez s.data.toList).toArray⟩
theorem JlH(s:ByteArray)(hs:s.size<=2001)(w:World)(he:EnvD w.heap.size w)(hlim:limAt w) :
    Cg 4 #[.string s] w (Rt w (.string (Jja s))):=by
 have:=Jo2 s.data.toList (by simpa using hs) w he hlim;simpa[Jja] using this
theorem Jkz(s:ByteArray)(hs:s.size<=2001):(Jja s).size<=50000000:=by
 have:=JmT s.data.toList (by simpa using hs);simpa[Jja,ByteArray.size] using this
theorem JmW(a b:ByteArray):∃r,Jja (a ++ ⟨#[10]⟩++b)=Jja (a ++ ⟨#[10]⟩)++r:=by
 obtain⟨r,h⟩:=Jo6 Jcu Jcr a.data.toList b.data.toList;refine⟨⟨r.toArray⟩,?_⟩;apply ByteArray.ext;simp only[Jja,Jez,ByteArray.data_append,Array.toList_append,List.append_assoc,List.cons_append,List.nil_append,h];simp
theorem Jv1(X r:ByteArray):(X++r).extract 0 X.size=X:=by
 apply ByteArray.ext;rw[ByteArray.data_extract,ByteArray.data_append];have:X.size=X.data.size:=rfl;rw[this,Array.extract_append];simp
theorem Jka(a b:ByteArray)(ha:a.size<=140737488355328)(hb:b.size<=140737488355328)(w:World)(he:EnvD w.heap.size w)(hlim:limAt w) :
    Cg 3 #[.string a,.string b] w (Rt w (.bool true)):=by
 by_cases h:2000<a.size+b.size
 . have h':(2000:Int)<(a.size:Int)+(b.size:Int):=by omega
   clear h he hlim
   go_enter func3,ntmps3
   go_wp2;go_ret;exact⟨rfl,brf _ _⟩
 have h':¬(2000:Int)<(a.size:Int)+(b.size:Int):=by omega
 have z1:a.size<=2000:=by omega
 have z2:b.size<=2000:=by omega
 have v1u:¬IntKind.i64.max<((a.size+(⟨#[10]⟩:ByteArray).size:Nat):Int):=by rw[show(⟨#[10]⟩:ByteArray).size=1 from rfl];simp[IntKind.max,IntKind.bits,IntKind.signed];omega
 obtain⟨A1,hA1⟩:∃A1,a++(⟨#[10]⟩:ByteArray)=A1:=⟨_,rfl⟩;have z3:A1.size=a.size+1:=by rw[←hA1,ByteArray.size_append];rfl
 obtain⟨A2,hA2⟩:∃A2,A1++b=A2:=⟨_,rfl⟩;have z4:A2.size=A1.size+b.size:=by rw[←hA2,ByteArray.size_append]
 have v2u:¬IntKind.i64.max<((A1.size+b.size:Nat):Int):=by simp[IntKind.max,IntKind.bits,IntKind.signed];omega
 have CS:∀(s:ByteArray),s.size<=2001->∀wx,Bw w wx->Cg 4 #[.string s] wx (Rt wx (.string (Jja s))):=λs hs wx hb=>JlH s hs wx ((he.below hb).grow hb.size) (hlim.below hb);have first:Jja ⟨#[99,111,117,110,116,32,97,98,47,10,120,10]⟩=⟨#[51,32,51,32,51,32,49,10,101,114,114,111,114,32,51,10]⟩:=by
  unfold Jja;rw[show Jez (ByteArray.data ⟨#[99,111,117,110,116,32,97,98,47,10,120,10]⟩).toList=_ from Jn0]
 have y1:(A1.size:Int)<=8388608:=by omega
 have y2:(b.size:Int)<=8388608:=by omega
 have y3:(a.size:Int)<=8388608:=by omega
 have y4:((⟨#[10]⟩:ByteArray).size:Int)<=8388608:=by decide
 obtain⟨r,hr⟩:=JmW a b;rw[hA1,hA2]at hr;have s1:=Jkz A1 (by omega);have s2:=Jkz A2 (by omega);have C0:=CS ⟨#[99,111,117,110,116,32,97,98,47,10,120,10]⟩ (by decide);have C1:=CS A1 (by omega);have C2:=CS A2 (by omega);rw[hr]at s2 C2;rw[first]at C0;rw[ByteArray.size_append]at s2;clear v1u v2u h he hlim first hr CS z3 z4 ha hb
 generalize Jja A1=X at *;have hzx:(X++r).size=X.size+r.size:=ByteArray.size_append;have HC0:=hdz C0;have HC1:=hdz C1;have HC2:=hdz C2;clear C0 C1 C2
 go_enter func3,ntmps3
 go_wp2_with (first
  | (have:=HB2.out;clear this;go_at_call 4;refine(HC2.out _ HB2.out).mono ?_;rintro e w3 ⟨rfl,hb3⟩;have HB3:=hdz (HB2.out.trans (hb3.mono HB2.out.size));clear hb3)
  | (have:=HB1.out;clear this;go_at_call 4;refine(HC1.out _ HB1.out).mono ?_;rintro e w2 ⟨rfl,hb2⟩;have HB2:=hdz (HB1.out.trans (hb2.mono HB1.out.size));clear hb2)
  | (go_at_call 4;refine(HC0.out _ (brf _ _)).mono ?_;rintro e w1 ⟨rfl,hb1⟩;have HB1:=hdz hb1;clear hb1))
 go_ret;refine⟨?_,HB3.out⟩;rw[Jv1 X r];exact congrArg (λx=>Ending.returned (Value.bool x)) (beq_self_eq_true X.toList)
end Go.Proofs.YtbkeomcicobohaaGreatDoor
