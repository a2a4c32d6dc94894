/-
  A part of the texts that the proof uses.
-/
import Derived.Test.YtedgnlgjmnccgabGreatDoorPartE
import Derived.Test.YtedgnlgjmnccgabGreatDoorPartD
import Derived.Test.YtedgnlgjmnccgabGreatDoorPartB
import Derived.Test.YtedgnlgjmnccgabGreatDoorPartC
import Derived.Test.YtedgnlgjmnccgabGreatDoorPartA
import Derived.Laws.AppendOwnNone
import Derived.Lib.ConvBytes
set_option maxRecDepth 100000
set_option maxHeartbeats 40000000
set_option linter.unusedVariables false
namespace Go.Proofs.YtedgnlgjmnccgabGreatDoor
section
variable {a b l t : List UInt8}{p : Pt}{ps : List Pt}
def V (l:List UInt8):Prop:=∃rs:List Nat,(∀r∈rs,Jas r)/\l=encs rs
theorem Jdz:V []:=⟨[],by simp,rfl⟩
theorem Jd0(ha:V a)(hb:V b):V (a++b):=by
 obtain⟨x,hx,rfl⟩:=ha;obtain⟨y,hy,rfl⟩:=hb;exact⟨x++y,fun r hr=>(List.mem_append.1 hr).elim (hx r) (hy r),(JbQ x y).symm⟩
theorem Jmi(h:V l):(scan l).2=true:=by
 obtain⟨x,hx,rfl⟩:=h;rw[JbT x hx]
theorem Jg2(h:(scan l).2=true):V l:=⟨Jam l,fun r hr=>JbV hr,(JbM h).symm⟩
theorem Jr6(ha:V a)(hab:V (a++b)):V b:=by
 obtain⟨rs,hr,rfl⟩:=ha
 induction rs generalizing b with
 | nil=>exact hab
 | cons r rs ih =>
  obtain⟨qs,hq,e⟩:=hab;rw[Jco,List.append_assoc]at e;have h1:=JgN (hr r (by simp)) (encs rs++b)
  cases qs with
  | nil =>
   have:=congrArg List.length e;have h2:=List.length_pos_iff.2 (JnY r);have h3:(encs []).length=0:=rfl;rw[List.length_append]at this;omega
  | cons q qs =>
   rw[Jco]at e;have h2:=JgN (hq q (by simp)) (encs qs);rw[←e,h1.1]at h2;obtain⟨h2,_⟩:=h2;obtain rfl:r=q:=congrArg Prod.fst h2;exact ih (fun x hx=>hr x (by simp[hx])) ⟨qs,fun x hx=>hq x (by simp[hx]),List.append_cancel_left e⟩
theorem V_start{b:UInt8}(h:V (b :: l)):JfU b=true:=by
 obtain⟨rs,hr,e⟩:=h
 cases rs with
 | nil=>simp[encs]at e
 | cons r rs =>
  obtain⟨b0,t,e2,h1,_⟩:=Jjm (hr r (by simp));rw[Jco,e2,List.cons_append]at e;have:b=b0:=(List.cons.inj e).1;rw[this];exact h1
theorem Jt7{n:Nat}(hl:V l)(hn:V (l.take n)):V (l.drop n):=Jr6 hn (by rw[List.take_append_drop];exact hl)
def al:List Pt->List UInt8->Prop
 | [],_=>True
 | p :: ps,t=>V p.put/\V (t.take (lenP p).toNat)/\al ps (t.drop (lenP p).toNat)
structure good (ps:List Pt) (t:List UInt8):Prop where
 one:∀p∈ps,oneP p
 long:Jag ps=t.length
 al:al ps t
theorem Jbo(p:Pt)(ps:List Pt):Jag (p :: ps)=lenP p+Jag ps:=by simp[Jag]
theorem JhV(h:oneP p):0<=lenP p:=by
 rcases h with ⟨h1,h2,h3⟩|⟨h1,h2,h3⟩|⟨h1,h2,h3⟩<;>simp only[lenP]<;>omega
theorem Jgh(h:∀p∈ps,oneP p):0<=Jag ps:=by
 induction ps with
 | nil=>simp[Jag]
 | cons p ps ih =>
  have h1:=ih fun q hq=>h q (by simp[hq]);have h2:=JhV (h p (by simp));rw[Jbo];omega
theorem oneB_of(h:oneP p):oneB p=true:=by
 unfold oneB;obtain⟨K,D,U⟩:=p
 rcases h with ⟨h1,h2,h3⟩|⟨h1,h2,h3⟩|⟨h1,h2,h3⟩
 . obtain rfl:D=0:=h2
   obtain rfl:U=[]:=h3;simp;exact h1
 . obtain rfl:K=0:=h1
   obtain rfl:U=[]:=h3;have h2:0<D:=h2;have:D≠0:=by omega
   simp[this];exact h2
 . obtain rfl:K=0:=h1
   obtain rfl:D=0:=h2;have h3:U≠[]:=h3;simp[h3]
theorem Jt0{n:Int}(h1:∀p∈ps,oneP p)(h2:∀p∈ps,V p.put)(h3:Jag ps=n):chkE ps n=0:=by
 have e1:chk1 ps=0:=by
  clear h3
  induction ps with
  | nil=>rfl
  | cons p ps ih =>
   rw[chk1,if_pos (oneB_of (h1 p (by simp))),if_pos (Jmi (h2 p (by simp)))];exact ih (fun q hq=>h1 q (by simp[hq])) fun q hq=>h2 q (by simp[hq])
 unfold chkE;rw[if_pos e1];clear e1 h2
 induction ps generalizing n with
 | nil=>simp[Jag]at h3;simp[chk2,←h3]
 | cons p ps ih =>
  rw[Jbo]at h3;have h4:=Jgh fun q hq=>h1 q (List.mem_cons_of_mem _ hq);have h5:p.keep+p.drop=lenP p:=rfl;rw[chk2,if_neg (by omega)];exact ih (fun q hq=>h1 q (by simp[hq])) (by omega)
theorem Jnr:∀{ps:List Pt}{t:List UInt8},al ps t->∀p∈ps,V p.put
 | [],_,_,p,hp=>by cases hp
 | q :: ps,t,h,p,hp=>by
  rcases List.mem_cons.1 hp with rfl|hp
  . exact h.1
  . exact Jnr h.2.2 p hp
theorem Jt3:∀{ps:List Pt}{t:List UInt8},al ps t->badO ps t=false
 | [],_,_=>rfl
 | p :: ps,t,h=>by
  rw[badO,Jt3 h.2.2,Bool.or_false];have:=h.2.1;generalize t.take (lenP p).toNat=l at this
  cases l with
  | nil=>rfl
  | cons b l=>simp[Jbg,V_start this]
theorem good.chk(h:good ps t):chkE ps (t.length:Int)=0:=Jt0 h.one (Jnr h.al) h.long
theorem good.ord(h:good ps t):ordE ps t=0:=by
 unfold ordE;rw[if_pos h.chk,Jt3 h.al];rfl
theorem JdE(p:Pt)(ps:List Pt)(t:List UInt8):Jaa (p :: ps) t=JcN (p,t.take (lenP p).toNat)++Jaa ps (t.drop (lenP p).toNat):=rfl
theorem JgU:∀{ps:List Pt}{t:List UInt8},al ps t->V (Jaa ps t)
 | [],_,_=>Jdz
 | p :: ps,t,h=>by
  rw[JdE];refine Jd0 ?_ (JgU h.2.2);unfold JcN;refine Jd0 ?_ h.1
  split
  . exact h.2.1
  . exact Jdz
theorem Jc2(u:List UInt8)(ps:List Pt)(t:List UInt8):Jaa (⟨0,0,u⟩ :: ps) t=u++Jaa ps t:=by
 simp[JdE,JcN,lenP]
theorem Jpz(n:Int)(hn:0<n)(ps:List Pt)(t:List UInt8):Jaa (⟨n,0,[]⟩ :: ps) t=t.take n.toNat++Jaa ps (t.drop n.toNat):=by
 simp[JdE,JcN,lenP,hn]
theorem Jp0(n:Int)(ps:List Pt)(t:List UInt8):Jaa (⟨0,n,[]⟩ :: ps) t=Jaa ps (t.drop n.toNat):=by
 simp[JdE,JcN,lenP]
def actA (x:List UInt8×List UInt8) (p:Pt):List UInt8×List UInt8:=(x.1++(p.put++(x.2.drop p.drop.toNat).take p.keep.toNat),(x.2.drop p.drop.toNat).drop p.keep.toNat)
theorem Jk6:ActP actA:=by
 constructor
 . intro x;simp[actA]
 . intro x u v;simp[actA]
 . intro x a b ha hb
   simp only[actA,Int.toNat_zero,List.take_zero,List.append_nil,List.drop_drop,Nat.add_zero];rw[show a.toNat+b.toNat=(a+b).toNat by omega]
 . intro x a b ha hb
   simp only[actA,List.nil_append,Int.toNat_zero,List.drop_zero,List.drop_drop,List.append_assoc];rw[show(a+b).toNat=a.toNat+b.toNat by omega,List.take_add];simp only[Nat.add_zero]
 . intro x k d u;simp[actA]
 . intro x d u;simp[actA]
theorem Jf4:∀(ps:List Pt),(∀p∈ps,oneP p)->∀(o t:List UInt8),ps.foldl actA (o,t)=(o++Jaa ps t,t.drop (Jag ps).toNat)
 | [],_,o,t=>by simp[Jaa,pcs,Jag]
 | p :: ps,h,o,t=>by
  have h0:=Jgh fun q hq=>h q (List.mem_cons_of_mem _ hq);rw[List.foldl_cons,actA,Jf4 ps fun q hq=>h q (by simp[hq])];rw[Jbo]
  rcases JcK (h p (by simp)) with ⟨u,hu,rfl⟩|⟨m,rfl⟩|⟨m,rfl⟩
  . rw[Jc2];simp[lenP]
  . rw[Jpz _ (by omega)]
    simp only[lenP,Int.toNat_zero,List.drop_zero,List.nil_append,List.append_assoc,List.drop_drop];rw[show((m:Int)+1+0+Jag ps).toNat=((m:Int)+1).toNat+(Jag ps).toNat by omega]
  . rw[Jp0]
    simp only[lenP,Int.toNat_zero,List.append_nil,List.take_zero,List.drop_drop,Nat.add_zero];rw[show(0+((m:Int)+1)+Jag ps).toNat=((m:Int)+1).toNat+(Jag ps).toNat by omega]
def Cut (E:Int->Prop):Int->List Pt->Prop
 | i,[]=>E i
 | i,p :: ps=>E i/\Cut E (i+lenP p) ps
theorem Jk7{E:Int->Prop}{i:Int}{ps:List Pt}(h:Cut E i ps):E i:=by
 cases ps with
 | nil=>exact h
 | cons p ps=>exact h.1
theorem JdF(E:Int->Prop):∀(a b:List Pt)(i:Int),Cut E i (a++b)↔Cut E i a/\Cut E (i+Jag a) b
 | [],b,i=>by
  simp only[List.nil_append,Jag,List.map_nil,List.sum_nil,Int.add_zero];exact⟨fun h=>⟨Jk7 h,h⟩,fun h=>h.2⟩
 | p :: a,b,i=>by
  rw[List.cons_append,Jbo,←Int.add_assoc];show(E i/\Cut E (i+lenP p) (a++b))↔(E i/\Cut E (i+lenP p) a)/\_;rw[JdF E a b,and_assoc]
theorem Jr9{E:Int->Prop}{i:Int}{ps:List Pt}(h:Cut E i ps):E (i+Jag ps):=by
 have:=(JdF E ps [] i).1 (by rw[List.append_nil];exact h);exact this.2
structure CutS (E:Int->Prop) (s:NSt):Prop where
 out:Cut E 0 s.out
 here:E (Jf7 s)
 puts:∀p∈s.out,V p.put
 put:V s.put
 one:OneS s
theorem Jgu{E:Int->Prop}{s:NSt}(h:CutS E s):Cut E 0 (Jaq s)/\∀p∈Jaq s,V p.put:=by
 have h1:=Jr9 h.out;rw[Int.zero_add]at h1;have h2:=h.here;unfold Jf7 at h2;unfold Jaq;refine⟨(JdF ..).2 ⟨h.out,?_⟩,?_⟩
 . rw [Int.zero_add]
   have key:Cut E (Jag s.out) (if s.drop=0 then [] else [⟨0,s.drop,[]⟩]):=by
    split
    . exact h1
    . refine⟨h1,?_⟩
      show E (Jag s.out+(0+s.drop));rw[Int.zero_add];exact h2
   split
   . exact key
   . refine⟨h1,?_⟩
     show Cut E (Jag s.out+(0+0)) _;rw[Int.zero_add,Int.add_zero];exact key
 . intro p hp
   rcases List.mem_append.1 hp with hp|hp
   . exact h.puts p hp
   . rcases List.mem_append.1 hp with hp | hp
     . split at hp
       . cases hp
       . rw[List.mem_singleton.1 hp];exact h.put
     . split at hp
       . cases hp
       . rw[List.mem_singleton.1 hp];exact Jdz
theorem JsD{E:Int->Prop}{l:List Pt}{k:Int}(h:Cut E 0 l)(hk:E (Jag l+k)):Cut E 0 (JaT l k):=by
 have hnew:Cut E 0 (l++[⟨k,0,[]⟩]):=by
  refine(JdF ..).2 ⟨h,Jr9 h,?_⟩;show E (0+Jag l+(k+0));rw[Int.zero_add,Int.add_zero];exact hk
 unfold JaT
 cases hq:l.getLast? with
 | none=>exact hnew
 | some q =>
  simp only
  split
  . obtain⟨m,rfl⟩:=List.getLast?_eq_some_iff.1 hq
    obtain⟨h1,h2⟩:=(JdF ..).1 h;rw[List.dropLast_concat];refine(JdF ..).2 ⟨h1,h2.1,?_⟩;have e:Jag (m++[q])=Jag m+lenP q:=by simp[Jag]
    rw[e]at hk;show E (0+Jag m+(q.keep+k+q.drop));have:0+Jag m+(q.keep+k+q.drop)=Jag m+lenP q+k:=by unfold lenP;omega
    rw[this];exact hk
  . exact hnew
theorem Jqn{l:List Pt}{k:Int}(h:∀p∈l,V p.put):∀p∈JaT l k,V p.put:=by
 intro p hp;unfold JaT at hp
 cases hq:l.getLast? with
 | none =>
  rw[hq]at hp;simp only[List.mem_append,List.mem_singleton]at hp
  rcases hp with hp|rfl
  . exact h p hp
  . exact Jdz
 | some q =>
  rw[hq]at hp;simp only at hp
  split at hp
  . simp only[List.mem_append,List.mem_singleton]at hp
    rcases hp with hp|rfl
    . exact h p (List.dropLast_subset l hp)
    . exact h q (List.mem_of_getLast? hq)
  . simp only[List.mem_append,List.mem_singleton]at hp
    rcases hp with hp|rfl
    . exact h p hp
    . exact Jdz
theorem Jip{E:Int->Prop}{s:NSt}(h:CutS E s)(p:Pt)(hk:0<=p.keep)(hd:0<=p.drop)(h1:p.keep=0\/(p.drop=0/\p.put=[]))(hv:V p.put)(he:E (Jf7 s+lenP p)):CutS E (addP s p):=by
 have hone:=Jns h.one p hk hd;have hlong:=Jf2 s p;refine⟨?_,by rw[hlong];exact he,?_,?_,hone⟩
 . unfold addP
   split
   . exact h.out
   . rename_i h0
     obtain⟨e1,e2⟩:=h1.resolve_left h0;rw[e1,e2,List.append_nil,Int.add_zero];have hk:E (Jag (Jaq s)+p.keep):=by
      rw[JfR];unfold lenP at he;rw[e1,Int.add_zero]at he;exact he
     exact JsD (Jgu h).1 hk
 . unfold addP
   split
   . exact h.puts
   . rename_i h0
     obtain⟨e1,e2⟩:=h1.resolve_left h0;rw[e1,e2,List.append_nil,Int.add_zero];exact Jqn (Jgu h).2
 . unfold addP
   split
   . exact Jd0 h.put hv
   . exact Jdz
theorem Jh0(h:oneP p):0<=p.keep/\0<=p.drop/\(p.keep=0\/(p.drop=0/\p.put=[])):=by
 rcases h with ⟨h1,h2,h3⟩|⟨h1,h2,h3⟩|⟨h1,h2,h3⟩
 . exact⟨by omega,by omega,.inr ⟨h2,h3⟩⟩
 . exact⟨by omega,by omega,.inl h1⟩
 . exact⟨by omega,by omega,.inl h1⟩
theorem Jof{E:Int->Prop}:∀(ps:List Pt)(s:NSt),(∀p∈ps,oneP p)->(∀p∈ps,V p.put)->CutS E s->Cut E (Jf7 s) ps->CutS E (ps.foldl addP s)
 | [],s,_,_,h,_=>h
 | p :: ps,s,h1,h2,h,hc=>by
  obtain⟨k1,k2,k3⟩:=Jh0 (h1 p (by simp));have hl:=Jf2 s p;refine Jof ps (addP s p) (fun q hq=>h1 q (by simp[hq])) (fun q hq=>h2 q (by simp[hq])) (Jip h p k1 k2 k3 (h2 p (by simp)) (Jk7 hc.2)) ?_;rw[hl];exact hc.2
def JlG (T:List UInt8) (j:Int):Prop:=V (T.take j.toNat)
theorem Jt6{T:List UInt8}:∀{ps:List Pt}{i:Int},0<=i->(∀p∈ps,oneP p)->V (T.take i.toNat)->al ps (T.drop i.toNat)->Cut (JlG T) i ps
 | [],i,_,_,h,_=>h
 | p :: ps,i,h0,h1,h,ha=>by
  have hl:=JhV (h1 p (by simp));have e:(i+lenP p).toNat=i.toNat+(lenP p).toNat:=by omega
  refine⟨h,Jt6 (by omega) (fun q hq=>h1 q (by simp[hq])) ?_ ?_⟩
  . rw[e,List.take_add];exact Jd0 h ha.2.1
  . rw[e,←List.drop_drop];exact ha.2.2
theorem Jty{T:List UInt8}:∀{ps:List Pt}{i:Int},0<=i->(∀p∈ps,oneP p)->(∀p∈ps,V p.put)->Cut (JlG T) i ps->al ps (T.drop i.toNat)
 | [],i,_,_,_,_=>trivial
 | p :: ps,i,h0,h1,h2,hc=>by
  have hl:=JhV (h1 p (by simp));have e:(i+lenP p).toNat=i.toNat+(lenP p).toNat:=by omega
  have h3:V (T.take i.toNat):=hc.1;have h4:V (T.take (i+lenP p).toNat):=Jk7 hc.2;rw[e,List.take_add]at h4;refine⟨h2 p (by simp),Jr6 h3 h4,?_⟩;have:=Jty (by omega) (fun q hq=>h1 q (by simp[hq])) (fun q hq=>h2 q (by simp[hq])) hc.2;rw[e,←List.drop_drop]at this;exact this
theorem cut0(T:List UInt8):CutS (JlG T) nst0:=⟨Jdz,Jdz,by simp[nst0],Jdz,⟨by simp[nst0],by simp[nst0]⟩⟩
theorem Jil{T:List UInt8}{s:NSt}(h:CutS (JlG T) s)(hl:Jf7 s=T.length):good (Jaq s) T:=by
 refine⟨Jhv h.one,by rw[JfR];exact hl,?_⟩;have:=Jty (i:=0) (by omega) (Jhv h.one) (Jgu h).2 (Jgu h).1;exact this
theorem good.norm(h:good ps t):good (Jac ps) t:=by
 have hc:CutS (JlG t) (ps.foldl addP nst0):=Jof ps nst0 h.one (Jnr h.al) (cut0 t) (Jt6 (i:=0) (by omega) h.one Jdz h.al);refine Jil hc ?_;rw[JlA];show Jag []+0+Jag ps=_;rw[h.long];simp[Jag]
theorem JgS(h:∀p∈ps,oneP p)(t:List UInt8):Jaa (Jac ps) t=Jaa ps t:=by
 have e:=JeQ Jk6 ps (Jak h) ([],t);rw[Jf4 ps h,Jf4 _ (JeG ps (Jak h))]at e;simpa using congrArg Prod.fst e
end
section
variable {T D R o x r : List UInt8}{s : NSt}{p : Pt}{ps : List Pt}
structure St (T D R o:List UInt8) (s:NSt):Prop where
 cut:CutS (JlG T) s
 eq:T=D++R
 here:V D
 long:Jf7 s=D.length
 act:(Jaq s).foldl actA ([],T)=(o,R)
theorem St0(T:List UInt8):St T [] T [] nst0:=⟨cut0 T,rfl,Jdz,by simp[Jf7,nst0,Jag],rfl⟩
theorem St.none(h:St T D R o s):St T D R (o++[]) s:=by rw[List.append_nil];exact h
theorem St.put(h:St T D R o s){u:List UInt8}(hu:V u):St T D R (o++u) (addP s ⟨0,0,u⟩):=by
 have hl:=Jf2 s ⟨0,0,u⟩;have e0:lenP ⟨0,0,u⟩=0:=rfl;rw[e0,Int.add_zero]at hl;refine⟨Jip h.cut _ (Int.le_refl _) (Int.le_refl _) (.inl rfl) hu ?_,h.eq,h.here,by rw[hl];exact h.long,?_⟩
 . rw[e0,Int.add_zero];exact h.cut.here
 . rw[Jk3 Jk6 s _ h.cut.one.drop (Int.le_refl _) (Int.le_refl _),h.act]
   simp[actA]
theorem St.keep(h:St T D (x++R) o s)(hx:V x):St T (D++x) R (o++x) (addP s ⟨x.length,0,[]⟩):=by
 have hl:=Jf2 s ⟨x.length,0,[]⟩;have e0:lenP ⟨x.length,0,[]⟩=x.length:=by simp[lenP]
 rw[e0]at hl;have h0:(0:Int)<=x.length:=by omega
 refine⟨Jip h.cut _ h0 (Int.le_refl _) (.inr ⟨rfl,rfl⟩) Jdz ?_,by rw[List.append_assoc];exact h.eq,Jd0 h.here hx,by rw[hl,h.long,List.length_append];push_cast;rfl,?_⟩
 . rw[e0,h.long]
   unfold JlG;rw[show((D.length:Int)+x.length).toNat=(D++x).length by rw[List.length_append];omega,h.eq,←List.append_assoc,List.take_left']
   . exact Jd0 h.here hx
   . rfl
 . rw[Jk3 Jk6 s _ h.cut.one.drop h0 (Int.le_refl _),h.act]
   simp[actA]
theorem St.drop{T D R o x:List UInt8}{s:NSt}(h:St T D (x++R) o s)(hx:V x):St T (D++x) R o (addP s ⟨0,x.length,[]⟩):=by
 have hl:=Jf2 s ⟨0,x.length,[]⟩;have e0:lenP ⟨0,x.length,[]⟩=x.length:=by simp[lenP]
 rw[e0]at hl;have h0:(0:Int)<=x.length:=by omega
 refine⟨Jip h.cut _ (Int.le_refl _) h0 (.inl rfl) Jdz ?_,by rw[List.append_assoc];exact h.eq,Jd0 h.here hx,by rw[hl,h.long,List.length_append];push_cast;rfl,?_⟩
 . rw[e0,h.long]
   unfold JlG;rw[show((D.length:Int)+x.length).toNat=(D++x).length by rw[List.length_append];omega,h.eq,←List.append_assoc,List.take_left']
   . exact Jd0 h.here hx
   . rfl
 . rw[Jk3 Jk6 s _ h.cut.one.drop (Int.le_refl _) h0,h.act]
   simp[actA]
theorem St.full(h:St T D [] o s):St T T [] o s:=by
 have e:=h.eq;rw[List.append_nil]at e;subst e;exact h
theorem St.good{T o:List UInt8}{s:NSt}(h:St T T [] o s):good (Jaq s) T/\Jaa (Jaq s) T=o:=by
 have hg:=Jil h.cut h.long;refine⟨hg,?_⟩;have e:=h.act;rw[Jf4 _ hg.one]at e;simpa using congrArg Prod.fst e
theorem Jb4(d:Bool)(n:Nat):lenP (Jat d n)=(n:Int):=by cases d<;>simp[lenP,Jat]
theorem JeC(d:Bool)(n:Nat):(Jat d n).put=[]:=by cases d<;>rfl
theorem Jsa(d:Bool)(n:Nat):oneP (Jat d (n+1)):=by
 cases d with
 | true=>exact .inr (.inl ⟨rfl,by show(0:Int)<((n+1:Nat):Int);omega,rfl⟩)
 | false=>exact .inl ⟨by show(0:Int)<((n+1:Nat):Int);omega,rfl,rfl⟩
theorem Jq6(d:Bool)(n:Nat)(x:List UInt8):JcN (Jat d (n+1),x)=if d then [] else x:=by
 cases d<;>simp[JcN,Jat]
theorem JcD(d:Bool)(n:Nat)(ps:List Pt)(r:List UInt8):Jaa (Jat d (n+1) :: ps) r=(if d then [] else r.take (n+1))++Jaa ps (r.drop (n+1)):=by
 rw[JdE,Jq6,Jb4];rfl
theorem JlN(d:Bool)(m j:Nat)(hj:j<=m):(m=j/\(cutP (Jat d (m+1)) ((j:Int)+1)).2=[])\/∃i,m=j+i+1/\(cutP (Jat d (m+1)) ((j:Int)+1)).2=[Jat d (i+1)]:=by
 have hl:Jad (Jat d (m+1))=(m:Int)+1:=by rw[JbF];push_cast;rfl
 by_cases e:m=j
 . exact .inl ⟨e,by unfold cutP;rw[if_pos (by rw[hl,e])]⟩
 . right
   refine⟨m - j - 1,by omega,?_⟩;unfold cutP;rw[if_neg (by rw[hl];omega)];have e1:((m+1:Nat):Int) - ((j:Int)+1)=((m - j - 1+1:Nat):Int):=by omega
   cases d with
   | true =>
    rw[if_neg (show ¬0<(Jat true (m+1)).keep from Int.lt_irrefl 0),if_pos (show 0<(Jat true (m+1)).drop by show(0:Int)<((m+1:Nat):Int);omega)];show [(⟨0,((m+1:Nat):Int) - ((j:Int)+1),[]⟩:Pt)]=[⟨0,((m - j - 1+1:Nat):Int),[]⟩];rw[e1]
   | false =>
    rw[if_pos (show 0<(Jat false (m+1)).keep by show(0:Int)<((m+1:Nat):Int);omega)];show [(⟨((m+1:Nat):Int) - ((j:Int)+1),0,[]⟩:Pt)]=[⟨((m - j - 1+1:Nat):Int),0,[]⟩];rw[e1]
structure Left (X:List Pt) (r:List UInt8):Prop where
 one:∀p∈X,oneP p
 long:Jag X=r.length
 al:al X r
theorem Left.good{X:List Pt}{r:List UInt8}(h:Left X r):good X r:=⟨h.one,h.long,h.al⟩
theorem Je5(d:Bool)(m j:Nat)(hj:j<=m)(ps:List Pt)(r:List UInt8)(h:Left (Jat d (m+1) :: ps) r)(hv:V (r.take (j+1))) :
    Left ((cutP (Jat d (m+1)) ((j:Int)+1)).2++ps) (r.drop (j+1))/\Jaa (Jat d (m+1) :: ps) r=(if d then [] else r.take (j+1))++Jaa ((cutP (Jat d (m+1)) ((j:Int)+1)).2++ps) (r.drop (j+1))/\j+1<=r.length:=by
 have hl:=h.long;rw[Jbo,Jb4]at hl;have h0:=Jgh fun q hq=>h.one q (List.mem_cons_of_mem _ hq);have ha:=h.al.2.2;have hq:=h.al.2.1;rw[Jb4]at ha hq;have ht:((m+1:Nat):Int).toNat=m+1:=by omega
 rw[ht]at ha hq;have hlen:j+1<=r.length:=by omega
 rcases JlN d m j hj with ⟨rfl,e⟩|⟨i,rfl,e⟩
 . rw[e,List.nil_append]
   refine⟨⟨fun p hp=>h.one p (by simp[hp]),by rw[List.length_drop];omega,ha⟩,JcD d m ps r,hlen⟩
 . rw [e]
   have e1:r.take (j+i+1+1)=r.take (j+1)++(r.drop (j+1)).take (i+1):=by rw[←List.take_add];congr 1;omega
   have e2:r.drop (j+i+1+1)=(r.drop (j+1)).drop (i+1):=by rw[List.drop_drop];congr 1;omega
   rw[e1]at hq;rw[e2]at ha;refine⟨⟨?_,?_,?_,?_,?_⟩,?_,hlen⟩
   . intro p hp
     rcases List.mem_cons.1 hp with rfl|hp
     . exact Jsa d i
     . exact h.one p (by simp at hp;simp[hp])
   . show Jag (Jat d (i+1) :: ps)=_
     rw[Jbo,Jb4,List.length_drop];omega
   . rw[JeC];exact Jdz
   . rw[Jb4];exact Jr6 hv hq
   . rw[Jb4];exact ha
   . show _=_++Jaa (Jat d (i+1) :: ps) _
     rw[JcD,JcD,e1,e2]
     cases d<;>simp
def outL:List (Pt×Pt)->List UInt8->List UInt8
 | [],_=>[]
 | (p,q) :: l,r=>p.put++(q.put++((if 0<p.keep/\0<q.keep then r.take p.keep.toNat else [])++outL l (r.drop (lenP p).toNat)))
def tF (F:Bool) (x:Pt×Pt):List Pt:=if F then JbH x else JbH (x.2,x.1)
theorem JdJ(t:Pt×Pt->List Pt)(x:Pt×Pt)(l:List (Pt×Pt))(s:NSt):runS t (x :: l) s=runS t l ((t x).foldl addP s):=rfl
theorem Jlw(u:List UInt8)(l:List (Pt×Pt))(r:List UInt8):outL ((⟨0,0,u⟩,noP) :: l) r=u++outL l r/\outL ((noP,⟨0,0,u⟩) :: l) r=u++outL l r:=by
 simp[outL,noP,lenP]
theorem JoG(d e:Bool)(j:Nat)(l:List (Pt×Pt))(r:List UInt8):outL ((Jat d (j+1),Jat e (j+1)) :: l) r=(if d || e then [] else r.take (j+1))++outL l (r.drop (j+1)):=by
 have h0:(0:Int)<((j:Int)+1):=by omega
 have h1:((j:Int)+1).toNat=j+1:=by omega
 cases d<;>cases e<;>simp[outL,Jat,lenP,h0,h1]
theorem Jn3(F:Bool)(u:List UInt8)(hu:u≠[]):tF F (if F then (⟨0,0,u⟩,noP) else (noP,⟨0,0,u⟩))=[⟨0,0,u⟩]:=by
 cases F<;>simp[tF,JbH,Jaf,noP,hu]
theorem Jhy(F:Bool)(u:List UInt8)(hu:u≠[]):tF F (if F then (noP,⟨0,0,u⟩) else (⟨0,0,u⟩,noP))=[⟨u.length,0,[]⟩]:=by
 cases F<;>simp[tF,JbH,Jaf,noP,hu]
theorem Jn2(F d e:Bool)(j:Nat):tF F (Jat d (j+1),Jat e (j+1))=if (if F then e else d) then [] else [Jat (if F then d else e) (j+1)]:=by
 have h1:=Jbk d (j+1);have h2:=Jbk e (j+1);have h3:∀b,Jb0 (Jat b (j+1)) = !b:=by
  intro b;have h0:(0:Int)<((j:Int)+1):=by omega
  cases b<;>simp[Jb0,Jat,h0]
 cases F<;>cases d<;>cases e<;>simp[tF,JbH,h1,h2,h3]
theorem St.unit(h:St T D (x++R) o s)(hx:V x)(d:Bool)(n:Nat)(hn:x.length=n):St T (D++x) R (o++if d then [] else x) (addP s (Jat d n)):=by
 subst hn
 cases d with
 | true=>rw[if_pos rfl,List.append_nil];exact h.drop hx
 | false=>rw[if_neg (by decide)];exact h.keep hx
theorem JbK(h:Left (p :: ps) r):Left ps (r.drop (lenP p).toNat)/\V p.put/\V (r.take (lenP p).toNat)/\(lenP p).toNat<=r.length:=by
 have hl:=h.long;rw[Jbo]at hl;have h0:=Jgh fun q hq=>h.one q (List.mem_cons_of_mem _ hq);have h1:=JhV (h.one p (by simp));exact⟨⟨fun q hq=>h.one q (by simp[hq]),by rw[List.length_drop];omega,h.al.2.2⟩,h.al.1,h.al.2.1,by omega⟩
theorem Jdv(h:Left [] r):r=[]:=by
 have:=h.long;simp[Jag]at this;exact List.eq_nil_of_length_eq_zero (by omega)
theorem JeJ{u:List UInt8}(h:Left (⟨0,0,u⟩ :: ps) r):Left ps r/\V u:=by
 obtain⟨h1,h2,_⟩:=JbK h;exact⟨by simpa[lenP] using h1,h2⟩
theorem Jdf{d:Bool}{n:Nat}(h:Left (Jat d (n+1) :: ps) []):False:=by
 have:=(JbK h).2.2.2;rw[Jb4]at this;simp at this
theorem Jcv(h:oneP p)(ps:List Pt):Jao ps+1<=Jao (p :: ps):=by
 have:=JaE h;rw[Jay];omega
theorem Jnz(F:Bool):∀(f:Nat)(A B:List Pt)(r T D o:List UInt8)(s:NSt),Left A r->Left B r->Jao A+Jao B<=f->St T D (Jaa (if F then B else A) r) o s ->
    St T T [] (o++outL (Ja5 Jaf Jaf f A B) r) (runS (tF F) (Ja5 Jaf Jaf f A B) s):=by
 have base:∀(T D o:List UInt8) (s:NSt) (g:Nat),St T D (Jaa (if F then [] else []) []) o s->St T T [] (o++outL (Ja5 Jaf Jaf g [] []) []) (runS (tF F) (Ja5 Jaf Jaf g [] []) s):=by
  intro T D o s g h;have e:Ja5 Jaf Jaf g [] []=[]:=by cases g<;>rfl
  rw[e];have h2:St T D [] o s:=by cases F<;>exact h
  exact h2.full.none
 have nil_of:∀{l:List Pt} {r:List UInt8},Left l r->Jao l=0->l=[]:=by
  intro l r h hw
  cases l with
  | nil=>rfl
  | cons p l=>have:=Jcv (h.one p (by simp)) l;omega
 intro f
 induction f with
 | zero =>
  intro A B r T D o s hA hB hw h;obtain rfl:=nil_of hA (by omega);obtain rfl:=nil_of hB (by omega);obtain rfl:=Jdv hA;exact base T D o s 0 h
 | succ f ih =>
  intro A B r T D o s hA hB hw h
  have stepB:∀(v:List UInt8) (B':List Pt),v≠[]->B=⟨0,0,v⟩ :: B'->Ja5 Jaf Jaf (f+1) A B=(noP,⟨0,0,v⟩) :: Ja5 Jaf Jaf f A B'->St T T [] (o++outL (Ja5 Jaf Jaf (f+1) A B) r) (runS (tF F) (Ja5 Jaf Jaf (f+1) A B) s):=by
   intro v B' hv e es;subst e;obtain⟨hB',hV⟩:=JeJ hB;have hw':=Jcv (hB.one ⟨0,0,v⟩ (by simp)) B';rw[es,(Jlw v _ r).2,JdJ,←List.append_assoc];refine ih A B' r T (if F then D++v else D) (o++v) _ hA hB' (by omega) ?_
   cases F with
   | true =>
    have e:=Jhy true v hv;rw[if_pos rfl]at e;rw[e];rw[if_pos rfl,Jc2]at h;exact h.keep hV
   | false =>
    have e:=Jn3 false v hv;rw[if_neg (by decide)]at e;rw[e];rw[if_neg (by decide)]at h;exact h.put hV
  cases A with
  | nil =>
   obtain rfl:=Jdv hA
   cases B with
   | nil=>exact base T D o s (f+1) h
   | cons q B' =>
    rcases Jbi (hB.one q (by simp)) with ⟨v,hv,rfl⟩|⟨e,k,rfl⟩
    . exact stepB v B' hv rfl (by rw[Ja5,if_pos (Jcd hv)])
    . exact absurd hB Jdf
  | cons p A' =>
   rcases Jbi (hA.one p (by simp)) with ⟨u,hu,rfl⟩|⟨d,m,rfl⟩
   . obtain ⟨hA',hV⟩:=JeJ hA
     have hw':=Jcv (hA.one ⟨0,0,u⟩ (by simp)) A';have es:Ja5 Jaf Jaf (f+1) (⟨0,0,u⟩ :: A') B=(⟨0,0,u⟩,noP) :: Ja5 Jaf Jaf f A' B:=by
      have h1:=Jcd hu
      cases B<;>simp only[Ja5,h1,if_true]
     rw[es,(Jlw u _ r).1,JdJ,←List.append_assoc];refine ih A' B r T (if F then D else D++u) (o++u) _ hA' hB (by omega) ?_
     cases F with
     | true =>
      have e:=Jn3 true u hu;rw[if_pos rfl]at e;rw[e];rw[if_pos rfl]at h;exact h.put hV
     | false =>
      have e:=Jhy false u hu;rw[if_neg (by decide)]at e;rw[e];rw[if_neg (by decide),Jc2]at h;exact h.keep hV
   . cases B with
     | nil =>
      obtain rfl:=Jdv hB;exact absurd hA Jdf
     | cons q B' =>
      rcases Jbi (hB.one q (by simp)) with ⟨v,hv,rfl⟩|⟨e,k,rfl⟩
      . exact stepB v B' hv rfl (by
          have h1:=Jbk d (m+1);have h2:=Jcd hv
          simp only[Ja5,h1,h2,Bool.false_eq_true,if_false,if_true])
      . have hmin:min (Jad (Jat d (m+1))) (Jad (Jat e (k+1)))=((min m k:Nat):Int)+1:=by rw[JbF,JbF];omega
        obtain⟨j,hj⟩:∃j,min m k=j:=⟨_,rfl⟩;rw[hj]at hmin;have hj1:j<=m:=by omega
        have hj2:j<=k:=by omega
        have es:Ja5 Jaf Jaf (f+1) (Jat d (m+1) :: A') (Jat e (k+1) :: B')=(Jat d (j+1),Jat e (j+1)) :: Ja5 Jaf Jaf f ((cutP (Jat d (m+1)) ((j:Int)+1)).2++A') ((cutP (Jat e (k+1)) ((j:Int)+1)).2++B'):=by
         rw[Ja5,if_neg (by rw[Jbk];decide),if_neg (by rw[Jbk];decide),hmin,(Jdy d m j hj1).1,(Jdy e k j hj2).1]
        have hv:V (r.take (j+1)):=by
         have v1:=(JbK hA).2.2.1;have v2:=(JbK hB).2.2.1;rw[Jb4]at v1 v2
         by_cases hc:m<=k
         . obtain rfl:m=j:=by omega
           exact v1
         . obtain rfl:k=j:=by omega
           exact v2
        obtain⟨lA,aA,hlen⟩:=Je5 d m j hj1 A' r hA hv;obtain⟨lB,aB,_⟩:=Je5 e k j hj2 B' r hB hv;have wA:=Jcy d m j hj1;have wB:=Jcy e k j hj2;have hx:(r.take (j+1)).length=j+1:=by rw[List.length_take];omega
        have hw2:Jao ((cutP (Jat d (m+1)) ((j:Int)+1)).2++A')+Jao ((cutP (Jat e (k+1)) ((j:Int)+1)).2++B')<=f:=by
         rw[Jba,Jba,wA,wB];rw[Jay,Jay,JbF,JbF]at hw;omega
        rw[es,JoG,JdJ,Jn2,←List.append_assoc];refine ih _ _ (r.drop (j+1)) T (if (if F then e else d) then D else D++r.take (j+1)) _ _ lA lB hw2 ?_
        cases F with
        | true =>
         rw[if_pos rfl,aB]at h;simp only[if_true]
         cases e with
         | true =>
          simp only[Bool.or_true,if_true,List.append_nil,List.foldl_nil];exact h
         | false =>
          simp only[Bool.or_false,Bool.false_eq_true,if_false,List.foldl_cons,List.foldl_nil]at h ⊢;exact h.unit hv d (j+1) hx
        | false =>
         rw[if_neg (by decide),aA]at h;simp only[Bool.false_eq_true,if_false]
         cases d with
         | true =>
          simp only[Bool.true_or,if_true,List.append_nil,List.foldl_nil];exact h
         | false =>
          simp only[Bool.false_or,Bool.false_eq_true,if_false,List.foldl_cons,List.foldl_nil]at h ⊢;exact h.unit hv e (j+1) hx
theorem Jd8(F:Bool){a b:List Pt}{t:List UInt8}(ha:good a t)(hb:good b t) :
    good (Jaq (Jaw F a b)) (Jaa b t)/\Jaa (Jaq (Jaw F a b)) (Jaa b t)=outL (if F then Ja5 Jaf Jaf (Jao (Jac a)+Jao (Jac b)) (Jac a) (Jac b) else Ja5 Jaf Jaf (Jao (Jac b)+Jao (Jac a)) (Jac b) (Jac a)) t:=by
 have na:=ha.norm;have nb:=hb.norm;have la:Left (Jac a) t:=⟨na.one,na.long,na.al⟩;have lb:Left (Jac b) t:=⟨nb.one,nb.long,nb.al⟩;have eb:=JgS hb.one t;unfold Jaw
 cases F with
 | true =>
  have:=Jnz true _ (Jac a) (Jac b) t (Jaa b t) [] [] nst0 la lb (nlr _) (by rw[if_pos rfl,eb];exact St0 _);exact this.good
 | false =>
  have:=Jnz false _ (Jac b) (Jac a) t (Jaa b t) [] [] nst0 lb la (nlr _) (by rw[if_neg (by decide),eb];exact St0 _);exact this.good
theorem Jmr(F:Bool){a b:List Pt}{t:List UInt8}(ha:good a t)(hb:good b t) :
    Jaa (Jaq (Jaw (!F) b a)) (Jaa a t)=Jaa (Jaq (Jaw F a b)) (Jaa b t):=by
 rw[(Jd8 F ha hb).2,(Jd8 (!F) hb ha).2]
 cases F<;>simp
end
section
variable {u : Int}{q : Pt}
def byZ (l:List UInt8):List Int:=l.map fun b=>(b.toNat:Int)
def rowZ (u:Int) (rs:List Nat):List Int:=if u=1 then byZ (encs rs) else if u=2 then toI (hals rs) else toI rs
theorem JcF(u:Int):rowZ u []=[]:=by
 unfold rowZ;split
 . rfl
 . split<;>rfl
theorem Jsx(a b:List Nat):hals (a++b)=hals a++hals b:=by simp[hals]
theorem JcT(u:Int)(a b:List Nat):rowZ u (a++b)=rowZ u a++rowZ u b:=by
 unfold rowZ;split
 . rw[JbQ];simp[byZ]
 . split
   . rw[Jsx,Jfj]
   . rw[Jfj]
theorem JqK:∀(rs:List Nat),((hals rs).length:Int)=C2 rs
 | []=>rfl
 | r :: rs=>by
  have ih:=JqK rs;rw[Jgm,List.length_append];have e:C2 (r :: rs)=cH r+C2 rs:=by simp[C2,sum2,wide]
  rw[e];have:((hal r).length:Int)=cH r:=by unfold hal cH;split<;>rfl
  omega
theorem JcG(hu:Jaz u)(rs:List Nat):((rowZ u rs).length:Int)=by_ u rs:=by
 unfold rowZ by_
 rcases hu with rfl|rfl|rfl
 . rw[if_pos rfl,if_pos rfl,Jcf];simp[byZ]
 . rw[if_neg (by decide),if_pos rfl,if_neg (by decide),if_pos rfl,←JqK];simp[toI]
 . rw[if_neg (by decide),if_neg (by decide),if_neg (by decide),if_neg (by decide),if_pos rfl];simp[toI,C3]
theorem Jru:∀{a b:List UInt8},byZ a=byZ b->a=b
 | [],[],_=>rfl
 | [],_ :: _,h=>by simp[byZ]at h
 | _ :: _,[],h=>by simp[byZ]at h
 | x :: a,y :: b,h=>by
  simp only[byZ,List.map_cons,List.cons.injEq]at h;have hx:x=y:=by
   apply UInt8.toNat_inj.1;omega
  rw[hx,Jru (a:=a) (b:=b) h.2]
theorem JrS(hu:Jaz u){x y:Nat}(hx:Jas x)(hy:Jas y){a b:List Int}(ha:u=1->∃l,a=byZ l)(hb:u=1->∃l,b=byZ l)(h:rowZ u [x]++a=rowZ u [y]++b):x=y/\a=b:=by
 have hxy:x=y:=by
  rcases hu with rfl|rfl|rfl
  . obtain⟨la,rfl⟩:=ha rfl
    obtain⟨lb,rfl⟩:=hb rfl;have e:∀(r:Nat) (l:List UInt8),rowZ 1 [r]++byZ l=byZ (enc r++l):=fun r l=>by simp[rowZ,byZ,encs]
    rw[e,e]at h;have h:=Jru h;have h1:=(JgN hx la).1;rw[h,(JgN hy lb).1]at h1;exact(Prod.mk.inj h1).1.symm
  . have e:∀r:Nat,rowZ 2 [r]=toI (hal r):=fun r=>by simp[rowZ,hals]
    rw[e,e]at h;have h1:=Jkc hx a;rw[h,Jkc hy b]at h1;have:=(Prod.mk.inj h1).1;omega
  . have e:∀r:Nat,rowZ 3 [r]=[(r:Int)]:=fun r=>by simp[rowZ,toI]
    rw[e,e]at h;simp only[List.cons_append,List.nil_append,List.cons.injEq]at h;omega
 subst hxy;exact⟨rfl,List.append_cancel_left h⟩
theorem row_ne(hu:Jaz u)(r:Nat):rowZ u [r]≠[]:=fun e=>by
 have h1:=JcG hu [r];have h2:=Joh hu r;rw[e]at h1;simp at h1;omega
theorem JkZ(hu:u=1)(rs:List Nat):∃l,rowZ u rs=byZ l:=⟨encs rs,by subst hu;rfl⟩
theorem JjK(u:Int)(r:Nat)(rs:List Nat):rowZ u (r :: rs)=rowZ u [r]++rowZ u rs:=by
 rw[←JcT];rfl
theorem Jqg{u:Int}(hu:Jaz u):∀(xs ys:List Nat)(t:List Int),(∀r∈xs,Jas r)->(∀r∈ys,Jas r)->(u=1->∃l,t=byZ l)->rowZ u xs++t=rowZ u ys->∃zs,ys=xs++zs/\t=rowZ u zs
 | [],ys,t,_,_,_,h=>⟨ys,rfl,by rw[JcF]at h;exact h⟩
 | x :: xs,[],t,_,_,_,h=>by
  rw[JjK,JcF,List.append_assoc]at h;exact absurd (List.append_eq_nil_iff.1 h).1 (row_ne hu x)
 | x :: xs,y :: ys,t,hx,hy,ht,h=>by
  rw[JjK,JjK u y,List.append_assoc]at h;obtain ⟨rfl,h2⟩:=JrS hu (hx x (by simp)) (hy y (by simp)) (fun e=>by
   obtain⟨l,hl⟩:=ht e;obtain⟨m,hm⟩:=JkZ e xs
   exact⟨m++l,by rw[hl,hm];simp[byZ]⟩) (fun e=>JkZ e ys) h
  obtain⟨zs,e1,e2⟩:=Jqg hu xs ys t (fun r hr=>hx r (by simp[hr])) (fun r hr=>hy r (by simp[hr])) ht h2;exact⟨zs,by rw[e1];rfl,e2⟩
def Jbq (u:Int) (R:List Nat) (n:Int):List Nat:=R.drop (upTo R u n).length
theorem Jfa(hu:Jaz u){R:List Nat}{n:Int}(h1:n<=by_ u R)(he:JaM R u n=true):R=upTo R u n++Jbq u R n/\by_ u (upTo R u n)=n:=by
 obtain⟨k,k1,k2,k3,_⟩:=(JdA hu h1).1 he;unfold Jbq;rw[k2,List.length_take,Nat.min_eq_left k1];exact⟨(List.take_append_drop k R).symm,k3⟩
theorem Jrd(hu:Jaz u){R X Y:List Nat}(h:R=X++Y):JaM R u (by_ u X)=true/\upTo R u (by_ u X)=X/\Jbq u R (by_ u X)=Y:=by
 have hle:by_ u X<=by_ u R:=by rw[h,Jbp];have:=Jdl u Y;omega
 have hx:R.take X.length=X:=by rw[h,List.take_left' rfl]
 have he:JaM R u (by_ u X)=true:=by
  cases e:JaM R u (by_ u X) with
  | true=>rfl
  | false=>exact absurd (by rw[hx]) ((JdA hu hle).2 e X.length (by rw[h];simp))
 obtain⟨k,k1,k2,k3,_⟩:=(JdA hu hle).1 he
 have hk:k=X.length:=by
  have hXl:X.length<=R.length:=by rw[h];simp
  rcases Nat.lt_trichotomy k X.length with hlt|rfl|hlt
  . have:=Jkw hu R k X.length hlt hXl
    rw[hx,k3]at this;omega
  . rfl
  . have:=Jkw hu R X.length k hlt k1
    rw[hx,k3]at this;omega
 subst hk;refine⟨he,by rw[k2,hx],?_⟩;unfold Jbq;rw[k2,hx,h,List.drop_left' rfl]
theorem Jqs(hu:Jaz u){R:List Nat}{n:Int}(h0:0<=n)(h1:n<=by_ u R)(he:JaM R u n=true) :
    (rowZ u R).take n.toNat=rowZ u (upTo R u n)/\(rowZ u R).drop n.toNat=rowZ u (Jbq u R n):=by
 obtain⟨e1,e2⟩:=Jfa hu h1 he;have hl:n.toNat=(rowZ u (upTo R u n)).length:=by have:=JcG hu (upTo R u n);omega
 have e3:rowZ u R=rowZ u (upTo R u n)++rowZ u (Jbq u R n):=by
  rw[←JcT];exact congrArg _ e1
 rw[e3,hl];exact⟨List.take_left' rfl,List.drop_left' rfl⟩
theorem Jqt(hu:Jaz u){R:List Nat}(hR:∀r∈R,Jas r){n:Int}(h0:0<=n)(h1:n<=by_ u R)(he:JaM R u n=false)(xs:List Nat)(hx:∀r∈xs,Jas r):(rowZ u R).take n.toNat≠rowZ u xs:=by
 intro e;have hlen:=JcG hu R;have h2:rowZ u xs++(rowZ u R).drop n.toNat=rowZ u R:=by rw[←e,List.take_append_drop]
 obtain⟨zs,e1,_⟩:=Jqg hu xs R _ hx hR (fun e=>by subst e;exact⟨(encs R).drop n.toNat,by simp[rowZ,byZ]⟩) h2;have hl:by_ u xs=n:=by
  rw[←JcG hu,←e,List.length_take];omega
 have:=(Jrd hu e1).1;rw[hl,he]at this
 cases this
def okZ (u:Int):List Nat->List Pt->Bool
 | _,[]=>true
 | R,q :: qs=>JaM R u (lenP q) && okZ u (Jbq u R (lenP q)) qs
def inZ (u v:Int):List Nat->List Pt->List Pt
 | _,[]=>[]
 | R,q :: qs=>JcQ (by_ v (upTo R u (lenP q))) q :: inZ u v (Jbq u R (lenP q)) qs
def JaL (u:Int):List Nat->List Pt->List Nat
 | _,[]=>[]
 | R,q :: qs=>((if 0<q.keep then upTo R u (lenP q) else [])++Jam q.put)++JaL u (Jbq u R (lenP q)) qs
theorem JiR(hu:Jaz u)(pre R:List Nat)(n:Int)(h0:0<=n)(h1:n<=by_ u R) :
    JaM (pre++R) u (by_ u pre+n)=JaM R u n/\(JaM R u n=true->upTo (pre++R) u (by_ u pre+n)=pre++upTo R u n):=by
 have key:JaM R u n=true->JaM (pre++R) u (by_ u pre+n)=true/\upTo (pre++R) u (by_ u pre+n)=pre++upTo R u n:=fun he=>by
  obtain⟨e1,e2⟩:=Jfa hu h1 he;have e3:pre++R=(pre++upTo R u n)++Jbq u R n:=by rw[List.append_assoc,←e1]
  have:=Jrd hu e3;rw[Jbp,e2]at this;exact⟨this.1,this.2.1⟩
 refine⟨?_,fun he=>(key he).2⟩
 cases he:JaM R u n with
 | true=>exact(key he).1
 | false =>
  cases e:JaM (pre++R) u (by_ u pre+n) with
  | false=>rfl
  | true =>
   exfalso
   have hle:by_ u pre+n<=by_ u (pre++R):=by rw[Jbp];omega
   obtain⟨k,k1,k2,k3,_⟩:=(JdA hu hle).1 e
   have hk:pre.length<=k:=by
    by_cases h:pre.length<=k
    . exact h
    . have:=Jkw hu (pre++R) k pre.length (by omega) (by simp)
      rw[k3,List.take_left' rfl]at this;omega
   have e4:(pre++R).take k=pre++R.take (k - pre.length):=by
    rw[List.take_append,List.take_of_length_le hk]
   rw[e4,Jbp]at k3;exact(JdA hu h1).2 he (k - pre.length) (by rw[List.length_append]at k1;omega) (by omega)
theorem Jnx{u:Int}(hu:Jaz u)(v:Int):∀(qs:List Pt)(pre R:List Nat),(∀q∈qs,0<=lenP q)->Jag qs<=by_ u R ->
    (JdZ (pre++R) u v (by_ u pre) qs).2=okZ u R qs/\(okZ u R qs=true->(JdZ (pre++R) u v (by_ u pre) qs).1=inZ u v R qs)
 | [],_,_,_,_=>⟨rfl,fun _=>rfl⟩
 | q :: qs,pre,R,h,hl=>by
  have h0:=h q (by simp);have h3:∀x∈qs,0<=lenP x:=fun x hx=>h x (by simp[hx]);have hp:=JfE h3;have hl2:Jag (q :: qs)=lenP q+Jag qs:=by simp[Jag]
  rw[hl2]at hl;obtain⟨s1,s2⟩:=JiR hu pre R (lenP q) h0 (by omega);obtain⟨t1,t2⟩:=JiR hu pre R 0 (Int.le_refl _) (Jdl u R);have hz:upTo R u 0=[]:=Jh5 R u;have hz2:JaM R u 0=true:=by unfold JaM;rw[hz,Jiu];rfl
  have t2:=t2 hz2;rw[Int.add_zero,hz,List.append_nil]at t2
  have hunf:JdZ (pre++R) u v (by_ u pre) (q :: qs)=if JaM (pre++R) u (by_ u pre+lenP q) then
   (JcQ (by_ v (upTo (pre++R) u (by_ u pre+lenP q)) - by_ v (upTo (pre++R) u (by_ u pre))) q :: (JdZ (pre++R) u v (by_ u pre+lenP q) qs).1,(JdZ (pre++R) u v (by_ u pre+lenP q) qs).2)
   else ([],false):=rfl
  have hoz:okZ u R (q :: qs)=(JaM R u (lenP q) && okZ u (Jbq u R (lenP q)) qs):=rfl;rw[hunf,hoz,s1]
  cases he:JaM R u (lenP q) with
  | false=>exact⟨rfl,fun h=>by cases h⟩
  | true =>
   obtain⟨e1,e2⟩:=Jfa hu (by omega) he;have hR:pre++R=(pre++upTo R u (lenP q))++Jbq u R (lenP q):=by rw[List.append_assoc,←e1]
   have hby:by_ u pre+lenP q=by_ u (pre++upTo R u (lenP q)):=by rw[Jbp,e2]
   have hle:Jag qs<=by_ u (Jbq u R (lenP q)):=by
    have:by_ u R=by_ u (upTo R u (lenP q))+by_ u (Jbq u R (lenP q)):=by rw[←Jbp];exact congrArg _ e1
    omega
   obtain⟨i1,i2⟩:=Jnx hu v qs (pre++upTo R u (lenP q)) (Jbq u R (lenP q)) h3 hle;rw[if_pos rfl,s2 he,t2,hby,Bool.true_and];rw[←hR]at i1 i2;refine⟨i1,fun ho=>?_⟩;have ev:by_ v (pre++upTo R u (lenP q)) - by_ v pre=by_ v (upTo R u (lenP q)):=by rw[Jbp];omega
   rw[i2 ho,ev];rfl
theorem JpG(hu:Jaz u)(v:Int)(qs:List Pt)(R:List Nat)(h:∀q∈qs,0<=lenP q)(hl:Jag qs<=by_ u R) :
    Ji6 R u v qs=(if okZ u R qs then 0 else 10)/\Ji7 R u v qs=if okZ u R qs then inZ u v R qs else []:=by
 obtain⟨h1,h2⟩:=Jnx hu v qs [] R h hl;rw[List.nil_append,Jiu]at h1 h2;unfold Ji6 Ji7;rw[h1];refine⟨rfl,?_⟩
 split
 . rename_i ho;exact h2 ho
 . rfl
theorem JfZ{R:List Nat}{n:Int}(h:∀r∈R,Jas r):∀r∈Jbq u R n,Jas r:=fun r hr=>h r (List.mem_of_mem_drop hr)
theorem Jh6(hu:Jaz u){R:List Nat}{n:Int}(hn:n<=by_ u R)(h:∀r∈R,Jas r):∀r∈upTo R u n,Jas r:=fun r hr=>by
 obtain⟨k,_,h2,_⟩:=Jd2 R u n hn;rw[h2]at hr;exact h r (List.mem_of_mem_take hr)
theorem Jjr{u:Int}(hu:Jaz u):∀(qs:List Pt)(R:List Nat),(∀q∈qs,0<=lenP q)->Jag qs<=by_ u R->okZ u R qs=true->(∀r∈R,Jas r)->∀r∈JaL u R qs,Jas r
 | [],R,_,_,_,_,r,hr=>by cases hr
 | q :: qs,R,h,hl,ho,hR,r,hr=>by
  have h3:∀x∈qs,0<=lenP x:=fun x hx=>h x (by simp[hx]);have hp:=JfE h3;have h0:=h q (by simp);have hl2:Jag (q :: qs)=lenP q+Jag qs:=by simp[Jag]
  rw[hl2]at hl;have ho:(JaM R u (lenP q) && okZ u (Jbq u R (lenP q)) qs)=true:=ho;rw[Bool.and_eq_true]at ho;obtain⟨e1,e2⟩:=Jfa hu (by omega) ho.1;have hle:Jag qs<=by_ u (Jbq u R (lenP q)):=by
   have:by_ u R=by_ u (upTo R u (lenP q))+by_ u (Jbq u R (lenP q)):=by rw[←Jbp];exact congrArg _ e1
   omega
  have hr:r∈((if 0<q.keep then upTo R u (lenP q) else [])++Jam q.put)++JaL u (Jbq u R (lenP q)) qs:=hr
  rcases List.mem_append.1 hr with hr|hr
  . rcases List.mem_append.1 hr with hr | hr
    . split at hr
      . exact Jh6 hu (by omega) hR r hr
      . cases hr
    . exact JbV hr
  . exact Jjr hu qs _ h3 hle ho.2 (JfZ hR) r hr
theorem JrG(h:oneB q=true)(n:Int)(hn:lenP q=0->n=0):lenP (JcQ n q)=n:=by
 unfold JcQ
 rcases JcV h with ⟨h1,h2,h3⟩|⟨h1,h2,h3⟩|⟨h1,h2,h3⟩
 . rw[if_pos h1];simp[lenP]
 . rw[if_neg (by omega),if_pos h2];simp[lenP]
 . rw[if_neg (by omega),if_neg (by omega)]
   rw[hn (by unfold lenP;omega)];simp[lenP]
theorem JrF(h:oneB q=true){n:Int}(hn:0<lenP q->0<n):oneP (JcQ n q):=by
 unfold JcQ
 rcases JcV h with ⟨h1,h2,h3⟩|⟨h1,h2,h3⟩|⟨h1,h2,h3⟩
 . rw[if_pos h1];exact .inl ⟨hn (by unfold lenP;omega),rfl,rfl⟩
 . rw[if_neg (by omega),if_pos h2];exact .inr (.inl ⟨rfl,hn (by unfold lenP;omega),rfl⟩)
 . rw[if_neg (by omega),if_neg (by omega)];exact .inr (.inr ⟨rfl,rfl,h3⟩)
theorem Jj7(h:oneB q=true)(n:Int):(JcQ n q).put=q.put:=by
 unfold JcQ
 rcases JcV h with ⟨h1,h2,h3⟩|⟨h1,h2,h3⟩|⟨h1,h2,h3⟩
 . rw[if_pos h1,h3]
 . rw[if_neg (by omega),if_pos h2,h3]
 . rw[if_neg (by omega),if_neg (by omega)]
theorem JpE(h:oneB q=true){n:Int}(hn:0<lenP q->0<n):(0<(JcQ n q).keep)↔0<q.keep:=by
 unfold JcQ
 rcases JcV h with ⟨h1,h2,h3⟩|⟨h1,h2,h3⟩|⟨h1,h2,h3⟩
 . rw[if_pos h1];exact⟨fun _=>h1,fun _=>hn (by unfold lenP;omega)⟩
 . rw[if_neg (by omega),if_pos h2];exact⟨fun h=>absurd h (Int.lt_irrefl 0),fun h=>by omega⟩
 . rw[if_neg (by omega),if_neg (by omega)];exact⟨fun h=>absurd h (Int.lt_irrefl 0),fun h=>by omega⟩
theorem Jrt{v:Int}(hu:Jaz u)(hv:Jaz v){X:List Nat}(h:0<by_ u X):0<by_ v X:=by
 cases X with
 | nil=>rw[Jiu]at h;omega
 | cons r X =>
  have e:r :: X=[r]++X:=rfl;rw[e,Jbp];have:=Joh hv r;have:=Jdl v X;omega
theorem Jjy(hu:Jaz u){X:List Nat}(h:by_ u X=0):X=[]:=by
 cases X with
 | nil=>rfl
 | cons r X =>
  have e:r :: X=[r]++X:=rfl;rw[e,Jbp]at h;have:=Joh hu r;have:=Jdl u X;omega
theorem JqH{u:Int}(hu:Jaz u):∀(qs:List Pt)(R:List Nat),(∀q∈qs,oneB q=true/\(scan q.put).2=true)->Jag qs=by_ u R->(∀r∈R,Jas r)->okZ u R qs=true ->
    Left (inZ u 1 R qs) (encs R)/\Jaa (inZ u 1 R qs) (encs R)=encs (JaL u R qs)
 | [],R,_,hl,_,_=>by
  have:R=[]:=Jjy hu (by rw[←hl];simp[Jag]);subst this;exact⟨⟨by simp[inZ],by simp[inZ,Jag,encs],trivial⟩,rfl⟩
 | q :: qs,R,h,hl,hr,ho=>by
  have hq:=h q (by simp);have hs:=(Jce hq.1).1;have hl2:Jag (q :: qs)=lenP q+Jag qs:=by simp[Jag]
  have hp3:∀x∈qs,0<=lenP x:=fun x hx=>by
   have:=(Jce (h x (by simp[hx])).1).1;unfold Jbc at this;unfold lenP;omega
  have hp:=JfE hp3;have hq0:0<=lenP q:=by unfold Jbc at hs;unfold lenP;omega
  rw[hl2]at hl;have ho:(JaM R u (lenP q) && okZ u (Jbq u R (lenP q)) qs)=true:=ho;rw[Bool.and_eq_true]at ho;obtain⟨e1,e2⟩:=Jfa hu (by omega) ho.1;have hby:by_ u R=by_ u (upTo R u (lenP q))+by_ u (Jbq u R (lenP q)):=by rw[←Jbp];exact congrArg _ e1
  obtain⟨il,ia⟩:=JqH hu qs (Jbq u R (lenP q)) (fun x hx=>h x (by simp[hx])) (by omega) (JfZ hr) ho.2;have hur:=Jh6 (n:=lenP q) hu (by omega) hr;have hX:encs R=encs (upTo R u (lenP q))++encs (Jbq u R (lenP q)):=by rw[←JbQ];exact congrArg _ e1
  have hunf:inZ u 1 R (q :: qs)=JcQ (by_ 1 (upTo R u (lenP q))) q :: inZ u 1 (Jbq u R (lenP q)) qs:=rfl;have hc:JaL u R (q :: qs)=((if 0<q.keep then upTo R u (lenP q) else [])++Jam q.put)++JaL u (Jbq u R (lenP q)) qs:=rfl;have h1:by_ 1 (upTo R u (lenP q))=(encs (upTo R u (lenP q))).length:=by unfold by_;rw[if_pos rfl,Jcf]
  have hz0:lenP q=0->by_ 1 (upTo R u (lenP q))=0:=fun e=>by rw[Jjy hu (e2.trans e),Jiu]
  have hzp:0<lenP q->0<by_ 1 (upTo R u (lenP q)):=fun e=>Jrt hu (.inl rfl) (by omega);have hul:=JrG hq.1 _ hz0;rw[hunf,hc,hX];have hto:(lenP (JcQ (by_ 1 (upTo R u (lenP q))) q)).toNat=(encs (upTo R u (lenP q))).length:=by rw[hul,h1];simp
  have htake:(encs (upTo R u (lenP q))++encs (Jbq u R (lenP q))).take (lenP (JcQ (by_ 1 (upTo R u (lenP q))) q)).toNat=encs (upTo R u (lenP q)):=by rw[hto,List.take_left' rfl]
  have hdrop:(encs (upTo R u (lenP q))++encs (Jbq u R (lenP q))).drop (lenP (JcQ (by_ 1 (upTo R u (lenP q))) q)).toNat=encs (Jbq u R (lenP q)):=by rw[hto,List.drop_left' rfl]
  refine⟨⟨?_,?_,?_⟩,?_⟩
  . intro p hp
    rcases List.mem_cons.1 hp with rfl|hp
    . exact JrF hq.1 hzp
    . exact il.one p hp
  . rw[Jbo,il.long,hul,h1,List.length_append];omega
  . refine⟨?_,?_,?_⟩
    . rw[Jj7 hq.1];exact Jg2 hq.2
    . rw[htake];exact⟨_,hur,rfl⟩
    . rw[hdrop];exact il.al
  . rw[JdE,htake,hdrop,ia,JbQ,JbQ]
    congr 1
    unfold JcN;have hk:=JpE hq.1 hzp;rw[Jj7 hq.1,JbM hq.2]
    congr 1
    by_cases hkk:0<q.keep
    . rw[if_pos hkk,if_pos (hk.2 hkk)]
    . rw[if_neg hkk,if_neg (fun e=>hkk (hk.1 e))];rfl
end
section
open Go.RowKit
variable {w w' : World}{k : IntKind}{p : Option Addr}{n c m b o : Nat}{zs : List Int}
def sl (w:World) (k:IntKind) (p:Option Addr) (n c:Nat) (zs:List Int):Prop :=
 n=zs.length/\((p=none/\c=0/\zs=[])\/∃b o,p=some ⟨b,o,none⟩/\zs.length<=c/\c<=maxLen/\b<w.heap.size/\∀i z,zs[i]?=some z->w.cell? ⟨b,o+i,none⟩=some (.int k z))
theorem Je9(h:sl w k p n c zs){B:Nat}(hb:Below B w w')(hB:w.heap.size<=B):sl w' k p n c zs:=by
 obtain⟨h0,h⟩:=h;refine⟨h0,?_⟩
 rcases h with h|⟨b,o,h1,h2,h3,h4,h5⟩
 . exact .inl h
 . exact .inr ⟨b,o,h1,h2,h3,Nat.lt_of_lt_of_le h4 hb.size,fun i z hi=>(hb.cell (p:=⟨b,o+i,none⟩) (Nat.lt_of_lt_of_le h4 hB)).trans (h5 i z hi)⟩
theorem JrQ(h:sl w k p n c zs)(hb:Below w.heap.size w w'):sl w' k p n c zs:=Je9 h hb (nlr _)
theorem JjE(h:sl w k p n c zs):reads w k (.slice p n c) zs:=by
 obtain⟨rfl,h⟩:=h
 rcases h with ⟨rfl,rfl,rfl⟩|⟨b,o,h1,h2,h3,h4,h5⟩
 . exact⟨none,0,rfl,nlr _,Nat.zero_le _,fun h=>absurd rfl h⟩
 . exact⟨p,c,rfl,h2,h3,fun _=>⟨b,o,h1,h4,fun i hi=>h5 i _ (by rw[List.getD_eq_getElem?_getD,lgg hi];rfl)⟩⟩
theorem JpY{B e:Nat}{v:Value}{xs:List Value}(hx:xs=zs.map (Value.int k))(h:w.ownsRow B e 1 v zs.length xs):∃p c,v=.slice p zs.length c/\sl w k p zs.length c zs:=by
 subst hx;obtain⟨h0,hrow⟩:=h
 rcases hrow with ⟨rfl,h2⟩|⟨g,cap,cur,rfl,h2,h3,h4,h5,h6,h7⟩
 . obtain rfl:zs=[]:=List.eq_nil_of_length_eq_zero h2
   exact⟨none,0,rfl,rfl,.inl ⟨rfl,rfl,rfl⟩⟩
 . refine ⟨_,cap,rfl,rfl,.inr ⟨g,0,rfl,h4,h5,(alt h3),fun i z hi=>?_⟩⟩
   have hil:i<zs.length:=(llt hi);rw[Nat.mul_one]at h7;have hc:cur[i]?=some (.int k z):=by
    rw[←Array.getElem?_toList];have:=congrArg (·[i]?) h7;simp only[List.getElem?_take,hil,if_true,List.getElem?_map]at this;rw[this,hi];rfl
   rw[Nat.zero_add];show w.cell? ⟨g,i,none⟩=_;unfold World.cell?;simp[h3,hc]
theorem JpZ(h:sl w k p n c zs)(hm:m<=n):sl w k p m c (zs.take m):=by
 obtain⟨rfl,h⟩:=h;refine⟨by rw[List.length_take];omega,?_⟩
 rcases h with ⟨h1,h2,rfl⟩|⟨b,o,h1,h2,h3,h4,h5⟩
 . exact .inl ⟨h1,h2,by simp⟩
 . refine .inr ⟨b,o,h1,by rw[List.length_take];omega,h3,h4,fun i z hi=>h5 i z ?_⟩
   rw[List.getElem?_take]at hi
   split at hi
   . exact hi
   . cases hi
theorem sl_tail(h:sl w k (some ⟨b,o,none⟩) n c zs)(hm:m<=n):sl w k (some ⟨b,o+m,none⟩) (n - m) (c - m) (zs.drop m):=by
 obtain⟨rfl,h⟩:=h;refine⟨by rw[List.length_drop],?_⟩
 rcases h with ⟨h1,_⟩|⟨b',o',h1,h2,h3,h4,h5⟩
 . cases h1
 . obtain⟨rfl,rfl,_⟩:b=b'/\o=o'/\True:=by injection h1 with h1;injection h1 with h1 h2;exact⟨h1,h2,trivial⟩
   refine .inr ⟨b,o+m,rfl,by rw[List.length_drop];omega,by omega,h4,fun i z hi=>?_⟩;rw[List.getElem?_drop]at hi;have:=h5 (m+i) z hi;rw[Nat.add_assoc];exact this
theorem sl_last(h:sl w k (some ⟨b,o,none⟩) n c zs)(hm:m<=n)(hc:c=m):sl w k (some ⟨b,o,none⟩) 0 0 (zs.drop m):=by
 obtain⟨rfl,h⟩:=h
 rcases h with ⟨h1,_⟩|⟨b',o',h1,h2,h3,h4,h5⟩
 . cases h1
 . obtain⟨rfl,rfl,_⟩:b=b'/\o=o'/\True:=by injection h1 with h1;injection h1 with h1 h2;exact⟨h1,h2,trivial⟩
   have e:zs.drop m=[]:=List.drop_eq_nil_of_le (by omega);rw[e];exact⟨rfl,.inr ⟨b,o,rfl,nlr _,Nat.zero_le _,h4,fun i z hi=>by cases hi⟩⟩
theorem Jqa(h:sl w k p n c zs)(hm:m<=n):sl w k (if c=m then p else Option.map (fun x=>x.add m) p) (n - m) (c - m) (zs.drop m):=by
 cases p with
 | none =>
  obtain⟨rfl,h⟩:=h
  rcases h with ⟨_,rfl,rfl⟩|⟨_,_,h1,_⟩
  . have:m=0:=by simpa using hm
    subst this;exact⟨rfl,.inl ⟨by simp,rfl,rfl⟩⟩
  . cases h1
 | some a =>
  have h0:=h;obtain⟨rfl,h⟩:=h
  rcases h with ⟨h1,_⟩|⟨b,o,h1,h2,_⟩
  . cases h1
  . obtain rfl:a=⟨b,o,none⟩:=osi h1
    by_cases hc:c=m
    . rw[if_pos hc]
      have e1:zs.length - m=0:=by omega
      have e2:c - m=0:=by omega
      rw[e1,e2];exact sl_last h0 hm hc
    . rw[if_neg hc]
      have:=sl_tail h0 hm;simpa[Addr.add_lit] using this
theorem Jtk(h:sl w k p n c zs):n<=c/\c<=maxLen/\n=zs.length:=by
 obtain⟨rfl,h⟩:=h
 rcases h with ⟨h1,rfl,rfl⟩|⟨b,o,h1,h2,h3,_⟩
 . exact⟨nlr _,Nat.zero_le _,rfl⟩
 . exact⟨h2,h3,rfl⟩
theorem JoQ(w:World)(row:Option Nat):w.grownBy w row:=⟨rfl,rfl,rfl,nlr _,fun _ _ _=>rfl⟩
theorem JeR{P:Program}(w:World){ops:Array Oper}{rest:List Oper}{o:Oper}{a:Act}{Q:Exit->Act->World->Prop}(hgd:o.guard=none)(s x:Operand)(t:TypeId)
    (ho:o.op=.call { callee:=.builtin .append,args:=#[s,x],argTypes:=#[t,t] })
    (base:Nat) (e:TypeId) (i:TypeInfo) (z:Value) (bytes:Nat) (ht:P.underlying t=some (.slice e)) (hi:P.info? e=some i) (hz:i.zero=some z)
    (hsize:i.size=1) (hby:i.bytes=bytes) (hzs:z.cells.size=1)
    (v:Value) (n:Nat) (xs:List Value) (hs:a.eval s=v) (hown:w.ownsRow base e 1 v n xs)
    (k:IntKind) (p:Option Addr) (m c:Nat) (zs:List Int) (hx:a.eval x=.slice p m c) (hsl:sl w k p m c zs)
    (h63:n+m<=maxLen) (hbytes:(n+m)*bytes<=140737488355328) (hbase:base<=w.heap.size)
    (h:∀v' w',w'.ownsRow base e 1 v' (n+m) (xs++zs.map (Value.int k))->w.grownBy w' v.ownBlock->wpList P ops Q rest (a.put o.dst v') w'):wpList P ops Q (o :: rest) a w:=by
 obtain⟨rfl,hsl⟩:=hsl
 rcases hsl with ⟨rfl,rfl,rfl⟩|⟨b,o',rfl,h2,h3,h4,h5⟩
 . exact wpList_append_own_none hgd s x t ho base e i 1 ht hi v n xs hs hown hx (h v w (by simpa using hown) (JoQ _ _))
 . exact wpList_append_own w hgd s x t ho base e i z 1 bytes ht hi hz hsize hby hzs (by decide) v n xs hs hown ⟨b,o',none⟩ zs.length c (zs.map (Value.int k)) hx (by simp) (fun j u hj=>by
     rw[List.getElem?_map]at hj
     cases hz':zs[j]? with
     | none=>rw[hz']at hj;cases hj
     | some z' =>
      rw[hz']at hj;obtain rfl:Value.int k z'=u:=osi hj;rw[Addr.add_lit];exact h5 j z' hz') (fun u hu=>by
     obtain⟨y,_,rfl⟩:=List.mem_map.1 hu
     rfl) h63 hbytes hbase fun v' w' g1 g2 _=>h v' w' g1 g2
theorem JkM{l:List UInt8}(h:sl w .u8 p n c (l.map fun b=>(b.toNat:Int))):(convert 158 9 (.slice p n c)).run Tryz.prog w=.ok (.string ⟨l.toArray⟩) w:=by
 obtain⟨rfl,h⟩:=h;rw[List.length_map]
 rcases h with ⟨rfl,rfl,e⟩|⟨b,o,rfl,h2,h3,h4,h5⟩
 . obtain rfl:l=[]:=List.map_eq_nil_iff.1 e
   kernel_rfl
 . refine run_convert_bytes_back w 158 9 5 ⟨b,o,none⟩ c l Tryz.underlying158 Tryz.underlying5 Tryz.underlying9 fun j hj=>?_
   rw[Addr.add_lit];exact h5 j _ (by rw[List.getElem?_map,lgg hj];rfl)
end
section
open Go.RowKit
attribute [local go_sem] Oper.semAt_some
def atV (b:Nat):Value:=.iface 273 (.pointer (some ⟨b,0,none⟩))
theorem row1(X:List Nat):rowZ 1 X=(encs X).map fun b=>(b.toNat:Int):=rfl
theorem row2(X:List Nat):rowZ 2 X=toI (hals X):=rfl
theorem row3(X:List Nat):rowZ 3 X=toI X:=rfl
theorem Jew{X:List Nat}(h:C1 X<=1000000):(encs X).length<=1000000/\X.length<=1000000/\(hals X).length<=2000000:=by
 have h1:=Jcf X;have h2:=JeN X;have h3:=(Jsw X).1;omega
theorem Jot(X:List Nat)(hX:∀r∈X,Jas r)(hz:C1 X<=1000000)(p:Option Addr)(n c:Nat)(w:World)(hT:Lib.Utf8Tabs 2 3 w)(h:sl w .u8 p n c (rowZ 1 X)) :
    Calls Tryz.prog 94 #[.slice p n c] w fun e w'=>e=.returned (.tuple #[.string (Ja1 X),.nilIface])/\Below w.heap.size w w':=by
 have hconv:=JkM (l:=encs X) h;obtain⟨e1,_,_⟩:=Jew hz;have hsc:(scan (encs X)).2=true:=by rw[JbT X hX]
 have cC:Hid (Calls Tryz.prog 78 #[.string ⟨(encs X).toArray⟩] w fun e w'=>∃n1 n2 n3 n4,e=.returned (.tuple #[.agg #[.int .i64 n1,.int .i64 n2,.int .i64 n3,.int .i64 n4],.nilIface])/\Below w.heap.size w w') :=
  (Je2 ⟨(encs X).toArray⟩ (by simp[ByteArray.size];omega) w hT).mono fun e w' ⟨v,x,h1,h2,h3⟩=>by
    rcases h3 with ⟨_,rfl,rfl⟩|⟨h4,_⟩
    . exact⟨_,_,_,_,h1,h2⟩
    . rw[show(ByteArray.mk (encs X).toArray).data.toList=encs X from rfl,hsc]at h4;cases h4
 have eb:Ja1 X=⟨(encs X).toArray⟩:=rfl;rw[eb];generalize ByteArray.mk (encs X).toArray=S at *;clear hT h hX hz hsc e1 eb
 go_enter Tryz.func94,Tryz.ntmps94
 go_wp2_with (go_at_call 78;refine Calls.mono cC.out ?_;rintro e w1 ⟨n1,n2,n3,n4,rfl,hb1⟩)
 go_ret2
 exact⟨rfl,hb1.alloc hb1.size _⟩
theorem Jov(R:List Nat)(m:Nat):(rowZ 1 R).take m=((encs R).take m).map fun b=>(b.toNat:Int):=by rw[row1,List.map_take]
theorem JpO(R:List Nat)(m:Nat)(hbad:∀X,(∀r∈X,Jas r)->(rowZ 1 R).take m≠rowZ 1 X)(hz:C1 R<=1000000)(p:Option Addr)(n c:Nat)(w:World)(hT:Lib.Utf8Tabs 2 3 w)(h:sl w .u8 p n c ((rowZ 1 R).take m)) :
    Calls Tryz.prog 94 #[.slice p n c] w fun e w'=>∃s bx,e=.returned (.tuple #[.string s,atV bx])/\Below w.heap.size w w':=by
 obtain⟨L,hL⟩:∃L,(encs R).take m=L:=⟨_,rfl⟩;have e0:=Jov R m;rw[hL]at e0;rw[e0]at h hbad;have hconv:=JkM (l:=L) h;obtain⟨e1,_,_⟩:=Jew hz;have hLl:L.length<=1000000:=by rw[←hL,List.length_take];omega
 have hsc:(scan L).2=false:=by
  cases e:(scan L).2 with
  | false=>rfl
  | true=>exact absurd (by rw[row1,JbM e]) (hbad (Jam L) fun r hr=>JbV hr)
 have cC:Hid (Calls Tryz.prog 78 #[.string ⟨L.toArray⟩] w fun e w'=>∃bx,e=.returned (.tuple #[.agg #[.int .i64 0,.int .i64 0,.int .i64 0,.int .i64 0],.iface 273 (.pointer (some ⟨bx,0,none⟩))])/\Below w.heap.size w w') :=
  (Je2 ⟨L.toArray⟩ (by simp[ByteArray.size];omega) w hT).mono fun e w' ⟨v,x,h1,h2,h3⟩=>by
    rcases h3 with ⟨h4,_⟩|⟨_,rfl,bx,rfl,_⟩
    . rw[show(ByteArray.mk L.toArray).data.toList=L from rfl,hsc]at h4;cases h4
    . exact⟨bx,h1,h2⟩
 generalize ByteArray.mk L.toArray=S at *;unfold atV;clear hT h hbad hz hsc e1 e0 hL hLl
 go_enter Tryz.func94,Tryz.ntmps94
 go_wp2_with (go_at_call 78;refine Calls.mono cC.out ?_;rintro e w1 ⟨bx,rfl,hb1⟩)
 go_ret2
 exact⟨_,_,rfl,hb1.alloc hb1.size _⟩
theorem Jos(X:List Nat)(hX:∀r∈X,Jas r)(hz:C1 X<=1000000)(p:Option Addr)(n c:Nat)(w:World)(hT:Lib.Utf8Tabs 2 3 w)(h:sl w .u16 p n c (rowZ 2 X)) :
    Calls Tryz.prog 97 #[.slice p n c] w fun e w'=>e=.returned (.tuple #[.string (Ja1 X),.nilIface])/\Below w.heap.size w w':=by
 obtain⟨_,_,e3⟩:=Jew hz;refine(JfC (.slice p n c) (toI (hals X)) w (JqJ hX) (JjE h) (by simp[toI];omega)).mono fun e w' ⟨s,x,h1,h2,h3⟩=>?_;have hsc:=JiT X hX
 rcases h3 with ⟨_,rfl,rfl⟩|⟨h4,_⟩
 . rw[hsc]at h1
   have e5:((X.map fun r:Nat=>((r:Int),(hal r).length)).map (·.1))=toI X:=by simp[toI,Function.comp_def]
   rw[e5,JnZ]at h1;exact⟨h1,h2⟩
 . rw[hsc]at h4;cases h4
theorem JpN(R:List Nat)(m:Nat)(hR:∀r∈R,Jas r)(hbad:∀X,(∀r∈X,Jas r)->(rowZ 2 R).take m≠rowZ 2 X)(hz:C1 R<=1000000)(p:Option Addr)(n c:Nat)(w:World)(hT:Lib.Utf8Tabs 2 3 w)(h:sl w .u16 p n c ((rowZ 2 R).take m)) :
    Calls Tryz.prog 97 #[.slice p n c] w fun e w'=>∃s bx,e=.returned (.tuple #[.string s,atV bx])/\Below w.heap.size w w':=by
 obtain⟨_,_,e3⟩:=Jew hz;have hb:∀z∈(rowZ 2 R).take m,0<=z/\z<65536:=fun z hz=>JqJ hR z (List.mem_of_mem_take hz);have hl:((rowZ 2 R).take m).length<=2000000:=by
  rw[List.length_take,row2];have:(toI (hals R)).length=(hals R).length:=by simp[toI]
  omega
 refine(JfC (.slice p n c) ((rowZ 2 R).take m) w hb (JjE h) (by omega)).mono fun e w' ⟨s,x,h1,h2,h3⟩=>?_
 rcases h3 with ⟨h4,_,_⟩|⟨_,_,bx,rfl,_⟩
 . obtain⟨rs,_,r2,r3⟩:=JoO _ _ (nlr _) hb h4
   exact absurd r3 (hbad rs r2)
 . exact⟨s,bx,h1,h2⟩
theorem Jor(X:List Nat)(hX:∀r∈X,Jas r)(hz:C1 X<=1000000)(p:Option Addr)(n c:Nat)(w:World)(hT:Lib.Utf8Tabs 2 3 w)(h:sl w .i32 p n c (rowZ 3 X)) :
    Calls Tryz.prog 101 #[.slice p n c] w fun e w'=>e=.returned (.tuple #[.string (Ja1 X),.nilIface])/\Below w.heap.size w w':=by
 obtain⟨_,e2,_⟩:=Jew hz;refine(Jtf (.slice p n c) (toI X) w (toI_bd hX) (JjE h) (by simp[toI];omega)).mono fun e w' ⟨s,x,h1,h2,h3⟩=>?_
 rcases h3 with ⟨_,rfl,rfl⟩|⟨k,k1,_,k3,_⟩
 . rw[JnZ]at h1
   exact⟨h1,h2⟩
 . have:=JpB hX ((toI X).getD k 0) (by rw[List.getD_eq_getElem?_getD,lgg k1];exact List.getElem_mem _)
   rw[this]at k3;cases k3
theorem JpM(R:List Nat)(m:Nat)(hR:∀r∈R,Jas r)(hbad:∀X,(∀r∈X,Jas r)->(rowZ 3 R).take m≠rowZ 3 X):False :=
 hbad (R.take m) (fun r hr=>hR r (List.mem_of_mem_take hr)) (by rw[row3,row3];simp[toI,List.map_take])
theorem Jnm(w:World)(e:TypeId)(s:ByteArray):Below w.heap.size w (Lib.bytesWorld w e s) :=
 ⟨rfl,rfl,rfl,by rw[Lib.bytesWorld_size];omega,fun k hk=>Lib.bytesWorld_at_old w e s k hk⟩
theorem JrW(U:List UInt8)(hU:(scan U).2=true)(hl:U.length<=1000000)(w:World) :
    Calls Tryz.prog 95 #[.string ⟨U.toArray⟩] w fun e w'=>∃p n c,e=.returned (.slice p n c)/\sl w' .u8 p n c (rowZ 1 (Jam U))/\Below w.heap.size w w':=by
 have hconv:=Lib.run_convert_string_bytes (P:=Tryz.prog) w 9 158 5 ⟨U.toArray⟩ (u:=.string) Tryz.underlying9 Tryz.underlying158 Tryz.underlying5;have hz:(ByteArray.mk U.toArray).size=U.length:=by simp[ByteArray.size]
 have hsl:sl (Lib.bytesWorld w 5 ⟨U.toArray⟩) .u8 (some ⟨w.heap.size,0,none⟩) (ByteArray.mk U.toArray).size (grownCap w (ByteArray.mk U.toArray).size 0 5) (rowZ 1 (Jam U)):=by
  rw[row1,JbM hU];refine⟨by rw[hz,List.length_map],.inr ⟨w.heap.size,0,rfl,?_,?_,?_,fun i z hi=>?_⟩⟩
  . rw[List.length_map,←hz];exact grownCap_ge _ _ _ _
  . exact grownCap_le_maxLen _ _ _ _ (by rw[hz];unfold maxLen;omega)
  . rw[Lib.bytesWorld_size];omega
  . have hil:i<U.length:=by have:=(llt hi);rwa[List.length_map]at this
    rw[Nat.zero_add,Lib.bytesWorld_cell _ _ _ _ (by rw[hz];exact hil)];rw[List.getElem?_map,lgg hil]at hi;have:=osi hi;rw[←this,List.getD_eq_getElem?_getD];simp[hil]
 have hbl:=Jnm w 5 ⟨U.toArray⟩;have HSL:=hdz hsl;have HBL:=hdz hbl;generalize Lib.bytesWorld w 5 ⟨U.toArray⟩=W at *;clear hsl hbl
 go_enter Tryz.func95,Tryz.ntmps95
 go_wp2;go_ret;exact⟨_,_,_,rfl,HSL.out,HBL.out⟩
theorem JrV(U:List UInt8)(hU:(scan U).2=true)(hl:U.length<=1000000)(w:World)(hT:Lib.Utf8Tabs 2 3 w) :
    Calls Tryz.prog 98 #[.string ⟨U.toArray⟩] w fun e w'=>∃p n c,e=.returned (.slice p n c)/\sl w' .u16 p n c (rowZ 2 (Jam U))/\Below w.heap.size w w':=by
 have cC:Hid (Calls Tryz.prog 99 #[.string ⟨U.toArray⟩] w fun e w'=>∃p n c,e=.returned (.tuple #[.slice p n c,.nilIface])/\sl w' .u16 p n c (rowZ 2 (Jam U))/\Below w.heap.size w w') :=
  (Jp5 ⟨U.toArray⟩ (by simp[ByteArray.size];omega) w hT).mono fun e w' ⟨v,x,h1,h2,h3⟩=>by
    rcases h3 with ⟨_,rfl,p,c,h4,h5⟩|⟨h4,_⟩
    . have e0:(ByteArray.mk U.toArray).data.toList=U:=rfl
      have e1:=Jpq U;rw[e0]at h4 h5;have hlen:(Jcp (scan U).1).length=(rowZ 2 (Jam U)).length:=by rw[e1,row2,List.length_map]
      rw[hlen]at h4 h5;obtain⟨p',c',q1,q2⟩:=JpY e1 h5;exact⟨p',_,c',by rw[h1,q1],q2,h2⟩
    . rw[show(ByteArray.mk U.toArray).data.toList=U from rfl,hU]at h4;cases h4
 clear hT hU hl
 go_enter Tryz.func98,Tryz.ntmps98
 go_wp2_with (go_at_call 99;refine Calls.mono cC.out ?_;rintro e w1 ⟨p,n,c,rfl,hs1,hb1⟩;have HS1:=hdz hs1;clear hs1)
 go_ret;exact⟨_,_,_,rfl,HS1.out,hb1⟩
theorem JrU(U:List UInt8)(hU:(scan U).2=true)(hl:U.length<=1000000)(w:World)(hT:Lib.Utf8Tabs 2 3 w) :
    Calls Tryz.prog 102 #[.string ⟨U.toArray⟩] w fun e w'=>∃p n c,e=.returned (.slice p n c)/\sl w' .i32 p n c (rowZ 3 (Jam U))/\Below w.heap.size w w':=by
 have cC:Hid (Calls Tryz.prog 103 #[.string ⟨U.toArray⟩] w fun e w'=>∃p n c,e=.returned (.tuple #[.slice p n c,.nilIface])/\sl w' .i32 p n c (rowZ 3 (Jam U))/\Below w.heap.size w w') :=
  (Jr7 ⟨U.toArray⟩ (by simp[ByteArray.size];omega) w hT).mono fun e w' ⟨v,x,h1,h2,h3⟩=>by
    rcases h3 with ⟨_,rfl,p,c,h4,h5⟩|⟨h4,_⟩
    . have e0:(ByteArray.mk U.toArray).data.toList=U:=rfl
      have e1:=Jpr U;rw[e0]at h4 h5;have hlen:(JaS (scan U).1).length=(rowZ 3 (Jam U)).length:=by rw[e1,row3,List.length_map]
      rw[hlen]at h4 h5;obtain⟨p',c',q1,q2⟩:=JpY e1 h5;exact⟨p',_,c',by rw[h1,q1],q2,h2⟩
    . rw[show(ByteArray.mk U.toArray).data.toList=U from rfl,hU]at h4;cases h4
 clear hT hU hl
 go_enter Tryz.func102,Tryz.ntmps102
 go_wp2_with (go_at_call 103;refine Calls.mono cC.out ?_;rintro e w1 ⟨p,n,c,rfl,hs1,hb1⟩;have HS1:=hdz hs1;clear hs1)
 go_ret;exact⟨_,_,_,rfl,HS1.out,hb1⟩
end
section
open Go.RowKit
variable {w : World}{u K D S : Int}{k : IntKind}{R R' : List Nat}{qs qs' : List Pt}{p : Option Addr}{n c x : Nat}{U : List UInt8}
def szV (u:Int) (R:List Nat) (qs:List Pt):Int:=if okZ u R qs then C1 (JaL u R qs) else 0
def szE (u:Int) (R:List Nat) (qs:List Pt):Int:=if okZ u R qs then 0 else 10
def szI (w:World) (u:Int) (k:IntKind) (R:List Nat) (qs:List Pt) (x:Nat) (v8 v9:Value) (wr:World):Prop :=
 ∃ (S:Int) (p:Option Addr) (n c:Nat) (R':List Nat),v8=.int .i64 S/\v9=.slice p n c/\sl wr k p n c (rowZ u R')/\(∀r∈R',Jas r)/\Jag (qs.drop x)=by_ u R' /\
  okZ u R qs=okZ u R' (qs.drop x)/\(okZ u R qs=true->S+C1 (JaL u R' (qs.drop x))=C1 (JaL u R qs))/\0<=S/\S<=2000000*(x:Int)/\C1 R'<=1000000/\x<=qs.length/\Below w.heap.size w wr
theorem JpT(hz:C1 R<=1000000)(hsl:sl w k p n c (rowZ u R))(hR:∀r∈R,Jas r)(hl:Jag qs=by_ u R):szI w u k R qs 0 (.int .i64 0) (.slice p n c) w :=
 ⟨0,p,n,c,R,rfl,rfl,hsl,hR,hl,rfl,fun _=>Int.zero_add _,Int.le_refl _,Int.le_refl _,hz,Nat.zero_le _,brf _ _⟩
structure szStep (u:Int) (R':List Nat) (q:Pt) (qs':List Pt) (n:Nat):Prop where
 k0:0<=q.keep
 d0:0<=q.drop
 le:q.keep+q.drop<=(n:Int)
 len:(n:Int)=by_ u R'
 one:oneB q=true/\(scan q.put).2=true
 long:lenP q+Jag qs'=by_ u R'
 rest:0<=Jag qs'
theorem JpS{q:Pt}(hu:Jaz u)(hd:qs.drop x=q :: qs.drop (x+1))(hq:oneB q=true/\(scan q.put).2=true)(hrest:∀y∈qs.drop (x+1),oneB y=true/\(scan y.put).2=true)
    (hsl:sl w k p n c (rowZ u R')) (hR:∀r∈R',Jas r) (hl:Jag (qs.drop x)=by_ u R') (hz:C1 R'<=1000000):szStep u R' q (qs.drop (x+1)) n:=by
 have hs:=(Jce hq.1).1;have hp:=JfE (l:=qs.drop (x+1)) fun y hy=>by
  have:=(Jce (hrest y hy).1).1;unfold Jbc at this;unfold lenP;omega
 have hlen:(n:Int)=by_ u R':=by rw[hsl.1,JcG hu]
 have hl2:Jag (q :: qs.drop (x+1))=lenP q+Jag (qs.drop (x+1)):=by simp[Jag]
 rw[hd,hl2]at hl;refine⟨hs.1,hs.2,?_,hlen,hq,hl,hp⟩;have:lenP q=q.keep+q.drop:=rfl;omega
theorem C1_part{A B:List Nat}(h:R=A++B):C1 A<=C1 R/\C1 B<=C1 R:=by
 rw[h,Jcg];have:=JdY A;have:=JdY B;omega
theorem JhE(hu:Jaz u)(h:szStep u R' ⟨K,D,U⟩ qs' n)(hR:∀r∈R',Jas r)(hz:C1 R'<=1000000)(he:JaM R' u (K+D)=true) :
    (rowZ u R').take (K+D).toNat=rowZ u (upTo R' u (K+D))/\C1 (upTo R' u (K+D))<=1000000/\(∀r∈upTo R' u (K+D),Jas r) /\
    ((rowZ u R').drop (K+D).toNat=rowZ u (Jbq u R' (K+D))/\(∀r∈Jbq u R' (K+D),Jas r)/\Jag qs'=by_ u (Jbq u R' (K+D))/\C1 (Jbq u R' (K+D))<=1000000 /\
      okZ u R' (⟨K,D,U⟩ :: qs')=okZ u (Jbq u R' (K+D)) qs'/\C1 (JaL u R' (⟨K,D,U⟩ :: qs'))=((if 0<K then C1 (upTo R' u (K+D)) else 0)+(U.length:Int))+C1 (JaL u (Jbq u R' (K+D)) qs')):=by
 have hl:lenP ⟨K,D,U⟩=K+D:=rfl;have h0:0<=K+D:=by have:=h.k0;have:=h.d0;simp only at *;omega
 have hle:K+D<=by_ u R':=by have:=h.le;have:=h.len;simp only at *;omega
 obtain⟨e1,e2⟩:=Jfa hu hle he;obtain⟨e3,e4⟩:=Jqs hu h0 hle he;have hc:=C1_part e1;have hby:by_ u R'=by_ u (upTo R' u (K+D))+by_ u (Jbq u R' (K+D)):=by rw[←Jbp];exact congrArg _ e1
 have hlong:=h.long;rw[hl]at hlong;refine⟨e3,by omega,Jh6 hu hle hR,e4,JfZ hR,by omega,by omega,?_,?_⟩
 . show(JaM R' u (lenP ⟨K,D,U⟩) && okZ u (Jbq u R' (lenP ⟨K,D,U⟩)) qs')=_
   rw[hl,he];rfl
 . show C1 (((if 0<K then upTo R' u (lenP ⟨K,D,U⟩) else [])++Jam U)++JaL u (Jbq u R' (lenP ⟨K,D,U⟩)) qs')=_
   rw[hl,Jcg,Jcg];have e5:C1 (Jam U)=(U.length:Int):=by rw[Jcf,JbM h.one.2]
   rw[e5]
   split
   . rfl
   . rfl
theorem Jow(hu:Jaz u)(h:szStep u R' ⟨K,D,U⟩ qs' n)(hR:∀r∈R',Jas r)(he:JaM R' u (K+D)=false) :
    ∀X,(∀r∈X,Jas r)->(rowZ u R').take (K+D).toNat≠rowZ u X :=
 Jqt hu hR (by have:=h.k0;have:=h.d0;simp only at *;omega) (by have:=h.le;have:=h.len;simp only at *;omega) he
theorem sz_bad(h:okZ u R qs=false):szV u R qs=0/\szE u R qs=10:=by
 unfold szV szE;rw[h];exact⟨rfl,rfl⟩
theorem sz_good(h:okZ u R qs=okZ u R' [])(hc:okZ u R qs=true->S+C1 (JaL u R' [])=C1 (JaL u R qs)):szV u R qs=S/\szE u R qs=0:=by
 have h1:okZ u R qs=true:=h;have h2:=hc h1;unfold szV szE;rw[h1,if_pos rfl,if_pos rfl];have e:C1 (JaL u R' [])=0:=rfl;exact⟨by omega,rfl⟩
theorem Jn4{wn:World}{R2:List Nat}{A:Int}
    (hx:x<qs.length) (hok:okZ u R qs=okZ u R' (⟨K,D,U⟩ :: qs.drop (x+1))) (hcome:okZ u R qs=true->S+C1 (JaL u R' (⟨K,D,U⟩ :: qs.drop (x+1)))=C1 (JaL u R qs))
    (hs:(∀r∈R2,Jas r)/\Jag (qs.drop (x+1))=by_ u R2/\C1 R2<=1000000/\okZ u R' (⟨K,D,U⟩ :: qs.drop (x+1))=okZ u R2 (qs.drop (x+1))/\C1 (JaL u R' (⟨K,D,U⟩ :: qs.drop (x+1)))=(A+(U.length:Int))+C1 (JaL u R2 (qs.drop (x+1))))
    (hsl:sl wn k p n c (rowZ u R2)) (h0:0<=S) (h1:S<=2000000*(x:Int)) (hA0:0<=A) (hA:A<=1000000) (hU:U.length<=1000000) (hb:Below w.heap.size w wn):szI w u k R qs (x+1) (.int .i64 (S+A+U.length)) (.slice p n c) wn:=by
 obtain⟨s1,s2,s3,s4,s5⟩:=hs;refine⟨_,p,n,c,R2,rfl,rfl,hsl,s1,s2,hok.trans s4,fun h=>?_,by omega,by rw[Int.natCast_add];omega,s3,hx,hb⟩;have:=hcome h;omega
end
section
open Go.RowKit
attribute [local go_sem] Oper.semAt_some
variable {u : Int}{k : IntKind}{fs fx : FuncId}
def JmW (u:Int) (k:IntKind) (fs fx:FuncId):Prop:=u=1/\k=.u8/\fs=159/\fx=94\/u=2/\k=.u16/\fs=160/\fx=97\/u=3/\k=.i32/\fs=167/\fx=101
theorem JpL(hf:JmW u k fs fx)(X:List Nat)(hX:∀r∈X,Jas r)(hz:C1 X<=1000000)(p:Option Addr)(n c:Nat)(w:World)(hT:Lib.Utf8Tabs 2 3 w)(h:sl w k p n c (rowZ u X)) :
    Calls Tryz.prog fx #[.slice p n c] w fun e w'=>e=.returned (.tuple #[.string (Ja1 X),.nilIface])/\Below w.heap.size w w':=by
 rcases hf with ⟨rfl,rfl,_,rfl⟩|⟨rfl,rfl,_,rfl⟩|⟨rfl,rfl,_,rfl⟩
 . exact Jot X hX hz p n c w hT h
 . exact Jos X hX hz p n c w hT h
 . exact Jor X hX hz p n c w hT h
theorem JrK(hf:JmW u k fs fx)(R:List Nat)(m:Nat)(hR:∀r∈R,Jas r)(hbad:∀X,(∀r∈X,Jas r)->(rowZ u R).take m≠rowZ u X)(hz:C1 R<=1000000)(p:Option Addr)(n c:Nat)(w:World)(hT:Lib.Utf8Tabs 2 3 w)(h:sl w k p n c ((rowZ u R).take m)) :
    Calls Tryz.prog fx #[.slice p n c] w fun e w'=>∃s bx,e=.returned (.tuple #[.string s,atV bx])/\Below w.heap.size w w':=by
 rcases hf with ⟨rfl,rfl,_,rfl⟩|⟨rfl,rfl,_,rfl⟩|⟨rfl,rfl,_,rfl⟩
 . exact JpO R m hbad hz p n c w hT h
 . exact JpN R m hR hbad hz p n c w hT h
 . exact(JpM R m hR hbad).elim
theorem Jn6(hf:JmW u k fs fx)(p:Option Addr)(n c:Nat)(R:List Nat)(qs:List Pt)(v:Value)(w:World)(hT:Lib.Utf8Tabs 2 3 w)(hR:∀r∈R,Jas r)(hsl:sl w k p n c (rowZ u R))(hr:opAt w v qs)(hc:chkE qs (by_ u R)=0)(hl:qs.length<=1000)(hz:C1 R<=1000000)(hpl:∀q∈qs,q.put.length<=1000000) :
    Calls Tryz.prog fs #[.slice p n c,v,.func (.func fx) #[] #[]] w fun e w'=>e=.returned (.tuple #[.int .i64 (szV u R qs),errV (szE u R qs)])/\Below w.heap.size w w':=by
 have hu:Jaz u:=by rcases hf with ⟨h,_⟩|⟨h,_⟩|⟨h,_⟩<;>(unfold Jaz;omega)
 obtain⟨hp1,hp2,hp3⟩:=JcC hc;have HU:Hid (Jaz u):=hu;have CG:Hid (∀X:List Nat,(∀r∈X,Jas r)->C1 X<=1000000->∀(p:Option Addr) (n c:Nat) (wx:World),Lib.Utf8Tabs 2 3 wx->sl wx k p n c (rowZ u X)->Calls Tryz.prog fx #[.slice p n c] wx fun e w'=>e=.returned (.tuple #[.string (Ja1 X),.nilIface])/\Below wx.heap.size wx w'):=fun X h1 h2 p n c wx h3 h4=>JpL hf X h1 h2 p n c wx h3 h4;have CB:Hid (∀(R:List Nat) (m:Nat),(∀r∈R,Jas r)->(∀X,(∀r∈X,Jas r)->(rowZ u R).take m≠rowZ u X)->C1 R<=1000000->∀(p:Option Addr) (n c:Nat) (wx:World),Lib.Utf8Tabs 2 3 wx->sl wx k p n c ((rowZ u R).take m)->Calls Tryz.prog fx #[.slice p n c] wx fun e w'=>∃s bx,e=.returned (.tuple #[.string s,atV bx])/\Below wx.heap.size wx w'):=fun R m h1 h2 h3 p n c wx h4 h5=>JrK hf R m h1 h2 h3 p n c wx h4 h5;have HT:Hid (Lib.Utf8Tabs 2 3 w):=hT;have HOP:Hid (opAt w v qs):=hr;have HP1:Hid (∀p∈qs,oneB p=true/\(scan p.put).2=true):=hp1;have HPL:Hid (∀q∈qs,q.put.length<=1000000):=hpl;have HST:Hid (szI w u k R qs 0 (.int .i64 0) (.slice p n c) w):=JpT hz hsl hR hp2;obtain⟨pq,cq,rfl,r1,r2,r3⟩:=hr;unfold maxLen at r2;obtain⟨N,hN⟩:∃N,qs.length=N:=⟨_,rfl⟩;rw[hN]at r1 hl ⊢;have HN:Hid (qs.length=N):=hN;have hN0:(N:Int)<=1000:=by omega
 clear hT hR hsl hc hp1 hp2 hp3 r3 hz hpl hu hN;have HFS:fs=159/\fx=94\/fs=160/\fx=97\/fs=167/\fx=101:=hf.imp (fun h=>h.2.2) (Or.imp (fun h=>h.2.2) (fun h=>h.2.2));clear hf
 rcases HFS with ⟨rfl,rfl⟩|⟨rfl,rfl⟩|⟨rfl,rfl⟩
 all_goals as_aux_lemma =>
  first
   | go_enter Tryz.func159,Tryz.ntmps159
   | go_enter Tryz.func160,Tryz.ntmps160
   | go_enter Tryz.func167,Tryz.ntmps167
  go_wp2
  go_loopw [8,9,18] (fun v8 v9 i wr=>∃x:Nat,i=.int .i64 x/\szI w u k R qs x v8 v9 wr) (fun _ _ i _=>N - (intOf i).toNat)
  case atStart=>exact⟨0,rfl,HST.out⟩
  case round =>
   obtain⟨x,rfl,hst⟩:=hrel;obtain⟨S,p',n',c',R',rfl,rfl,hsl,hR',hlong,hok,hcome,hS0,hS1,hCR,hx,hbw⟩:=hst;clear HST
   by_cases hlt:x<N
   . have hxr : x<qs.length:=by rw[HN.out];exact hlt
     have hne:qs≠[]:=by intro e;rw[e]at hxr;exact absurd hxr (Nat.not_lt_zero _)
     obtain⟨p0,c0,hvv,_,_,hcell⟩:=HOP.out;obtain⟨b0,o,rfl,hb0,hcell⟩:=hcell hne;obtain⟨f0,f1,f2⟩:=hcell x qs[x] (lgg hxr);have g0:=(hbw.cell (p:=⟨b0,o+x*3,none⟩) hb0).trans f0;have g1:=(hbw.cell (p:=⟨b0,o+x*3+1,none⟩) hb0).trans f1;have g2:=(hbw.cell (p:=⟨b0,o+x*3+2,none⟩) hb0).trans f2;obtain rfl:pq=some ⟨b0,o,none⟩:=by injection hvv
     clear hvv hcell f0 f1 f2 hne;have hq:=HP1.out _ (List.getElem_mem hxr);have hputl:=HPL.out _ (List.getElem_mem hxr);have hdk:qs.drop x=qs[x] :: qs.drop (x+1):=List.drop_eq_getElem_cons hxr;have hstep:=JpS HU.out hdk hq (fun y hy=>HP1.out y (List.mem_of_mem_drop hy)) hsl hR' hlong hCR;rw[hdk]at hok hcome;have HOK:Hid (okZ u R qs=okZ u R' (qs[x] :: qs.drop (x+1))):=hok;have HCOME:Hid (okZ u R qs=true->S+C1 (JaL u R' (qs[x] :: qs.drop (x+1)))=C1 (JaL u R qs)):=hcome;have HBW:=hdz hbw;have HX:Hid (x<qs.length):=hxr;have HSL:Hid (sl wr k p' n' c' (rowZ u R')):=hsl;have HR':Hid (∀r∈R',Jas r):=hR';have HCR:Hid (C1 R'<=1000000):=hCR;clear hok hcome hbw hsl hR' hlong hdk;generalize qs[x]=q at *;obtain⟨K,D,U⟩:=q;simp only at g0 g1 g2 hputl;have hK0:0<=K:=hstep.k0;have hD0:0<=D:=hstep.d0;have hKD:K+D<=(n':Int):=hstep.le;obtain⟨hcc,hcm,hnn⟩:=Jtk HSL.out;unfold maxLen at hcm;have HSTEP:Hid (szStep u R' ⟨K,D,U⟩ (qs.drop (x+1)) n'):=hstep;have hUz:(ByteArray.mk U.toArray).size=U.length:=by simp[ByteArray.size]
     obtain⟨M,hM⟩:∃M:Nat,K+D=(M:Int):=⟨(K+D).toNat,by omega⟩;have hMn:M<=n':=by omega
     have HPC:Hid (sl wr k p' M c' ((rowZ u R').take M)):=JpZ HSL.out hMn;have hxlN:(x:Int)<(N:Int):=by omega
     clear hstep hnn hxr
     by_cases he:JaM R' u (K+D)=true
     . obtain ⟨hpX,hX1,hX2,hX3⟩:=JhE HU.out HSTEP.out HR'.out HCR.out he
       have hMt:(K+D).toNat=M:=by omega
       rw[hMt]at hpX;obtain⟨X,hXe⟩:∃X,upTo R' u (K+D)=X:=⟨_,rfl⟩;rw[hXe]at hpX hX1 hX2 hX3;have hbz:(Ja1 X).size=(encs X).length:=by simp[Ja1,ByteArray.size]
       have hXl:((encs X).length:Int)<=1000000:=by have:=Jcf X;omega
       have cT:Hid (∀wx,Below w.heap.size w wx->sl wx k p' M c' ((rowZ u R').take M)->Calls Tryz.prog _ #[.slice p' M c'] wx fun e w'=>e=.returned (.tuple #[.string (Ja1 X),.nilIface])/\Below wx.heap.size wx w'):=fun wx hb hs=>CG.out X hX2 hX1 p' M c' wx (Go.Proofs.Utf8Tabs_below HT.out hb) (by rw[←hpX];exact hs);have HX3:=hdz hX3;have hS3:S<=2000000*(x:Int):=hS1;have hxx:(x:Int)<1000:=by omega
       generalize Ja1 X=bX at *;clear hX1 hX2 hX3 hpX hXe he hM hS1
       by_cases hK:0<K
       . go_wp2_with (first
           | ((first|go_at_call 94|go_at_call 97|go_at_call 101);refine(cT.out _ (by exact HBW.out.alloc HBW.out.size _) (by exact Je9 HPC.out ((brf wr.heap.size wr).alloc (nlr _) _) (nlr _))).mono ?_;rintro e w2 ⟨rfl,hb2⟩;have HB2:Hid (Below wr.heap.size wr w2):=((brf wr.heap.size wr).alloc (nlr _) _).trans (hb2.mono (by simp));have hz2:wr.heap.size+1<=w2.heap.size:=by have:=hb2.size;simpa using this
              have x0:w2.cell? ⟨wr.heap.size,0,none⟩=some (.int .i64 K):=(hb2.cell (p:=⟨wr.heap.size,0,none⟩) (by simp)).trans (by simp);have x1:w2.cell? ⟨wr.heap.size,1,none⟩=some (.int .i64 D):=(hb2.cell (p:=⟨wr.heap.size,1,none⟩) (by simp)).trans (by simp)
              have x2:w2.cell? ⟨wr.heap.size,2,none⟩=some (.string ⟨U.toArray⟩):=(hb2.cell (p:=⟨wr.heap.size,2,none⟩) (by simp)).trans (by simp);clear hb2))
         refine⟨⟨x+1,by go_num,?_⟩,by simp[intOf];omega⟩;obtain⟨y1,y2,y3,y4,y5,y6⟩:=HX3.out;have hs2:=Je9 (Jqa HSL.out hMn) HB2.out (nlr _);have hy1:(rowZ u R').drop M=rowZ u (Jbq u R' (K+D)):=by rw[←hMt];exact y1
         rw[hy1]at hs2;exact Jn4 (A:=((encs X).length:Int)) HX.out HOK.out HCOME.out ⟨y2,y3,y4,y5,by rw[y6,if_pos hK,Jcf]⟩ hs2 hS0 hS3 (by omega) (by omega) hputl (HBW.out.trans (HB2.out.mono HBW.out.size))
       . go_wp2_with (first
           | ((first|go_at_call 94|go_at_call 97|go_at_call 101);refine(cT.out _ (by exact HBW.out.alloc HBW.out.size _) (by exact Je9 HPC.out ((brf wr.heap.size wr).alloc (nlr _) _) (nlr _))).mono ?_;rintro e w2 ⟨rfl,hb2⟩;have HB2:Hid (Below wr.heap.size wr w2):=((brf wr.heap.size wr).alloc (nlr _) _).trans (hb2.mono (by simp));have hz2:wr.heap.size+1<=w2.heap.size:=by have:=hb2.size;simpa using this
              have x0:w2.cell? ⟨wr.heap.size,0,none⟩=some (.int .i64 K):=(hb2.cell (p:=⟨wr.heap.size,0,none⟩) (by simp)).trans (by simp);have x1:w2.cell? ⟨wr.heap.size,1,none⟩=some (.int .i64 D):=(hb2.cell (p:=⟨wr.heap.size,1,none⟩) (by simp)).trans (by simp)
              have x2:w2.cell? ⟨wr.heap.size,2,none⟩=some (.string ⟨U.toArray⟩):=(hb2.cell (p:=⟨wr.heap.size,2,none⟩) (by simp)).trans (by simp);clear hb2))
         refine⟨⟨x+1,by go_num,?_⟩,by simp[intOf];omega⟩;obtain⟨y1,y2,y3,y4,y5,y6⟩:=HX3.out;have hs2:=Je9 (Jqa HSL.out hMn) HB2.out (nlr _);have hy1:(rowZ u R').drop M=rowZ u (Jbq u R' (K+D)):=by rw[←hMt];exact y1
         rw[hy1]at hs2;have hfin:=Jn4 (A:=0) HX.out HOK.out HCOME.out ⟨y2,y3,y4,y5,by rw[y6,if_neg (by omega)]⟩ hs2 hS0 hS3 (by omega) (by omega) hputl (HBW.out.trans (HB2.out.mono HBW.out.size));rw[Int.add_zero]at hfin;exact hfin
     . have he:JaM R' u (K+D)=false:=by simpa using he
       have hbad:=Jow HU.out HSTEP.out HR'.out he;have hMt:(K+D).toNat=M:=by omega
       rw[hMt]at hbad;have HV:Hid (szV u R qs=0/\szE u R qs=10):=sz_bad (by rw[HOK.out];unfold okZ;rw[show lenP ⟨K,D,U⟩=K+D from rfl,he];rfl);have cT:Hid (∀wx,Below w.heap.size w wx->sl wx k p' M c' ((rowZ u R').take M)->Calls Tryz.prog _ #[.slice p' M c'] wx fun e w'=>∃s bx,e=.returned (.tuple #[.string s,atV bx])/\Below wx.heap.size wx w'):=fun wx hb hs=>CB.out R' M HR'.out hbad HCR.out p' M c' wx (Go.Proofs.Utf8Tabs_below HT.out hb) hs;unfold atV at cT;clear hbad he hM
       go_wp2_with ((first|go_at_call 94|go_at_call 97|go_at_call 101);refine(cT.out _ (by exact HBW.out.alloc HBW.out.size _) (by exact Je9 HPC.out ((brf wr.heap.size wr).alloc (nlr _) _) (nlr _))).mono ?_;rintro e w2 ⟨s2,bx,rfl,hb2⟩;have HB2:Hid (Below wr.heap.size wr w2):=((brf wr.heap.size wr).alloc (nlr _) _).trans (hb2.mono (by simp));clear hb2)
       go_ret2
       refine⟨?_,HBW.out.trans (HB2.out.mono HBW.out.size)⟩;rw[HV.out.1,HV.out.2];rfl
   . obtain rfl:x=N:=by have:=HN.out;omega
     have hxlN:¬((x:Int)<(x:Int)):=by omega
     have HV:Hid (szV u R qs=S/\szE u R qs=0):=by
      rw[←HN.out,List.drop_length]at hok hcome;exact sz_good hok hcome
     have HBW:=hdz hbw;clear hok hcome hsl hR' hlong hbw;go_wp2
     go_ret2
     refine⟨?_,HBW.out⟩;rw[HV.out.1,HV.out.2];rfl
end
section
open Go.RowKit
variable {u : Int}
def plE (u:Int) (R:List Nat) (qs:List Pt):Int:=if okZ u R qs then (if C1 (JaL u R qs)<=8000 then 0 else 12) else 10
theorem JeZ:errV 0=.nilIface:=rfl
theorem errV_10:errV 10=.iface 26 (.int .i64 10):=rfl
theorem pl_no{R:List Nat}{qs:List Pt}(h:plE u R qs≠0):(szV u R qs=0/\szE u R qs=10/\plE u R qs=10)\/(szV u R qs=C1 (JaL u R qs)/\szE u R qs=0/\plE u R qs=12/\8000<C1 (JaL u R qs)):=by
 unfold plE at h;unfold szV szE plE
 split at h
 . split at h
   . exact absurd rfl h
   . rename_i h1 h2
     right
     rw[h1,if_pos rfl,if_pos rfl,if_pos rfl,if_neg h2];exact⟨rfl,rfl,rfl,by omega⟩
 . rename_i h1
   left
   rw[if_neg h1,if_neg h1,if_neg h1];exact⟨rfl,rfl,rfl⟩
theorem Jji{w w':World}{b:Nat}{o:Obj}{v:Value}{N n e:Nat}{xs:List Value}(h:w.heap[b]?=some o)(hr:w.ownsRow N e 1 v n xs)(hg:w.grownBy w' v.ownBlock)(ho:∀c fz,o≠.cells c e fz):w'.heap[b]?=some o:=by
 refine(hg.block b (alt h) ?_).trans h;intro e
 rcases hr.2 with ⟨hx,_⟩|⟨g,cap,cur,rfl,_,hgg,_⟩
 . rw[hx]at e;cases e
 . have e2:some b=some g:=e
   obtain rfl:=osi e2;rw[h]at hgg;exact ho _ _ (osi hgg)
def plI (w:World) (e:TypeId) (u:Int) (k:IntKind) (R:List Nat) (qs:List Pt) (x:Nat) (v11 v12:Value) (wr:World):Prop :=
 ∃ (L:List Nat) (p:Option Addr) (n c:Nat) (R':List Nat),wr.ownsRow w.heap.size e 1 v11 (rowZ u L).length ((rowZ u L).map (Value.int k))/\v12=.slice p n c/\sl w k p n c (rowZ u R')/\(∀r∈R',Jas r)/\Jag (qs.drop x)=by_ u R' /\
  okZ u R' (qs.drop x)=true/\JaL u R qs=L++JaL u R' (qs.drop x)/\C1 R'<=1000000/\x<=qs.length/\Below w.heap.size w wr/\w.heap.size<=wr.heap.size
theorem Jqr{w w1:World}{e:TypeId}{u:Int}{k:IntKind}{R:List Nat}{qs:List Pt}{p:Option Addr}{n c:Nat}(hz:C1 R<=1000000)(hsl:sl w k p n c (rowZ u R))(hR:∀r∈R,Jas r)(hl:Jag qs=by_ u R)(hok:okZ u R qs=true)(hb:Below w.heap.size w w1):plI w e u k R qs 0 (.slice none 0 0) (.slice p n c) w1 :=
 ⟨[],p,n,c,R,by rw[JcF];exact World.ownsRow_nil _ _ _ _,rfl,hsl,hR,hl,hok,rfl,hz,Nat.zero_le _,hb,hb.size⟩
theorem pl_kept{R':List Nat}{Kn M:Nat}{D:Int}{U:List UInt8}{Y:List Nat}(h:oneB ⟨(Kn:Int),D,U⟩=true)(hM:(Kn:Int)+D=(M:Int))(hY:(if 0<(Kn:Int) then upTo R' u ((Kn:Int)+D) else [])=Y)(hp:(rowZ u R').take M=rowZ u (upTo R' u ((Kn:Int)+D))):(rowZ u R').take Kn=rowZ u Y:=by
 rcases JcV h with ⟨h1,h2,h3⟩|⟨h1,h2,h3⟩|⟨h1,h2,h3⟩
 . have h1:0<(Kn:Int):=h1
   have h2:D=0:=h2;rw[if_pos h1]at hY;have:Kn=M:=by omega
   rw[this,hp,hY]
 . have h1:(Kn:Int)=0:=h1
   rw[if_neg (by omega)]at hY;have:Kn=0:=by omega
   rw[this,←hY,JcF];rfl
 . have h1:(Kn:Int)=0:=h1
   rw[if_neg (by omega)]at hY;have:Kn=0:=by omega
   rw[this,←hY,JcF];rfl
theorem Jjz(hu:Jaz u)(rs:List Nat):by_ u rs<=2*C1 rs:=by
 have h1:=JdY rs;have h2:=Jmm rs;have h3:C3 rs<=C1 rs:=by
  have:=JeN rs;rw[Jcf];unfold C3;omega
 unfold by_
 rcases hu with rfl|rfl|rfl
 . rw[if_pos rfl];omega
 . rw[if_neg (by decide),if_pos rfl];omega
 . rw[if_neg (by decide),if_neg (by decide),if_pos rfl];omega
theorem pl_lens(hu:Jaz u){R L Y V T:List Nat}{qs:List Pt}(h:C1 (JaL u R qs)<=8000)(e:JaL u R qs=(L++Y++V)++T):(rowZ u L).length<=16000/\(rowZ u Y).length<=16000/\(rowZ u V).length<=16000:=by
 rw[e,Jcg,Jcg,Jcg]at h;have h1:=JdY L;have h2:=JdY Y;have h3:=JdY V;have h4:=JdY T;have k1:=Jjz hu L;have k2:=Jjz hu Y;have k3:=Jjz hu V;have l1:=JcG hu L;have l2:=JcG hu Y;have l3:=JcG hu V;omega
end
section
open Go.RowKit
attribute [local go_sem] Oper.semAt_some
def Jkh (u:Int) (k:IntKind) (o:Nat) (e l:TypeId) (z:Nat) (fs fx fp fy:FuncId):Prop:=(JmW u k fs fx/\u=1/\k=.u8/\o=1/\e=5/\l=158/\z=1/\fs=159/\fx=94/\fp=93/\fy=95)\/(JmW u k fs fx/\u=2/\k=.u16/\o=2/\e=167/\l=144/\z=2/\fs=160/\fx=97/\fp=96/\fy=98)\/(JmW u k fs fx/\u=3/\k=.i32/\o=3/\e=21/\l=141/\z=4/\fs=167/\fx=101/\fp=100/\fy=102)
theorem Jtr{u:Int}{k:IntKind}{o:Nat}{e l:TypeId}{z:Nat}{fs fx fp fy:FuncId}(hf:Jkh u k o e l z fs fx fp fy):JmW u k fs fx:=by
 rcases hf with ⟨h,_⟩|⟨h,_⟩|⟨h,_⟩<;>exact h
theorem JqT{u:Int}{k:IntKind}{o:Nat}{e l:TypeId}{z:Nat}{fs fx fp fy:FuncId}(hf:Jkh u k o e l z fs fx fp fy):(e=5/\l=158/\z=1/\fs=159/\fx=94/\fp=93/\fy=95)\/(e=167/\l=144/\z=2/\fs=160/\fx=97/\fp=96/\fy=98)\/(e=21/\l=141/\z=4/\fs=167/\fx=101/\fp=100/\fy=102):=by
 rcases hf with ⟨_,_,_,_,h⟩|⟨_,_,_,_,h⟩|⟨_,_,_,_,h⟩
 . exact .inl h
 . exact .inr (.inl h)
 . exact .inr (.inr h)
theorem JqS{u:Int}{k:IntKind}{o:Nat}{e l:TypeId}{z:Nat}{fs fx fp fy:FuncId}(hf:Jkh u k o e l z fs fx fp fy):(Tryz.prog.info? e).map (fun i=>(i.zero,i.size,i.bytes))=some (some (.int k 0),1,z):=by
 rcases hf with ⟨_,rfl,rfl,rfl,rfl,rfl,rfl,_⟩|⟨_,rfl,rfl,rfl,rfl,rfl,rfl,_⟩|⟨_,rfl,rfl,rfl,rfl,rfl,rfl,_⟩<;>kernel_rfl
theorem Js2{u:Int}{k:IntKind}{o:Nat}{e l:TypeId}{z:Nat}{fs fx fp fy:FuncId}(hf:Jkh u k o e l z fs fx fp fy)(U:List UInt8)(hU:(scan U).2=true)(hl:U.length<=1000000)(wx:World)(hT:Lib.Utf8Tabs 2 3 wx) :
    Calls Tryz.prog fy #[.string ⟨U.toArray⟩] wx fun e w'=>∃p n c,e=.returned (.slice p n c)/\sl w' k p n c (rowZ u (Jam U))/\Below wx.heap.size wx w':=by
 rcases hf with ⟨_,rfl,rfl,rfl,rfl,rfl,rfl,_,_,_,rfl⟩|⟨_,rfl,rfl,rfl,rfl,rfl,rfl,_,_,_,rfl⟩|⟨_,rfl,rfl,rfl,rfl,rfl,rfl,_,_,_,rfl⟩
 . exact JrW U hU hl wx
 . exact JrV U hU hl wx hT
 . exact JrU U hU hl wx hT
theorem Jtu:Jkh 1 .u8 1 5 158 1 159 94 93 95:=.inl ⟨.inl ⟨rfl,rfl,rfl,rfl⟩,rfl,rfl,rfl,rfl,rfl,rfl,rfl,rfl,rfl,rfl⟩
theorem Jtt:Jkh 2 .u16 2 167 144 2 160 97 96 98:=.inr (.inl ⟨.inr (.inl ⟨rfl,rfl,rfl,rfl⟩),rfl,rfl,rfl,rfl,rfl,rfl,rfl,rfl,rfl,rfl⟩)
theorem Jts:Jkh 3 .i32 3 21 141 4 167 101 100 102:=.inr (.inr ⟨.inr (.inr ⟨rfl,rfl,rfl,rfl⟩),rfl,rfl,rfl,rfl,rfl,rfl,rfl,rfl,rfl,rfl⟩)
theorem JjV{u:Int}{k:IntKind}{o:Nat}{e l:TypeId}{z:Nat}{fs fx fp fy:FuncId}(hf:Jkh u k o e l z fs fx fp fy)(b:Nat)(p:Option Addr)(n c:Nat)(R:List Nat)(qs:List Pt)(v:Value)(w:World)(hT:Lib.Utf8Tabs 2 3 w)(hR:∀r∈R,Jas r)(hcell:w.cell? ⟨b,o,none⟩=some (.slice p n c))(hsl:sl w k p n c (rowZ u R))(hr:opAt w v qs)(hc:chkE qs (by_ u R)=0)(hl:qs.length<=1000)(hz:C1 R<=1000000)(hpl:∀q∈qs,q.put.length<=1000000)(hno:plE u R qs≠0) :
    Calls Tryz.prog fp #[.pointer (some ⟨b,o,none⟩),v,.func (.func fx) #[] #[],.func (.func fy) #[] #[]] w fun e w'=>e=.returned (errV (plE u R qs))/\Below w.heap.size w w':=by
 have HFS:=JqT hf;have cS:Hid _:=Jn6 (Jtr hf) p n c R qs v w hT hR hsl hr hc hl hz hpl;obtain⟨hop,cop,rfl,_⟩:=hr
 rcases pl_no hno with ⟨e1,e2,e3⟩|⟨e1,e2,e3,e4⟩
 . rw [e1,e2]at cS
   rw[e3];clear hT hR hsl hc hl hz hpl hno e1 e2 e3 hf
   rcases HFS with ⟨rfl,rfl,rfl,rfl,rfl,rfl,rfl⟩|⟨rfl,rfl,rfl,rfl,rfl,rfl,rfl⟩|⟨rfl,rfl,rfl,rfl,rfl,rfl,rfl⟩
   all_goals as_aux_lemma =>
    first
     | go_enter Tryz.func93,Tryz.ntmps93
     | go_enter Tryz.func96,Tryz.ntmps96
     | go_enter Tryz.func100,Tryz.ntmps100
    go_wp2_with ((first|go_at_call 159|go_at_call 160|go_at_call 167);refine Calls.mono cS.out ?_;rw[errV_10];rintro e w1 ⟨rfl,hb1⟩)
    go_ret;exact⟨rfl,hb1⟩
 . rw [e1,e2]at cS
   rw[e3];generalize C1 (JaL u R qs)=Z at cS e4;clear hT hR hsl hc hl hz hpl hno e1 e2 e3 hf
   rcases HFS with ⟨rfl,rfl,rfl,rfl,rfl,rfl,rfl⟩|⟨rfl,rfl,rfl,rfl,rfl,rfl,rfl⟩|⟨rfl,rfl,rfl,rfl,rfl,rfl,rfl⟩
   all_goals as_aux_lemma =>
    first
     | go_enter Tryz.func93,Tryz.ntmps93
     | go_enter Tryz.func96,Tryz.ntmps96
     | go_enter Tryz.func100,Tryz.ntmps100
    go_wp2_with ((first|go_at_call 159|go_at_call 160|go_at_call 167);refine Calls.mono cS.out ?_;rw[JeZ];rintro e w1 ⟨rfl,hb1⟩)
    go_ret;exact⟨rfl,hb1⟩
theorem JhS{u:Int}{k:IntKind}{o:Nat}{e l:TypeId}{z:Nat}{fs fx fp fy:FuncId}(hf:Jkh u k o e l z fs fx fp fy)(b:Nat)(p:Option Addr)(n c:Nat)(R:List Nat)(qs:List Pt)(v:Value)(w:World)(hT:Lib.Utf8Tabs 2 3 w)(hR:∀r∈R,Jas r)(hcell:w.cell? ⟨b,o,none⟩=some (.slice p n c))(hfz:w.frozen? ⟨b,o,none⟩=false)(hsl:sl w k p n c (rowZ u R))(hr:opAt w v qs)(hc:chkE qs (by_ u R)=0)(hl:qs.length<=1000)(hz:C1 R<=1000000)(hpl:∀q∈qs,q.put.length<=1000000)(hok:okZ u R qs=true)(hsm:C1 (JaL u R qs)<=8000) :
    Calls Tryz.prog fp #[.pointer (some ⟨b,o,none⟩),v,.func (.func fx) #[] #[],.func (.func fy) #[] #[]] w fun e w'=>e=.returned .nilIface/\∃W p' n' c',Below w.heap.size w W/\w'=W.setCell ⟨b,o,none⟩ (.slice p' n' c')/\sl W k p' n' c' (rowZ u (JaL u R qs))/\∀a,p'=some a->w.heap.size<=a.block:=by
 have hu:Jaz u:=by rcases hf with ⟨_,h,_⟩|⟨_,h,_⟩|⟨_,h,_⟩<;>(unfold Jaz;omega)
 obtain⟨hp1,hp2,hp3⟩:=JcC hc;have cS:Hid (Calls Tryz.prog fs #[.slice p n c,v,.func (.func fx) #[] #[]] w fun e w'=>e=.returned (.tuple #[.int .i64 (C1 (JaL u R qs)),.nilIface])/\Below w.heap.size w w'):=by
  have:=Jn6 (Jtr hf) p n c R qs v w hT hR hsl hr hc hl hz hpl;unfold szV szE at this;rw[hok,if_pos rfl,if_pos rfl,JeZ]at this;exact this
 have hbw0:=blt w _ hcell;have hbw0:b<w.heap.size:=hbw0;have HU:Hid (Jaz u):=hu;have CPUT:Hid (∀U:List UInt8,(scan U).2=true->U.length<=1000000->∀wx:World,Lib.Utf8Tabs 2 3 wx->Calls Tryz.prog fy #[.string ⟨U.toArray⟩] wx fun e w'=>∃p n c,e=.returned (.slice p n c)/\sl w' k p n c (rowZ u (Jam U))/\Below wx.heap.size wx w'):=fun U h1 h2 wx h3=>Js2 hf U h1 h2 wx h3;have HT:Hid (Lib.Utf8Tabs 2 3 w):=hT;have HOP:Hid (opAt w v qs):=hr;have HP1:Hid (∀p∈qs,oneB p=true/\(scan p.put).2=true):=hp1;have HPL:Hid (∀q∈qs,q.put.length<=1000000):=hpl;have HCE:Hid (w.cell? ⟨b,o,none⟩=some (.slice p n c)):=hcell;have HFZ:Hid (w.frozen? ⟨b,o,none⟩=false):=hfz;have HST:Hid (∀w1,Below w.heap.size w w1->plI w e u k R qs 0 (.slice none 0 0) (.slice p n c) w1):=fun w1 hb=>Jqr hz hsl hR hp2 hok hb;have hC0:=JdY (JaL u R qs);have HSM:Hid (C1 (JaL u R qs)<=8000):=hsm;obtain⟨Z,hZ⟩:∃Z,C1 (JaL u R qs)=Z:=⟨_,rfl⟩;rw[hZ]at cS hsm hC0;obtain⟨pq,cq,rfl,r1,r2,r3⟩:=hr;unfold maxLen at r2;obtain⟨N,hN⟩:∃N,qs.length=N:=⟨_,rfl⟩;rw[hN]at r1 hl cS ⊢;have HN:Hid (qs.length=N):=hN;have hN0:(N:Int)<=1000:=by omega
 obtain⟨i0,hi,hz0,hz1,hz2⟩:=info_parts (JqS hf);clear hT hR hsl hc hp1 hp2 hp3 r3 hz hpl hu hN hok hZ hfz;have HFS:=JqT hf;clear hf
 rcases HFS with ⟨rfl,rfl,rfl,rfl,rfl,rfl,rfl⟩|⟨rfl,rfl,rfl,rfl,rfl,rfl,rfl⟩|⟨rfl,rfl,rfl,rfl,rfl,rfl,rfl⟩
 all_goals as_aux_lemma =>
  first
   | go_enter Tryz.func93,Tryz.ntmps93
   | go_enter Tryz.func96,Tryz.ntmps96
   | go_enter Tryz.func100,Tryz.ntmps100
  go_wp2_with ((first|go_at_call 159|go_at_call 160|go_at_call 167);refine Calls.mono cS.out ?_;rintro e w1 ⟨rfl,hb1⟩;have HB1:=hdz hb1;have hc1:w1.cell? ⟨b,o,none⟩=some (.slice p n c):=(hb1.cell (p:=⟨b,o,none⟩) hbw0).trans HCE.out;clear hb1 hcell)
  have HI:Hid (plI w _ u k R qs 0 (.slice none 0 0) (.slice p n c) w1):=HST.out w1 HB1.out;clear hc1 HST cS HB1 hsm hC0
  go_loopw [11,12,35] (fun v11 v12 i wr=>∃x:Nat,i=.int .i64 x/\plI w _ u k R qs x v11 v12 wr) (fun _ _ i _=>N - (intOf i).toNat)
  case atStart=>exact⟨0,rfl,HI.out⟩
  case round =>
   obtain⟨x,rfl,hst⟩:=hrel;obtain⟨L,p',n',c',R',hown,rfl,hsl,hR',hlong,hok,hcome,hCR,hx,hbw,hsz⟩:=hst;obtain⟨p11,c11,rfl⟩:=Jae hown;clear HI
   by_cases hlt:x<N
   . have hxr:x<qs.length:=by rw[HN.out];exact hlt
     have hne:qs≠[]:=by intro e;rw[e]at hxr;exact absurd hxr (Nat.not_lt_zero _)
     obtain⟨p0,c0,hvv,_,_,hcell⟩:=HOP.out;obtain⟨b0,o,rfl,hb0,hcell⟩:=hcell hne;obtain⟨f0,f1,f2⟩:=hcell x qs[x] (lgg hxr);have g0:=(hbw.cell (p:=⟨b0,o+x*3,none⟩) hb0).trans f0;have g1:=(hbw.cell (p:=⟨b0,o+x*3+1,none⟩) hb0).trans f1;have g2:=(hbw.cell (p:=⟨b0,o+x*3+2,none⟩) hb0).trans f2;obtain rfl:pq=some ⟨b0,o,none⟩:=by injection hvv
     clear hvv hcell f0 f1 f2 hne;have hq:=HP1.out _ (List.getElem_mem hxr);have hputl:=HPL.out _ (List.getElem_mem hxr);have hdk:qs.drop x=qs[x] :: qs.drop (x+1):=List.drop_eq_getElem_cons hxr;have hstep:=JpS HU.out hdk hq (fun y hy=>HP1.out y (List.mem_of_mem_drop hy)) hsl hR' hlong hCR;rw[hdk]at hok hcome;have HOK:Hid (okZ u R' (qs[x] :: qs.drop (x+1))=true):=hok;have HCOME:Hid (JaL u R qs=L++JaL u R' (qs[x] :: qs.drop (x+1))):=hcome;have HBW:=hdz hbw;have HSZ:Hid (w.heap.size<=wr.heap.size):=hsz;have HX:Hid (x<qs.length):=hxr;have HSL:Hid (sl w k p' n' c' (rowZ u R')):=hsl;have HR':Hid (∀r∈R',Jas r):=hR';have HCR:Hid (C1 R'<=1000000):=hCR;have HOWN:Hid (wr.ownsRow w.heap.size _ 1 (.slice p11 (rowZ u L).length c11) (rowZ u L).length ((rowZ u L).map (Value.int k))):=hown;clear hok hcome hbw hsl hR' hlong hdk hown hsz;generalize qs[x]=q at *;obtain⟨K,D,U⟩:=q;simp only at g0 g1 g2 hputl;have hK0:0<=K:=hstep.k0;have hD0:0<=D:=hstep.d0;have hKD:K+D<=(n':Int):=hstep.le;obtain⟨hcc,hcm,hnn⟩:=Jtk HSL.out;unfold maxLen at hcm;have hUz:(ByteArray.mk U.toArray).size=U.length:=by simp[ByteArray.size]
     obtain⟨M,hM⟩:∃M:Nat,K+D=(M:Int):=⟨(K+D).toNat,by omega⟩;obtain⟨Kn,rfl⟩:∃Kn:Nat,K=(Kn:Int):=⟨K.toNat,by omega⟩;have hMn:M<=n':=by omega
     have hKn:Kn<=n':=by omega
     have he:JaM R' u ((Kn:Int)+D)=true:=by
      have:=HOK.out;unfold okZ at this;rw[Bool.and_eq_true]at this;exact this.1
     have hsg:=JhE HU.out hstep HR'.out HCR.out he;obtain⟨hpX,hX1,hX2,hX3,hX4,hX5,hX6,hX7,_⟩:=hsg;have hMt:((Kn:Int)+D).toNat=M:=by omega
     rw[hMt]at hpX hX3;obtain⟨Y,hY⟩:∃Y,(if 0<(Kn:Int) then upTo R' u ((Kn:Int)+D) else [])=Y:=⟨_,rfl⟩;have hrowY:(rowZ u R').take Kn=rowZ u Y:=pl_kept hq.1 hM hY hpX;have hcomes:JaL u R qs=(L++Y++Jam U)++JaL u (Jbq u R' ((Kn:Int)+D)) (qs.drop (x+1)):=by
      rw[HCOME.out];show L++(((if 0<(Kn:Int) then upTo R' u ((Kn:Int)+D) else [])++Jam U)++_)=_;rw[hY];simp only[List.append_assoc];rfl
     have hlens:=pl_lens HU.out HSM.out hcomes;have HROW:Hid ((rowZ u L).map (Value.int k)++(rowZ u Y).map (Value.int k)++(rowZ u (Jam U)).map (Value.int k)=(rowZ u (L++Y++Jam U)).map (Value.int k)):=by
      show _=_;rw[JcT,JcT,List.map_append,List.map_append]
     have HLN:Hid ((rowZ u (L++Y++Jam U)).length=(rowZ u L).length+Kn+(rowZ u (Jam U)).length):=by
      show _=_;have:(rowZ u Y).length=Kn:=by rw[←hrowY,List.length_take];omega
      rw[JcT,JcT,List.length_append,List.length_append,this]
     have HPC:Hid (sl w k p' Kn c' (rowZ u Y)):=by
      show sl w k p' Kn c' (rowZ u Y);rw[←hrowY];exact JpZ HSL.out hKn
     have HNEXT:Hid (∀(e:TypeId) (v:Value) (pp:Option Addr) (nn cc:Nat) wn,wn.ownsRow w.heap.size e 1 v ((rowZ u (L++Y++Jam U)).length) ((rowZ u (L++Y++Jam U)).map (Value.int k))->sl w k pp nn cc (rowZ u (Jbq u R' ((Kn:Int)+D)))->Below w.heap.size w wn->plI w e u k R qs (x+1) v (.slice pp nn cc) wn) :=
      fun e v pp nn cc wn h1 h2 h3=>⟨_,pp,nn,cc,_,h1,rfl,h2,hX4,hX5,hX7.symm.trans HOK.out,hcomes,hX6,HX.out,h3,h3.size⟩
     have HX3:Hid ((rowZ u R').drop M=rowZ u (Jbq u R' ((Kn:Int)+D))):=hX3;have cP:Hid (∀wx,Below w.heap.size w wx->Calls Tryz.prog _ #[.string ⟨U.toArray⟩] wx fun e w'=>∃p n c,e=.returned (.slice p n c)/\sl w' k p n c (rowZ u (Jam U))/\Below wx.heap.size wx w'):=fun wx hb=>CPUT.out U hq.2 hputl wx (Go.Proofs.Utf8Tabs_below HT.out hb);obtain⟨hl1,hl2,hl3⟩:=hlens;have hxlN:(x:Int)<(N:Int):=by omega
     have hYl:(rowZ u Y).length=Kn:=by rw[←hrowY,List.length_take];omega
     obtain⟨LL,hLL⟩:∃LL,(rowZ u L).length=LL:=⟨_,rfl⟩;obtain⟨UL,hUL⟩:∃UL,(rowZ u (Jam U)).length=UL:=⟨_,rfl⟩;rw[hLL]at hl1 HOWN HLN ⊢;rw[hYl]at hl2;rw[hUL]at hl3 HLN;have HUL:Hid ((rowZ u (Jam U)).length=UL):=hUL;clear hstep hnn hxr hpX hX1 hX2 hX3 hX4 hX5 hX6 hX7 he hrowY hcomes hY hq hM hLL hUL hYl HOK
     go_wp2_with (at_builtin;refine JeR _ rfl _ _ _ rfl w.heap.size _ i0 (.int k 0) _ (by first | exact Tryz.underlying158 | exact Tryz.underlying144 | exact Tryz.underlying141) hi hz0 hz1 hz2 rfl _ _ _ rfl (HOWN.out.alloc _) k p' Kn c' (rowZ u Y) rfl (Je9 HPC.out (HBW.out.alloc HSZ.out _) (nlr _)) (by unfold maxLen;omega) (by omega) (by have:=HSZ.out;simp;omega) ?_)
     intro v' w2 hown' hg';obtain⟨p12,c12,rfl⟩:=Jae hown';have hbox:w2.heap[wr.heap.size]?=some (.cells #[.int .i64 (Kn:Int),.int .i64 D,.string ⟨U.toArray⟩] 50 (0,0)):=Jji (heap_alloc_new _ _) (HOWN.out.alloc _) hg' (by intro c fz e;cases e);have x0:=ce hbox 0 rfl;have x1:=ce hbox 1 rfl;have x2:=ce hbox 2 rfl;have HBOX:Hid (w2.heap[wr.heap.size]?=some (.cells #[.int .i64 (Kn:Int),.int .i64 D,.string ⟨U.toArray⟩] 50 (0,0))):=hbox;have HO2:Hid (w2.ownsRow w.heap.size _ 1 (.slice p12 (LL+Kn) c12) (LL+Kn) ((rowZ u L).map (Value.int k)++(rowZ u Y).map (Value.int k))):=hown';have HBW2:Hid (Below w.heap.size w w2):=(HBW.out.alloc HSZ.out _).grown hg' (by rw[wsa];have:=HSZ.out;omega) fun k hk=>(HOWN.out.lt k hk).1;have hsz2:wr.heap.size+1<=w2.heap.size:=by have:=hg'.size;rwa[World.size_alloc]at this
     have HSZ2:Hid (wr.heap.size+1<=w2.heap.size):=hsz2;clear hbox hown' hg' HOWN HPC HBW g0 g1 g2
     go_wp2_with (first
      | ((first|go_at_call 95|go_at_call 98|go_at_call 102);refine(cP.out _ HBW2.out).mono ?_;rintro e w3 ⟨pz,nz,cz,rfl,hs3,hb3⟩;have HS3:Hid (sl w3 k pz nz cz (rowZ u (Jam U))):=hs3;have hnz:nz=UL:=by rw[hs3.1];exact HUL.out
         have HO3:Hid (w3.ownsRow w.heap.size _ 1 (.slice p12 (LL+Kn) c12) (LL+Kn) ((rowZ u L).map (Value.int k)++(rowZ u Y).map (Value.int k))):=JaR HO2.out hb3;have HBW3:Hid (Below w.heap.size w w3):=HBW2.out.trans (hb3.mono HBW2.out.size);have hbox:w3.heap[wr.heap.size]?=some (.cells #[.int .i64 (Kn:Int),.int .i64 D,.string ⟨U.toArray⟩] 50 (0,0)):=(hb3.block wr.heap.size (by have:=HSZ2.out;omega)).trans HBOX.out;have HBOX3:Hid (w3.heap[wr.heap.size]?=some (.cells #[.int .i64 (Kn:Int),.int .i64 D,.string ⟨U.toArray⟩] 50 (0,0))):=hbox;subst hnz
         clear hs3 hb3 hbox x0 x1 x2)
      | (at_builtin;refine JeR _ rfl _ _ _ rfl w.heap.size _ i0 (.int k 0) _ (by first | exact Tryz.underlying158 | exact Tryz.underlying144 | exact Tryz.underlying141) hi hz0 hz1 hz2 rfl _ _ _ rfl HO3.out k pz nz cz (rowZ u (Jam U)) rfl HS3.out (by unfold maxLen;omega) (by omega) HBW3.out.size ?_))
     intro v' w4 hown' hg';obtain⟨p14,c14,rfl⟩:=Jae hown';have hbox:w4.heap[wr.heap.size]?=some (.cells #[.int .i64 (Kn:Int),.int .i64 D,.string ⟨U.toArray⟩] 50 (0,0)):=Jji HBOX3.out HO3.out hg' (by intro c fz e;cases e);have x0:=ce hbox 0 rfl;have x1:=ce hbox 1 rfl;rw[←List.append_assoc]at hown';have HO4:Hid (w4.ownsRow w.heap.size _ 1 (.slice p14 (LL+Kn+nz) c14) (LL+Kn+nz) ((rowZ u L).map (Value.int k)++(rowZ u Y).map (Value.int k)++(rowZ u (Jam U)).map (Value.int k))):=hown';have HBW4:Hid (Below w.heap.size w w4):=HBW3.out.grown hg' HBW3.out.size fun k hk=>(HO3.out.lt k hk).1;clear hbox hown' hg' HO3 HS3 HBW3 HBOX3 HBOX;go_wp2;refine⟨⟨x+1,by go_num,?_⟩,by simp[intOf];omega⟩;have hs5:=Jqa HSL.out hMn;rw[HX3.out]at hs5;refine HNEXT.out _ _ _ _ _ _ ?_ hs5 HBW4.out;have ho4:=HO4.out;rw[HROW.out,←HLN.out]at ho4;rw[←HLN.out];exact ho4
   . obtain rfl:x=N:=by have:=HN.out;omega
     have hxlN:¬((x:Int)<(x:Int)):=by omega
     rw[←HN.out,List.drop_length]at hcome;have HE:Hid (JaL u R qs=L):=by show _=_;rw[hcome];exact List.append_nil _
     have HBW:=hdz hbw;have HOWN:Hid (wr.ownsRow w.heap.size _ 1 (.slice p11 (rowZ u L).length c11) (rowZ u L).length ((rowZ u L).map (Value.int k))):=hown;have hc2:wr.cell? ⟨b,o,none⟩=some (.slice p n c):=(hbw.cell (p:=⟨b,o,none⟩) hbw0).trans HCE.out;have hf2:wr.frozen? ⟨b,o,none⟩=false:=(hbw.frozen (p:=⟨b,o,none⟩) hbw0).trans HFZ.out;clear hok hcome hsl hR' hlong hbw hown hsz hlt;go_wp2;go_ret;obtain⟨p2,c2,e2,s2⟩:=JpY rfl HOWN.out;injection e2 with e2 e3 e4;subst e2 e4;refine⟨rfl,?_⟩;exact⟨wr,HBW.out,p11,_,c11,rfl,by rw[HE.out];exact s2,fun a ha=>(HOWN.out.lt a.block (by rw[ha];rfl)).1⟩
variable {w : World}{b u : Nat}{rs : List Nat}
def kindU (u:Nat):IntKind:=if u=1 then .u8 else if u=2 then .u16 else .i32
def Jbr (w:World) (b u:Nat) (rs:List Nat):Prop :=
 w.cell? ⟨b,0,none⟩=some (.int .i64 (u:Int))/\w.frozen? ⟨b,u,none⟩=false/\∃p n c,w.cell? ⟨b,u,none⟩=some (.slice p n c)/\sl w (kindU u) p n c (rowZ (u:Int) rs)/\∀a,p=some a->a.block≠b
def unitN (u:Nat):Prop:=u=1\/u=2\/u=3
theorem Jfw(h:Jbr w b u rs):b<w.heap.size:=blt w _ h.1
theorem JaQ{w':World}(h:Jbr w b u rs)(hb:Below w.heap.size w w'):Jbr w' b u rs:=by
 have hl:=Jfw h;obtain⟨h1,h2,p,n,c,h3,h4,h5⟩:=h;exact⟨(hb.cell (p:=⟨b,0,none⟩) hl).trans h1,(hb.frozen (p:=⟨b,u,none⟩) hl).trans h2,p,n,c,(hb.cell (p:=⟨b,u,none⟩) hl).trans h3,JrQ h4 hb,h5⟩
theorem Jcs(b u:Nat)(rs:List Nat)(w:World)(h:Jbr w b u rs):Calls Tryz.prog 35 #[.pointer (some ⟨b,0,none⟩)] w fun e w'=>e=.returned (.int .i64 (u:Int))/\w'=w:=by
 obtain⟨h1,_⟩:=h
 go_enter Tryz.func35,Tryz.ntmps35
 go_wp2;go_ret;exact⟨rfl,rfl⟩
def shE (u:Int) (R:List Nat) (qs:List Pt):Int:=if chkE qs (by_ u R)=0 then plE u R qs else chkE qs (by_ u R)
def shR (u:Int) (R:List Nat) (qs:List Pt):List Nat:=if shE u R qs=0 then JaL u R qs else R
theorem JfJ{W:World}{p p0:Option Addr}{n c n0 c0:Nat}(h0:W.cell? ⟨b,0,none⟩=some (.int .i64 (u:Int)))(h1:W.cell? ⟨b,u,none⟩=some (.slice p0 n0 c0))(hf:W.frozen? ⟨b,u,none⟩=false)(hs:sl W (kindU u) p n c (rowZ (u:Int) rs))(hne:∀a,p=some a->a.block≠b):Jbr (W.setCell ⟨b,u,none⟩ (.slice p n c)) b u rs:=by
 have hu0:u≠0:=fun e=>by subst e;rw[h0]at h1;cases h1
 refine⟨?_,?_,p,n,c,?_,?_,hne⟩
 . rw[World.cell?_setCell_other _ _ _ _ (fun e=>hu0 (congrArg Addr.off e))];exact h0
 . rw[World.frozen?_setCell];exact hf
 . exact World.cell?_setCell_same _ _ _ h1
 . obtain ⟨s1,s2⟩:=hs
   refine⟨s1,?_⟩
   rcases s2 with s2|⟨b',o,rfl,s3,s4,s5,s6⟩
   . exact .inl s2
   . refine .inr ⟨b',o,rfl,s3,s4,by rw[World.size_setCell];exact s5,fun i z hi=>?_⟩
     have hb:b'≠b:=hne _ rfl;rw[World.cell?_of_block (w:=W) (a:=⟨b',o+i,none⟩) (Below.heap_setCell W ⟨b,u,none⟩ _ b' hb)];exact s6 i z hi
theorem Jo2(b:Nat)(rs:List Nat)(w:World)(h:Jbr w b 1 rs):Calls Tryz.prog 33 #[.pointer (some ⟨b,0,none⟩)] w fun e w'=>e=.returned (.int .i64 (by_ 1 rs))/\w'=w:=by
 have hu:=Jcs b 1 rs w h;obtain⟨_,_,p,n,c,h3,h4,_⟩:=h;have hn:(n:Int)=by_ 1 rs:=by rw[h4.1];exact JcG (by unfold Jaz;omega) rs
 rw[←hn];have hu:Calls Tryz.prog 35 #[.pointer (some ⟨b,0,none⟩)] w fun e w'=>e=.returned (.int .i64 1)/\w'=w:=hu;have HU:=hdz hu;clear h4 hn hu
 go_enter Tryz.func33,Tryz.ntmps33
 go_wp2_with (go_at_call 35;refine Calls.mono HU.out ?_;rintro e w1 ⟨rfl,hw1⟩;obtain rfl:=hw1.symm)
 go_ret;exact⟨rfl,rfl⟩
theorem JkS(b:Nat)(rs:List Nat)(qs:List Pt)(v:Value)(w:World)(h:Jbr w b 1 rs)(hR:∀r∈rs,Jas r)(hz:C1 rs<=100000)(hT:Lib.Utf8Tabs 2 3 w)(hr:opAt w v qs)(hwf:∀q∈qs,wfP q)(hl:qs.length<=1000)(hpl:∀q∈qs,q.put.length<=1000000) :
    Calls Tryz.prog 26 #[.pointer (some ⟨b,0,none⟩),v] w fun e w'=>e=.returned (errV (shE 1 rs qs))/\Jbr w' b 1 (shR 1 rs qs)/\Below b w w':=by
 have hlt:=Jfw h;have hL:=Jo2 b rs w h;have hu:Calls Tryz.prog 35 #[.pointer (some ⟨b,0,none⟩)] w fun e w'=>e=.returned (.int .i64 1)/\w'=w:=Jcs b 1 rs w h;have hby:=Jjz (u:=1) (by unfold Jaz;omega) rs;have hby0:=Jdl 1 rs;have hC:=JcM v qs (by_ 1 rs) w hT hr hwf (by omega) (by omega);have HL:=hdz hL;have HSH:=hdz h;have hb0:∀{w'},Below w.heap.size w w'->Below b w w':=fun h=>h.mono (by omega);have hvs:∃p c,v=.slice p qs.length c:=by obtain⟨p,c,e,_⟩:=hr;exact⟨p,c,e⟩
 obtain⟨pv,cv,rfl⟩:=hvs;unfold shR shE
 by_cases hc:chkE qs (by_ 1 rs)=0
 case neg =>
  rw[if_neg hc,if_neg hc];have hV:errV (chkE qs (by_ 1 rs))=.iface 26 (.int .i64 (chkE qs (by_ 1 rs))):=by unfold errV;rw[if_neg hc]
  rw[hV]at hC ⊢;have HC:=hdz hC;generalize chkE qs (by_ 1 rs)=E at *;generalize by_ 1 rs=BY at *;clear hT hr hwf hl hpl hC hL hu hV hR hz h hby hby0
  go_enter Tryz.func26,Tryz.ntmps26
  go_wp2_with (first
   | (go_at_call 33;refine Calls.mono HL.out ?_;rintro e w1 ⟨rfl,hw1⟩;obtain rfl:=hw1.symm)
   | (go_at_call 92;refine Calls.mono HC.out ?_;rintro e w2 ⟨rfl,hb2⟩))
  go_ret;exact⟨rfl,JaQ HSH.out hb2,hb0 hb2⟩
 case pos =>
  rw[if_pos hc];rw[hc,JeZ]at hC;have HC:=hdz hC;have HU:Hid (∀w1,Below w.heap.size w w1->Calls Tryz.prog 35 #[.pointer (some ⟨b,0,none⟩)] w1 fun e w'=>e=.returned (.int .i64 1)/\w'=w1):=fun w1 hb=>Jcs b 1 rs w1 (JaQ HSH.out hb)
  by_cases hp:plE 1 rs qs=0
  case neg =>
   rw[if_neg hp];have HP:Hid (∀w1,Below w.heap.size w w1->Calls Tryz.prog 93 #[.pointer (some ⟨b,1,none⟩),.slice pv qs.length cv,.func (.func 94) #[] #[],.func (.func 95) #[] #[]] w1 fun e w'=>e=.returned (errV (plE 1 rs qs))/\Below w1.heap.size w1 w'):=fun w1 hb=>by
    obtain⟨_,_,p,n,c,h3,h4,_⟩:=JaQ HSH.out hb;exact JjV Jtu b p n c rs qs _ w1 (Go.Proofs.Utf8Tabs_below hT hb) hR h3 h4 (JaK hr hb (nlr _)) hc hl (by omega) hpl hp
   generalize errV (plE 1 rs qs)=EV at *;generalize by_ 1 rs=BY at *;clear hT hr hwf hl hpl hC hL hu hR hz h hby hby0 hc hp
   go_enter Tryz.func26,Tryz.ntmps26
   go_wp2_with (first
    | (go_at_call 33;refine Calls.mono HL.out ?_;rintro e w1 ⟨rfl,hw1⟩;obtain rfl:=hw1.symm)
    | (go_at_call 92;refine Calls.mono HC.out ?_;rintro e w2 ⟨rfl,hb2⟩;have HB2:=hdz hb2;clear hb2)
    | (go_at_call 35;refine(HU.out _ HB2.out).mono ?_;rintro e w3 ⟨rfl,hw3⟩;obtain rfl:=hw3.symm)
    | (go_at_call 93;refine(HP.out _ HB2.out).mono ?_;rintro e w3 ⟨rfl,hb3⟩;have HB3:=hdz (HB2.out.trans (hb3.mono HB2.out.size));clear hb3))
   go_ret;exact⟨rfl,JaQ HSH.out HB3.out,hb0 HB3.out⟩
  case pos =>
   rw[hp,if_pos rfl,JeZ]
   have hok:okZ 1 rs qs=true/\C1 (JaL 1 rs qs)<=8000:=by
    unfold plE at hp
    split at hp
    . split at hp
      . exact⟨‹_›,‹_›⟩
      . cases hp
    . cases hp
   have HP:Hid (∀w1,Below w.heap.size w w1->Calls Tryz.prog 93 #[.pointer (some ⟨b,1,none⟩),.slice pv qs.length cv,.func (.func 94) #[] #[],.func (.func 95) #[] #[]] w1 fun e w'=>e=.returned .nilIface/\Jbr w' b 1 (JaL 1 rs qs)/\Below b w1 w'):=fun w1 hb=>by
    have hsh:=JaQ HSH.out hb;obtain⟨h1,h2,p,n,c,h3,h4,_⟩:=hsh;refine(JhS Jtu b p n c rs qs _ w1 (Go.Proofs.Utf8Tabs_below hT hb) hR h3 h2 h4 (JaK hr hb (nlr _)) hc hl (by omega) hpl hok.1 hok.2).mono ?_;rintro e w' ⟨rfl,W,p',n',c',hB,rfl,hs,hne⟩;have hlt1:b<w1.heap.size:=by have:=hb.size;omega
    have hltW:b<W.heap.size:=by have:=hB.size;omega
    have c0:W.cell? ⟨b,0,none⟩=some (.int .i64 ((1:Nat):Int)):=(hB.cell (p:=⟨b,0,none⟩) hlt1).trans h1;have c1:W.cell? ⟨b,1,none⟩=some (.slice p n c):=(hB.cell (p:=⟨b,1,none⟩) hlt1).trans h3;have f1:W.frozen? ⟨b,1,none⟩=false:=(hB.frozen (p:=⟨b,1,none⟩) hlt1).trans h2;exact⟨rfl,JfJ c0 c1 f1 hs (fun a ha=>by have:=hne a ha;have:=hlt1;omega),(hB.mono (Nat.le_of_lt hlt1)).setCell (p:=⟨b,1,none⟩) (nlr _) _⟩
   generalize by_ 1 rs=BY at *;clear hT hr hwf hl hpl hC hL hu hR hz h hby hby0 hc hp hok
   go_enter Tryz.func26,Tryz.ntmps26
   go_wp2_with (first
    | (go_at_call 33;refine Calls.mono HL.out ?_;rintro e w1 ⟨rfl,hw1⟩;obtain rfl:=hw1.symm)
    | (go_at_call 92;refine Calls.mono HC.out ?_;rintro e w2 ⟨rfl,hb2⟩;have HB2:=hdz hb2;clear hb2)
    | (go_at_call 35;refine(HU.out _ HB2.out).mono ?_;rintro e w3 ⟨rfl,hw3⟩;obtain rfl:=hw3.symm)
    | (go_at_call 93;refine(HP.out _ HB2.out).mono ?_;rintro e w3 ⟨rfl,hs3,hb3⟩;have HS3:=hdz hs3;have HB3:=hdz ((hb0 HB2.out).trans hb3);clear hb3 hs3))
   go_ret;exact⟨rfl,HS3.out,HB3.out⟩
theorem Jo1(b:Nat)(rs:List Nat)(w:World)(h:Jbr w b 2 rs):Calls Tryz.prog 33 #[.pointer (some ⟨b,0,none⟩)] w fun e w'=>e=.returned (.int .i64 (by_ 2 rs))/\w'=w:=by
 have hu:=Jcs b 2 rs w h;obtain⟨_,_,p,n,c,h3,h4,_⟩:=h;have hn:(n:Int)=by_ 2 rs:=by rw[h4.1];exact JcG (by unfold Jaz;omega) rs
 rw[←hn];have hu:Calls Tryz.prog 35 #[.pointer (some ⟨b,0,none⟩)] w fun e w'=>e=.returned (.int .i64 2)/\w'=w:=hu;have HU:=hdz hu;clear h4 hn hu
 go_enter Tryz.func33,Tryz.ntmps33
 go_wp2_with (go_at_call 35;refine Calls.mono HU.out ?_;rintro e w1 ⟨rfl,hw1⟩;obtain rfl:=hw1.symm)
 go_ret;exact⟨rfl,rfl⟩
theorem JkR(b:Nat)(rs:List Nat)(qs:List Pt)(v:Value)(w:World)(h:Jbr w b 2 rs)(hR:∀r∈rs,Jas r)(hz:C1 rs<=100000)(hT:Lib.Utf8Tabs 2 3 w)(hr:opAt w v qs)(hwf:∀q∈qs,wfP q)(hl:qs.length<=1000)(hpl:∀q∈qs,q.put.length<=1000000) :
    Calls Tryz.prog 26 #[.pointer (some ⟨b,0,none⟩),v] w fun e w'=>e=.returned (errV (shE 2 rs qs))/\Jbr w' b 2 (shR 2 rs qs)/\Below b w w':=by
 have hlt:=Jfw h;have hL:=Jo1 b rs w h;have hu:Calls Tryz.prog 35 #[.pointer (some ⟨b,0,none⟩)] w fun e w'=>e=.returned (.int .i64 2)/\w'=w:=Jcs b 2 rs w h;have hby:=Jjz (u:=2) (by unfold Jaz;omega) rs;have hby0:=Jdl 2 rs;have hC:=JcM v qs (by_ 2 rs) w hT hr hwf (by omega) (by omega);have HL:=hdz hL;have HSH:=hdz h;have hb0:∀{w'},Below w.heap.size w w'->Below b w w':=fun h=>h.mono (by omega);have hvs:∃p c,v=.slice p qs.length c:=by obtain⟨p,c,e,_⟩:=hr;exact⟨p,c,e⟩
 obtain⟨pv,cv,rfl⟩:=hvs;unfold shR shE
 by_cases hc:chkE qs (by_ 2 rs)=0
 case neg =>
  rw[if_neg hc,if_neg hc];have hV:errV (chkE qs (by_ 2 rs))=.iface 26 (.int .i64 (chkE qs (by_ 2 rs))):=by unfold errV;rw[if_neg hc]
  rw[hV]at hC ⊢;have HC:=hdz hC;generalize chkE qs (by_ 2 rs)=E at *;generalize by_ 2 rs=BY at *;clear hT hr hwf hl hpl hC hL hu hV hR hz h hby hby0
  go_enter Tryz.func26,Tryz.ntmps26
  go_wp2_with (first
   | (go_at_call 33;refine Calls.mono HL.out ?_;rintro e w1 ⟨rfl,hw1⟩;obtain rfl:=hw1.symm)
   | (go_at_call 92;refine Calls.mono HC.out ?_;rintro e w2 ⟨rfl,hb2⟩))
  go_ret;exact⟨rfl,JaQ HSH.out hb2,hb0 hb2⟩
 case pos =>
  rw[if_pos hc];rw[hc,JeZ]at hC;have HC:=hdz hC;have HU:Hid (∀w1,Below w.heap.size w w1->Calls Tryz.prog 35 #[.pointer (some ⟨b,0,none⟩)] w1 fun e w'=>e=.returned (.int .i64 2)/\w'=w1):=fun w1 hb=>Jcs b 2 rs w1 (JaQ HSH.out hb)
  by_cases hp:plE 2 rs qs=0
  case neg =>
   rw[if_neg hp];have HP:Hid (∀w1,Below w.heap.size w w1->Calls Tryz.prog 96 #[.pointer (some ⟨b,2,none⟩),.slice pv qs.length cv,.func (.func 97) #[] #[],.func (.func 98) #[] #[]] w1 fun e w'=>e=.returned (errV (plE 2 rs qs))/\Below w1.heap.size w1 w'):=fun w1 hb=>by
    obtain⟨_,_,p,n,c,h3,h4,_⟩:=JaQ HSH.out hb;exact JjV Jtt b p n c rs qs _ w1 (Go.Proofs.Utf8Tabs_below hT hb) hR h3 h4 (JaK hr hb (nlr _)) hc hl (by omega) hpl hp
   generalize errV (plE 2 rs qs)=EV at *;generalize by_ 2 rs=BY at *;clear hT hr hwf hl hpl hC hL hu hR hz h hby hby0 hc hp
   go_enter Tryz.func26,Tryz.ntmps26
   go_wp2_with (first
    | (go_at_call 33;refine Calls.mono HL.out ?_;rintro e w1 ⟨rfl,hw1⟩;obtain rfl:=hw1.symm)
    | (go_at_call 92;refine Calls.mono HC.out ?_;rintro e w2 ⟨rfl,hb2⟩;have HB2:=hdz hb2;clear hb2)
    | (go_at_call 35;refine(HU.out _ HB2.out).mono ?_;rintro e w3 ⟨rfl,hw3⟩;obtain rfl:=hw3.symm)
    | (go_at_call 96;refine(HP.out _ HB2.out).mono ?_;rintro e w3 ⟨rfl,hb3⟩;have HB3:=hdz (HB2.out.trans (hb3.mono HB2.out.size));clear hb3))
   go_ret;exact⟨rfl,JaQ HSH.out HB3.out,hb0 HB3.out⟩
  case pos =>
   rw[hp,if_pos rfl,JeZ]
   have hok:okZ 2 rs qs=true/\C1 (JaL 2 rs qs)<=8000:=by
    unfold plE at hp
    split at hp
    . split at hp
      . exact⟨‹_›,‹_›⟩
      . cases hp
    . cases hp
   have HP:Hid (∀w1,Below w.heap.size w w1->Calls Tryz.prog 96 #[.pointer (some ⟨b,2,none⟩),.slice pv qs.length cv,.func (.func 97) #[] #[],.func (.func 98) #[] #[]] w1 fun e w'=>e=.returned .nilIface/\Jbr w' b 2 (JaL 2 rs qs)/\Below b w1 w'):=fun w1 hb=>by
    have hsh:=JaQ HSH.out hb;obtain⟨h1,h2,p,n,c,h3,h4,_⟩:=hsh;refine(JhS Jtt b p n c rs qs _ w1 (Go.Proofs.Utf8Tabs_below hT hb) hR h3 h2 h4 (JaK hr hb (nlr _)) hc hl (by omega) hpl hok.1 hok.2).mono ?_;rintro e w' ⟨rfl,W,p',n',c',hB,rfl,hs,hne⟩;have hlt1:b<w1.heap.size:=by have:=hb.size;omega
    have hltW:b<W.heap.size:=by have:=hB.size;omega
    have c0:W.cell? ⟨b,0,none⟩=some (.int .i64 ((2:Nat):Int)):=(hB.cell (p:=⟨b,0,none⟩) hlt1).trans h1;have c1:W.cell? ⟨b,2,none⟩=some (.slice p n c):=(hB.cell (p:=⟨b,2,none⟩) hlt1).trans h3;have f1:W.frozen? ⟨b,2,none⟩=false:=(hB.frozen (p:=⟨b,2,none⟩) hlt1).trans h2;exact⟨rfl,JfJ c0 c1 f1 hs (fun a ha=>by have:=hne a ha;have:=hlt1;omega),(hB.mono (Nat.le_of_lt hlt1)).setCell (p:=⟨b,2,none⟩) (nlr _) _⟩
   generalize by_ 2 rs=BY at *;clear hT hr hwf hl hpl hC hL hu hR hz h hby hby0 hc hp hok
   go_enter Tryz.func26,Tryz.ntmps26
   go_wp2_with (first
    | (go_at_call 33;refine Calls.mono HL.out ?_;rintro e w1 ⟨rfl,hw1⟩;obtain rfl:=hw1.symm)
    | (go_at_call 92;refine Calls.mono HC.out ?_;rintro e w2 ⟨rfl,hb2⟩;have HB2:=hdz hb2;clear hb2)
    | (go_at_call 35;refine(HU.out _ HB2.out).mono ?_;rintro e w3 ⟨rfl,hw3⟩;obtain rfl:=hw3.symm)
    | (go_at_call 96;refine(HP.out _ HB2.out).mono ?_;rintro e w3 ⟨rfl,hs3,hb3⟩;have HS3:=hdz hs3;have HB3:=hdz ((hb0 HB2.out).trans hb3);clear hb3 hs3))
   go_ret;exact⟨rfl,HS3.out,HB3.out⟩
theorem Jo0(b:Nat)(rs:List Nat)(w:World)(h:Jbr w b 3 rs):Calls Tryz.prog 33 #[.pointer (some ⟨b,0,none⟩)] w fun e w'=>e=.returned (.int .i64 (by_ 3 rs))/\w'=w:=by
 have hu:=Jcs b 3 rs w h;obtain⟨_,_,p,n,c,h3,h4,_⟩:=h;have hn:(n:Int)=by_ 3 rs:=by rw[h4.1];exact JcG (by unfold Jaz;omega) rs
 rw[←hn];have hu:Calls Tryz.prog 35 #[.pointer (some ⟨b,0,none⟩)] w fun e w'=>e=.returned (.int .i64 3)/\w'=w:=hu;have HU:=hdz hu;clear h4 hn hu
 go_enter Tryz.func33,Tryz.ntmps33
 go_wp2_with (go_at_call 35;refine Calls.mono HU.out ?_;rintro e w1 ⟨rfl,hw1⟩;obtain rfl:=hw1.symm)
 go_ret;exact⟨rfl,rfl⟩
theorem JkQ(b:Nat)(rs:List Nat)(qs:List Pt)(v:Value)(w:World)(h:Jbr w b 3 rs)(hR:∀r∈rs,Jas r)(hz:C1 rs<=100000)(hT:Lib.Utf8Tabs 2 3 w)(hr:opAt w v qs)(hwf:∀q∈qs,wfP q)(hl:qs.length<=1000)(hpl:∀q∈qs,q.put.length<=1000000) :
    Calls Tryz.prog 26 #[.pointer (some ⟨b,0,none⟩),v] w fun e w'=>e=.returned (errV (shE 3 rs qs))/\Jbr w' b 3 (shR 3 rs qs)/\Below b w w':=by
 have hlt:=Jfw h;have hL:=Jo0 b rs w h;have hu:Calls Tryz.prog 35 #[.pointer (some ⟨b,0,none⟩)] w fun e w'=>e=.returned (.int .i64 3)/\w'=w:=Jcs b 3 rs w h;have hby:=Jjz (u:=3) (by unfold Jaz;omega) rs;have hby0:=Jdl 3 rs;have hC:=JcM v qs (by_ 3 rs) w hT hr hwf (by omega) (by omega);have HL:=hdz hL;have HSH:=hdz h;have hb0:∀{w'},Below w.heap.size w w'->Below b w w':=fun h=>h.mono (by omega);have hvs:∃p c,v=.slice p qs.length c:=by obtain⟨p,c,e,_⟩:=hr;exact⟨p,c,e⟩
 obtain⟨pv,cv,rfl⟩:=hvs;unfold shR shE
 by_cases hc:chkE qs (by_ 3 rs)=0
 case neg =>
  rw[if_neg hc,if_neg hc];have hV:errV (chkE qs (by_ 3 rs))=.iface 26 (.int .i64 (chkE qs (by_ 3 rs))):=by unfold errV;rw[if_neg hc]
  rw[hV]at hC ⊢;have HC:=hdz hC;generalize chkE qs (by_ 3 rs)=E at *;generalize by_ 3 rs=BY at *;clear hT hr hwf hl hpl hC hL hu hV hR hz h hby hby0
  go_enter Tryz.func26,Tryz.ntmps26
  go_wp2_with (first
   | (go_at_call 33;refine Calls.mono HL.out ?_;rintro e w1 ⟨rfl,hw1⟩;obtain rfl:=hw1.symm)
   | (go_at_call 92;refine Calls.mono HC.out ?_;rintro e w2 ⟨rfl,hb2⟩))
  go_ret;exact⟨rfl,JaQ HSH.out hb2,hb0 hb2⟩
 case pos =>
  rw[if_pos hc];rw[hc,JeZ]at hC;have HC:=hdz hC;have HU:Hid (∀w1,Below w.heap.size w w1->Calls Tryz.prog 35 #[.pointer (some ⟨b,0,none⟩)] w1 fun e w'=>e=.returned (.int .i64 3)/\w'=w1):=fun w1 hb=>Jcs b 3 rs w1 (JaQ HSH.out hb)
  by_cases hp:plE 3 rs qs=0
  case neg =>
   rw[if_neg hp];have HP:Hid (∀w1,Below w.heap.size w w1->Calls Tryz.prog 100 #[.pointer (some ⟨b,3,none⟩),.slice pv qs.length cv,.func (.func 101) #[] #[],.func (.func 102) #[] #[]] w1 fun e w'=>e=.returned (errV (plE 3 rs qs))/\Below w1.heap.size w1 w'):=fun w1 hb=>by
    obtain⟨_,_,p,n,c,h3,h4,_⟩:=JaQ HSH.out hb;exact JjV Jts b p n c rs qs _ w1 (Go.Proofs.Utf8Tabs_below hT hb) hR h3 h4 (JaK hr hb (nlr _)) hc hl (by omega) hpl hp
   generalize errV (plE 3 rs qs)=EV at *;generalize by_ 3 rs=BY at *;clear hT hr hwf hl hpl hC hL hu hR hz h hby hby0 hc hp
   go_enter Tryz.func26,Tryz.ntmps26
   go_wp2_with (first
    | (go_at_call 33;refine Calls.mono HL.out ?_;rintro e w1 ⟨rfl,hw1⟩;obtain rfl:=hw1.symm)
    | (go_at_call 92;refine Calls.mono HC.out ?_;rintro e w2 ⟨rfl,hb2⟩;have HB2:=hdz hb2;clear hb2)
    | (go_at_call 35;refine(HU.out _ HB2.out).mono ?_;rintro e w3 ⟨rfl,hw3⟩;obtain rfl:=hw3.symm)
    | (go_at_call 100;refine(HP.out _ HB2.out).mono ?_;rintro e w3 ⟨rfl,hb3⟩;have HB3:=hdz (HB2.out.trans (hb3.mono HB2.out.size));clear hb3))
   go_ret;exact⟨rfl,JaQ HSH.out HB3.out,hb0 HB3.out⟩
  case pos =>
   rw[hp,if_pos rfl,JeZ]
   have hok:okZ 3 rs qs=true/\C1 (JaL 3 rs qs)<=8000:=by
    unfold plE at hp
    split at hp
    . split at hp
      . exact⟨‹_›,‹_›⟩
      . cases hp
    . cases hp
   have HP:Hid (∀w1,Below w.heap.size w w1->Calls Tryz.prog 100 #[.pointer (some ⟨b,3,none⟩),.slice pv qs.length cv,.func (.func 101) #[] #[],.func (.func 102) #[] #[]] w1 fun e w'=>e=.returned .nilIface/\Jbr w' b 3 (JaL 3 rs qs)/\Below b w1 w'):=fun w1 hb=>by
    have hsh:=JaQ HSH.out hb;obtain⟨h1,h2,p,n,c,h3,h4,_⟩:=hsh;refine(JhS Jts b p n c rs qs _ w1 (Go.Proofs.Utf8Tabs_below hT hb) hR h3 h2 h4 (JaK hr hb (nlr _)) hc hl (by omega) hpl hok.1 hok.2).mono ?_;rintro e w' ⟨rfl,W,p',n',c',hB,rfl,hs,hne⟩;have hlt1:b<w1.heap.size:=by have:=hb.size;omega
    have hltW:b<W.heap.size:=by have:=hB.size;omega
    have c0:W.cell? ⟨b,0,none⟩=some (.int .i64 ((3:Nat):Int)):=(hB.cell (p:=⟨b,0,none⟩) hlt1).trans h1;have c1:W.cell? ⟨b,3,none⟩=some (.slice p n c):=(hB.cell (p:=⟨b,3,none⟩) hlt1).trans h3;have f1:W.frozen? ⟨b,3,none⟩=false:=(hB.frozen (p:=⟨b,3,none⟩) hlt1).trans h2;exact⟨rfl,JfJ c0 c1 f1 hs (fun a ha=>by have:=hne a ha;have:=hlt1;omega),(hB.mono (Nat.le_of_lt hlt1)).setCell (p:=⟨b,3,none⟩) (nlr _) _⟩
   generalize by_ 3 rs=BY at *;clear hT hr hwf hl hpl hC hL hu hR hz h hby hby0 hc hp hok
   go_enter Tryz.func26,Tryz.ntmps26
   go_wp2_with (first
    | (go_at_call 33;refine Calls.mono HL.out ?_;rintro e w1 ⟨rfl,hw1⟩;obtain rfl:=hw1.symm)
    | (go_at_call 92;refine Calls.mono HC.out ?_;rintro e w2 ⟨rfl,hb2⟩;have HB2:=hdz hb2;clear hb2)
    | (go_at_call 35;refine(HU.out _ HB2.out).mono ?_;rintro e w3 ⟨rfl,hw3⟩;obtain rfl:=hw3.symm)
    | (go_at_call 100;refine(HP.out _ HB2.out).mono ?_;rintro e w3 ⟨rfl,hs3,hb3⟩;have HS3:=hdz hs3;have HB3:=hdz ((hb0 HB2.out).trans hb3);clear hb3 hs3))
   go_ret;exact⟨rfl,HS3.out,HB3.out⟩
end
section
open Go.RowKit
attribute [local go_sem] Oper.semAt_some
theorem JpK(v1 v2:Value)(first:Bool)(a b:List Pt)(w:World)(hT:Lib.Utf8Tabs 2 3 w)(h1:opAt w v1 a)(h2:opAt w v2 b)(w1:∀p∈a,wfP p)(w2:∀p∈b,wfP p)(l1:a.length<10000000)(l2:b.length<10000000)(he:JbG a b≠0) :
    Calls Tryz.prog 187 #[v1,v2,.bool first] w fun e w'=>e=.returned (.tuple #[.slice none 0 0,errV (JbG a b)])/\Below w.heap.size w w':=by
 have cB:Hid _:=Jcb v1 v2 a b w hT h1 h2 w1 w2 l1 l2;have hV:errV (JbG a b)=.iface 26 (.int .i64 (JbG a b)):=by unfold errV;rw[if_neg he]
 rw[hV]at cB ⊢;generalize JbG a b=E at *;obtain⟨p1,c1,rfl,_⟩:=h1;obtain⟨p2,c2,rfl,_⟩:=h2;clear hT w1 w2 hV
 go_enter Tryz.func187,Tryz.ntmps187
 go_wp2_with (go_at_call 221;refine Calls.mono cB.out ?_;rintro e w1 ⟨rfl,hb1⟩)
 go_ret2
 exact⟨rfl,hb1⟩
theorem JpI(v1 v2:Value)(first:Bool)(a b:List Pt)(w:World)(hT:Lib.Utf8Tabs 2 3 w)(h1:opAt w v1 a)(h2:opAt w v2 b)(w1:∀p∈a,wfP p)(w2:∀p∈b,wfP p)(l1:a.length<10000000)(l2:b.length<10000000)(he:JbG a b=0)(hl:(Jar b).1≠(Jar a).1) :
    Calls Tryz.prog 187 #[v1,v2,.bool first] w fun e w'=>e=.returned (.tuple #[.slice none 0 0,errV (2)])/\Below w.heap.size w w':=by
 have cB:Hid _:=Jcb v1 v2 a b w hT h1 h2 w1 w2 l1 l2;have hV:errV (JbG a b)=.nilIface:=by unfold errV;rw[if_pos he]
 have hV2:errV 2=.iface 26 (.int .i64 2):=rfl;rw[hV]at cB;rw[hV2];have cL1:Hid (∀wx,Below w.heap.size w wx->Calls Tryz.prog 120 #[v1] wx fun e w'=>e=.returned (.tuple #[.int .i64 (Jar a).1,.int .i64 (Jar a).2])/\Below wx.heap.size wx w'):=fun wx hb=>Jc0 v1 a wx (Ja3 h1 hb) l1;have cL2:Hid (∀wx,Below w.heap.size w wx->Calls Tryz.prog 120 #[v2] wx fun e w'=>e=.returned (.tuple #[.int .i64 (Jar b).1,.int .i64 (Jar b).2])/\Below wx.heap.size wx w'):=fun wx hb=>Jc0 v2 b wx (Ja3 h2 hb) l2;generalize (Jar a).1=A1 at *;generalize (Jar a).2=A2 at *;generalize (Jar b).1=B1 at *;generalize (Jar b).2=B2 at *;obtain⟨p1,c1,rfl,_⟩:=h1;obtain⟨p2,c2,rfl,_⟩:=h2;clear hT w1 w2 hV hV2
 go_enter Tryz.func187,Tryz.ntmps187
 go_wp2_with (first
  | (have _:=HB2;go_at_call 120;refine(cL2.out _ HB2.out).mono ?_;rintro e w3 ⟨rfl,hb3⟩;have HB3:=hdz (HB2.out.trans (hb3.mono HB2.out.size));clear hb3)
  | (go_at_call 120;refine(cL1.out _ HB1.out).mono ?_;rintro e w2 ⟨rfl,hb2⟩;have HB2:=hdz (HB1.out.trans (hb2.mono HB1.out.size));clear hb2)
  | (go_at_call 221;refine Calls.mono cB.out ?_;rintro e w1 ⟨rfl,hb1⟩;have HB1:=hdz hb1;clear hb1))
 go_ret2
 exact⟨rfl,HB3.out⟩
theorem Jop(v1 v2:Value)(first:Bool)(a b:List Pt)(w:World)(hT:Lib.Utf8Tabs 2 3 w)(h1:opAt w v1 a)(h2:opAt w v2 b)(w1:∀p∈a,wfP p)(w2:∀p∈b,wfP p)(l1:a.length<10000000)(l2:b.length<10000000)(hf:JbG a b=0->fineP a/\fineP b) :
    Calls Tryz.prog 187 #[v1,v2,.bool first] w fun e w'=>∃v',e=.returned (.tuple #[v',errV (Ji8 a b)])/\opN w.heap.size w' v' (if Ji8 a b=0 then Jaq (Jaw first a b) else [])/\Below w.heap.size w w':=by
 have none:∀w',opN w.heap.size w' (.slice none 0 0) []:=JbS _;unfold Ji8
 by_cases he:JbG a b=0
 . obtain ⟨f1,f2⟩:=hf he
   rw[if_pos he]
   by_cases hl:(Jar b).1=(Jar a).1
   . rw[if_pos hl,if_pos rfl]
     show Calls _ _ _ _ fun e w'=>∃v',e=.returned (.tuple #[v',.nilIface])/\_
     cases first with
     | true=>exact(JrM v1 v2 a b w hT h1 h2 w1 w2 f1 f2 he hl)
     | false=>exact(JrL v1 v2 a b w hT h1 h2 w1 w2 f1 f2 he hl)
   . rw[if_neg hl,if_neg (by decide)]
     exact(JpI v1 v2 first a b w hT h1 h2 w1 w2 l1 l2 he hl).mono fun e w' h=>⟨_,h.1,none w',h.2⟩
 . rw[if_neg he,if_neg he]
   exact(JpK v1 v2 first a b w hT h1 h2 w1 w2 l1 l2 he).mono fun e w' h=>⟨_,h.1,none w',h.2⟩
theorem JsJ(v1 v2:Value)(a b:List Pt)(w:World)(hT:Lib.Utf8Tabs 2 3 w)(h1:opAt w v1 a)(h2:opAt w v2 b)(w1:∀p∈a,wfP p)(w2:∀p∈b,wfP p)(l1:a.length<10000000)(l2:b.length<10000000)(he:JbG a b≠0) :
    Calls Tryz.prog 182 #[v1,v2] w fun e w'=>e=.returned (.tuple #[.slice none 0 0,errV (JbG a b)])/\Below w.heap.size w w':=by
 have cB:Hid _:=Jcb v1 v2 a b w hT h1 h2 w1 w2 l1 l2;have hV:errV (JbG a b)=.iface 26 (.int .i64 (JbG a b)):=by unfold errV;rw[if_neg he]
 rw[hV]at cB ⊢;generalize JbG a b=E at *;obtain⟨p1,c1,rfl,_⟩:=h1;obtain⟨p2,c2,rfl,_⟩:=h2;clear hT w1 w2 hV
 go_enter Tryz.func182,Tryz.ntmps182
 go_wp2_with (go_at_call 221;refine Calls.mono cB.out ?_;rintro e w1 ⟨rfl,hb1⟩)
 go_ret2
 exact⟨rfl,hb1⟩
theorem JsI(v1 v2:Value)(a b:List Pt)(w:World)(hT:Lib.Utf8Tabs 2 3 w)(h1:opAt w v1 a)(h2:opAt w v2 b)(w1:∀p∈a,wfP p)(w2:∀p∈b,wfP p)(l1:a.length<10000000)(l2:b.length<10000000)(he:JbG a b=0)(hl:(Jar b).1≠(Jar a).2) :
    Calls Tryz.prog 182 #[v1,v2] w fun e w'=>e=.returned (.tuple #[.slice none 0 0,errV (2)])/\Below w.heap.size w w':=by
 have cB:Hid _:=Jcb v1 v2 a b w hT h1 h2 w1 w2 l1 l2;have hV:errV (JbG a b)=.nilIface:=by unfold errV;rw[if_pos he]
 have hV2:errV 2=.iface 26 (.int .i64 2):=rfl;rw[hV]at cB;rw[hV2];have cL1:Hid (∀wx,Below w.heap.size w wx->Calls Tryz.prog 120 #[v1] wx fun e w'=>e=.returned (.tuple #[.int .i64 (Jar a).1,.int .i64 (Jar a).2])/\Below wx.heap.size wx w'):=fun wx hb=>Jc0 v1 a wx (Ja3 h1 hb) l1;have cL2:Hid (∀wx,Below w.heap.size w wx->Calls Tryz.prog 120 #[v2] wx fun e w'=>e=.returned (.tuple #[.int .i64 (Jar b).1,.int .i64 (Jar b).2])/\Below wx.heap.size wx w'):=fun wx hb=>Jc0 v2 b wx (Ja3 h2 hb) l2;generalize (Jar a).1=A1 at *;generalize (Jar a).2=A2 at *;generalize (Jar b).1=B1 at *;generalize (Jar b).2=B2 at *;obtain⟨p1,c1,rfl,_⟩:=h1;obtain⟨p2,c2,rfl,_⟩:=h2;clear hT w1 w2 hV hV2
 go_enter Tryz.func182,Tryz.ntmps182
 go_wp2_with (first
  | (have _:=HB2;go_at_call 120;refine(cL2.out _ HB2.out).mono ?_;rintro e w3 ⟨rfl,hb3⟩;have HB3:=hdz (HB2.out.trans (hb3.mono HB2.out.size));clear hb3)
  | (go_at_call 120;refine(cL1.out _ HB1.out).mono ?_;rintro e w2 ⟨rfl,hb2⟩;have HB2:=hdz (HB1.out.trans (hb2.mono HB1.out.size));clear hb2)
  | (go_at_call 221;refine Calls.mono cB.out ?_;rintro e w1 ⟨rfl,hb1⟩;have HB1:=hdz hb1;clear hb1))
 go_ret2
 exact⟨rfl,HB3.out⟩
theorem Jro(v1 v2:Value)(a b:List Pt)(w:World)(hT:Lib.Utf8Tabs 2 3 w)(h1:opAt w v1 a)(h2:opAt w v2 b)(w1:∀p∈a,wfP p)(w2:∀p∈b,wfP p)(l1:a.length<10000000)(l2:b.length<10000000)(hf:JbG a b=0->fineP a/\fineP b) :
    Calls Tryz.prog 182 #[v1,v2] w fun e w'=>∃v',e=.returned (.tuple #[v',errV (Jrp a b)])/\opN w.heap.size w' v' (if Jrp a b=0 then Jaq (JdU a b) else [])/\Below w.heap.size w w':=by
 have none:∀w',opN w.heap.size w' (.slice none 0 0) []:=JbS _;unfold Jrp
 by_cases he:JbG a b=0
 . obtain ⟨f1,f2⟩:=hf he
   rw[if_pos he]
   by_cases hl:(Jar b).1=(Jar a).2
   . rw[if_pos hl,if_pos rfl]
     show Calls _ _ _ _ fun e w'=>∃v',e=.returned (.tuple #[v',.nilIface])/\_;exact(JoY v1 v2 a b w hT h1 h2 w1 w2 f1 f2 he hl)
   . rw[if_neg hl,if_neg (by decide)]
     exact(JsI v1 v2 a b w hT h1 h2 w1 w2 l1 l2 he hl).mono fun e w' h=>⟨_,h.1,none w',h.2⟩
 . rw[if_neg he,if_neg he]
   exact(JsJ v1 v2 a b w hT h1 h2 w1 w2 l1 l2 he).mono fun e w' h=>⟨_,h.1,none w',h.2⟩
theorem JjW{W:World}{g:Nat}{ps:List Pt}{t:TypeId}{fz:Nat×Nat}(h:W.heap[g]?=some (.cells (JaD ps).toArray t fz))(hl:ps.length<=maxLen):opAt W (.slice (some ⟨g,0,none⟩) ps.length ps.length) ps:=by
 refine⟨_,_,rfl,nlr _,hl,fun _=>⟨g,0,rfl,Jav h,fun i q hi=>?_⟩⟩;have hc:=Jfz ps i q hi;have key:∀j,j<3->W.cell? ⟨g,0+i*3+j,none⟩=(Ja6 q)[j]?:=fun j hj=>by
  have:=chp h (0+i*3+j);rw[this,Nat.zero_add,←hc j hj];simp
 exact⟨key 0 (by omega),key 1 (by omega),key 2 (by omega)⟩
def d1:List Pt:=[⟨0,0,[120]⟩,⟨3,0,[]⟩]
def d2:List Pt:=[⟨2,0,[]⟩,⟨0,0,[120]⟩,⟨1,0,[]⟩]
theorem JjG(u:Int)(hu:Jaz u){rs:List Nat}(hR:∀r∈rs,Jas r)(hz:C1 rs<=8000)(hne:encs rs≠[]):shE u [] [⟨0,0,encs rs⟩]=0/\shR u [] [⟨0,0,encs rs⟩]=rs:=by
 have hsc:(scan (encs rs)).2=true:=by rw[JbT rs hR]
 have hro:Jam (encs rs)=rs:=by
  unfold Jam;rw[JbT rs hR];simp[wide,Function.comp_def]
 have hone:oneB ⟨0,0,encs rs⟩=true:=by simp[oneB,hne]
 have hl:lenP ⟨0,0,encs rs⟩=0:=rfl;have hup:upTo [] u 0=[]:=Jh5 [] u;have hed:JaM [] u 0=true:=by unfold JaM;rw[hup,Jiu];rfl
 have hc:chkE [⟨0,0,encs rs⟩] (by_ u [])=0:=by
  rw[Jiu];simp[chkE,chk1,chk2,hone,hsc]
 have hok:okZ u [] [⟨0,0,encs rs⟩]=true:=by
  unfold okZ;rw[hl,hed];rfl
 have hco:JaL u [] [⟨0,0,encs rs⟩]=rs:=by
  unfold JaL;rw[if_neg (by simp),hro];simp[JaL]
 have hE:shE u [] [⟨0,0,encs rs⟩]=0:=by
  unfold shE plE;rw[if_pos hc,if_pos hok,hco,if_pos hz]
 exact⟨hE,by unfold shR;rw[if_pos hE,hco]⟩
theorem Jmy(rs:List Nat)(hR:∀r∈rs,Jas r)(hz:C1 rs<=8000)(w:World)(hT:Lib.Utf8Tabs 2 3 w):Calls Tryz.prog 25 #[.int .i64 1,.string (Ja1 rs)] w fun e w'=>∃b,e=.returned (.tuple #[.pointer (some ⟨b,0,none⟩),.nilIface])/\Jbr w' b 1 rs/\w.heap.size<=b/\Below w.heap.size w w':=by
 have hl:=Jcf rs;have hb:(Ja1 rs)=⟨(encs rs).toArray⟩:=rfl;have hsc:(scan (encs rs)).2=true:=by rw[JbT rs hR]
 have cC:Hid (Calls Tryz.prog 78 #[.string (Ja1 rs)] w fun e w'=>∃n1 n2 n3 n4,e=.returned (.tuple #[.agg #[.int .i64 n1,.int .i64 n2,.int .i64 n3,.int .i64 n4],.nilIface])/\Below w.heap.size w w') :=
  (Je2 (Ja1 rs) (by rw[hb];simp[ByteArray.size];omega) w hT).mono fun e w' ⟨v,x,h1,h2,h3⟩=>by
    have e0:(Ja1 rs).data.toList=encs rs:=rfl;rw[e0]at h3
    rcases h3 with ⟨_,rfl,rfl⟩|⟨h4,_⟩
    . exact⟨_,_,_,_,h1,h2⟩
    . rw[hsc]at h4;cases h4
 by_cases hne:rs=[]
 . subst hne
   have hbe:Ja1 []=⟨#[]⟩:=rfl;rw[hbe]at cC ⊢;clear hT hR hz hl hb hsc hbe
   go_enter Tryz.func25,Tryz.ntmps25
   go_wp2_with (go_at_call 78;refine Calls.mono cC.out ?_;rintro e w1 ⟨n1,n2,n3,n4,rfl,hb1⟩;have HB1:=hdz hb1;clear hb1)
   go_ret2
   refine⟨_,rfl,?_,?_,(HB1.out.alloc HB1.out.size _).alloc (Nat.le_trans HB1.out.size (by simp)) _⟩
   . refine⟨by simp[go_sem],by simp[go_sem],none,0,0,by simp[go_sem],?_,fun a ha=>by cases ha⟩
     rw[JcF];exact⟨rfl,.inl ⟨rfl,rfl,rfl⟩⟩
   . have:=HB1.out.size;simp;omega
 . have hne2:encs rs≠[]:=fun e=>by
     have:=JeN rs;rw[e]at this;exact hne (List.eq_nil_of_length_eq_zero (by simpa using this))
   obtain⟨q1,q2⟩:=JjG 1 (by unfold Jaz;omega) hR hz hne2;have hbne:(Ja1 rs).toList.isEmpty=false:=by
    rw[ByteArray.toList_eq,hb];show(encs rs).isEmpty=false
    cases h:encs rs with
    | nil=>exact absurd h hne2
    | cons a t=>rfl
   have HTT:=hdz hT
   have cA:Hid (∀W b v,Below w.heap.size w W->Jbr W b 1 []->opAt W v [⟨0,0,encs rs⟩]->Calls Tryz.prog 26 #[.pointer (some ⟨b,0,none⟩),v] W fun e w'=>e=.returned .nilIface/\Jbr w' b 1 rs/\Below b W w'):=fun W b v hB hs ho=>by
    have:=JkS b [] [⟨0,0,encs rs⟩] v W hs (fun r hr=>by cases hr) (by decide) (Go.Proofs.Utf8Tabs_below HTT.out hB) ho (fun q hq=>by
     obtain rfl:=List.mem_singleton.1 hq;refine⟨?_,?_,?_,?_,?_⟩<;>simp only<;>omega) (by simp) (fun q hq=>by
     obtain rfl:=List.mem_singleton.1 hq
     simp only;omega)
    rw[q1,q2,JeZ]at this;exact this
   have HBE:=hdz hb;generalize Ja1 rs=S at *;clear hT hR hz hl hb hsc q1 q2 hne hne2
   go_enter Tryz.func25,Tryz.ntmps25
   go_wp2_with (first
    | (go_at_call 78;refine Calls.mono cC.out ?_;rintro e w1 ⟨n1,n2,n3,n4,rfl,hb1⟩;have HB1:=hdz hb1;clear hb1)
    | (go_at_call 9999))
   refine(cA.out _ (w1.heap.size+1) _ ?hB ?hS ?hO).mono ?_
   case hB=>exact((HB1.out.alloc HB1.out.size _).alloc (Nat.le_trans HB1.out.size (by simp)) _).alloc (by have:=HB1.out.size;simp;omega) _
   case hS =>
    refine⟨by simp[go_sem],by simp[go_sem],none,0,0,by simp[go_sem],?_,fun a ha=>by cases ha⟩;rw[JcF];exact⟨rfl,.inl ⟨rfl,rfl,rfl⟩⟩
   case hO =>
    refine JjW (t:=50) (ps:=[⟨0,0,encs rs⟩]) (fz:=(0,0)) ?_ (by simp[maxLen]);rw[HBE.out];have h:=heap_alloc_new ((w1.alloc (.cells #[.int .i64 n1,.int .i64 n2,.int .i64 n3,.int .i64 n4] 25)).alloc (.cells #[.int .i64 1,.slice none 0 0,.slice none 0 0,.slice none 0 0] 160)) (.cells #[.int .i64 0,.int .i64 0,.string ⟨(encs rs).toArray⟩] 50);rw[wsa,World.size_alloc]at h;exact h
   rintro e w2 ⟨rfl,hs2,hb2⟩;have HS2:=hdz hs2;have HB2:=hdz hb2;clear hs2 hb2;go_wp2
   go_ret2
   have hsz:=HB1.out.size;refine⟨_,rfl,HS2.out,by omega,?_⟩;exact(((HB1.out.alloc HB1.out.size _).alloc (Nat.le_trans HB1.out.size (by simp)) _).alloc (by have:=HB1.out.size;simp;omega) _).trans (HB2.out.mono (by omega))
theorem Jmx(rs:List Nat)(hR:∀r∈rs,Jas r)(hz:C1 rs<=8000)(w:World)(hT:Lib.Utf8Tabs 2 3 w):Calls Tryz.prog 25 #[.int .i64 2,.string (Ja1 rs)] w fun e w'=>∃b,e=.returned (.tuple #[.pointer (some ⟨b,0,none⟩),.nilIface])/\Jbr w' b 2 rs/\w.heap.size<=b/\Below w.heap.size w w':=by
 have hl:=Jcf rs;have hb:(Ja1 rs)=⟨(encs rs).toArray⟩:=rfl;have hsc:(scan (encs rs)).2=true:=by rw[JbT rs hR]
 have cC:Hid (Calls Tryz.prog 78 #[.string (Ja1 rs)] w fun e w'=>∃n1 n2 n3 n4,e=.returned (.tuple #[.agg #[.int .i64 n1,.int .i64 n2,.int .i64 n3,.int .i64 n4],.nilIface])/\Below w.heap.size w w') :=
  (Je2 (Ja1 rs) (by rw[hb];simp[ByteArray.size];omega) w hT).mono fun e w' ⟨v,x,h1,h2,h3⟩=>by
    have e0:(Ja1 rs).data.toList=encs rs:=rfl;rw[e0]at h3
    rcases h3 with ⟨_,rfl,rfl⟩|⟨h4,_⟩
    . exact⟨_,_,_,_,h1,h2⟩
    . rw[hsc]at h4;cases h4
 by_cases hne:rs=[]
 . subst hne
   have hbe:Ja1 []=⟨#[]⟩:=rfl;rw[hbe]at cC ⊢;clear hT hR hz hl hb hsc hbe
   go_enter Tryz.func25,Tryz.ntmps25
   go_wp2_with (go_at_call 78;refine Calls.mono cC.out ?_;rintro e w1 ⟨n1,n2,n3,n4,rfl,hb1⟩;have HB1:=hdz hb1;clear hb1)
   go_ret2
   refine⟨_,rfl,?_,?_,(HB1.out.alloc HB1.out.size _).alloc (Nat.le_trans HB1.out.size (by simp)) _⟩
   . refine⟨by simp[go_sem],by simp[go_sem],none,0,0,by simp[go_sem],?_,fun a ha=>by cases ha⟩
     rw[JcF];exact⟨rfl,.inl ⟨rfl,rfl,rfl⟩⟩
   . have:=HB1.out.size;simp;omega
 . have hne2:encs rs≠[]:=fun e=>by
     have:=JeN rs;rw[e]at this;exact hne (List.eq_nil_of_length_eq_zero (by simpa using this))
   obtain⟨q1,q2⟩:=JjG 2 (by unfold Jaz;omega) hR hz hne2;have hbne:(Ja1 rs).toList.isEmpty=false:=by
    rw[ByteArray.toList_eq,hb];show(encs rs).isEmpty=false
    cases h:encs rs with
    | nil=>exact absurd h hne2
    | cons a t=>rfl
   have HTT:=hdz hT
   have cA:Hid (∀W b v,Below w.heap.size w W->Jbr W b 2 []->opAt W v [⟨0,0,encs rs⟩]->Calls Tryz.prog 26 #[.pointer (some ⟨b,0,none⟩),v] W fun e w'=>e=.returned .nilIface/\Jbr w' b 2 rs/\Below b W w'):=fun W b v hB hs ho=>by
    have:=JkR b [] [⟨0,0,encs rs⟩] v W hs (fun r hr=>by cases hr) (by decide) (Go.Proofs.Utf8Tabs_below HTT.out hB) ho (fun q hq=>by
     obtain rfl:=List.mem_singleton.1 hq;refine⟨?_,?_,?_,?_,?_⟩<;>simp only<;>omega) (by simp) (fun q hq=>by
     obtain rfl:=List.mem_singleton.1 hq
     simp only;omega)
    rw[q1,q2,JeZ]at this;exact this
   have HBE:=hdz hb;generalize Ja1 rs=S at *;clear hT hR hz hl hb hsc q1 q2 hne hne2
   go_enter Tryz.func25,Tryz.ntmps25
   go_wp2_with (first
    | (go_at_call 78;refine Calls.mono cC.out ?_;rintro e w1 ⟨n1,n2,n3,n4,rfl,hb1⟩;have HB1:=hdz hb1;clear hb1)
    | (go_at_call 9999))
   refine(cA.out _ (w1.heap.size+1) _ ?hB ?hS ?hO).mono ?_
   case hB=>exact((HB1.out.alloc HB1.out.size _).alloc (Nat.le_trans HB1.out.size (by simp)) _).alloc (by have:=HB1.out.size;simp;omega) _
   case hS =>
    refine⟨by simp[go_sem],by simp[go_sem],none,0,0,by simp[go_sem],?_,fun a ha=>by cases ha⟩;rw[JcF];exact⟨rfl,.inl ⟨rfl,rfl,rfl⟩⟩
   case hO =>
    refine JjW (t:=50) (ps:=[⟨0,0,encs rs⟩]) (fz:=(0,0)) ?_ (by simp[maxLen]);rw[HBE.out];have h:=heap_alloc_new ((w1.alloc (.cells #[.int .i64 n1,.int .i64 n2,.int .i64 n3,.int .i64 n4] 25)).alloc (.cells #[.int .i64 2,.slice none 0 0,.slice none 0 0,.slice none 0 0] 160)) (.cells #[.int .i64 0,.int .i64 0,.string ⟨(encs rs).toArray⟩] 50);rw[wsa,World.size_alloc]at h;exact h
   rintro e w2 ⟨rfl,hs2,hb2⟩;have HS2:=hdz hs2;have HB2:=hdz hb2;clear hs2 hb2;go_wp2
   go_ret2
   have hsz:=HB1.out.size;refine⟨_,rfl,HS2.out,by omega,?_⟩;exact(((HB1.out.alloc HB1.out.size _).alloc (Nat.le_trans HB1.out.size (by simp)) _).alloc (by have:=HB1.out.size;simp;omega) _).trans (HB2.out.mono (by omega))
theorem Jmw(rs:List Nat)(hR:∀r∈rs,Jas r)(hz:C1 rs<=8000)(w:World)(hT:Lib.Utf8Tabs 2 3 w):Calls Tryz.prog 25 #[.int .i64 3,.string (Ja1 rs)] w fun e w'=>∃b,e=.returned (.tuple #[.pointer (some ⟨b,0,none⟩),.nilIface])/\Jbr w' b 3 rs/\w.heap.size<=b/\Below w.heap.size w w':=by
 have hl:=Jcf rs;have hb:(Ja1 rs)=⟨(encs rs).toArray⟩:=rfl;have hsc:(scan (encs rs)).2=true:=by rw[JbT rs hR]
 have cC:Hid (Calls Tryz.prog 78 #[.string (Ja1 rs)] w fun e w'=>∃n1 n2 n3 n4,e=.returned (.tuple #[.agg #[.int .i64 n1,.int .i64 n2,.int .i64 n3,.int .i64 n4],.nilIface])/\Below w.heap.size w w') :=
  (Je2 (Ja1 rs) (by rw[hb];simp[ByteArray.size];omega) w hT).mono fun e w' ⟨v,x,h1,h2,h3⟩=>by
    have e0:(Ja1 rs).data.toList=encs rs:=rfl;rw[e0]at h3
    rcases h3 with ⟨_,rfl,rfl⟩|⟨h4,_⟩
    . exact⟨_,_,_,_,h1,h2⟩
    . rw[hsc]at h4;cases h4
 by_cases hne:rs=[]
 . subst hne
   have hbe:Ja1 []=⟨#[]⟩:=rfl;rw[hbe]at cC ⊢;clear hT hR hz hl hb hsc hbe
   go_enter Tryz.func25,Tryz.ntmps25
   go_wp2_with (go_at_call 78;refine Calls.mono cC.out ?_;rintro e w1 ⟨n1,n2,n3,n4,rfl,hb1⟩;have HB1:=hdz hb1;clear hb1)
   go_ret2
   refine⟨_,rfl,?_,?_,(HB1.out.alloc HB1.out.size _).alloc (Nat.le_trans HB1.out.size (by simp)) _⟩
   . refine⟨by simp[go_sem],by simp[go_sem],none,0,0,by simp[go_sem],?_,fun a ha=>by cases ha⟩
     rw[JcF];exact⟨rfl,.inl ⟨rfl,rfl,rfl⟩⟩
   . have:=HB1.out.size;simp;omega
 . have hne2:encs rs≠[]:=fun e=>by
     have:=JeN rs;rw[e]at this;exact hne (List.eq_nil_of_length_eq_zero (by simpa using this))
   obtain⟨q1,q2⟩:=JjG 3 (by unfold Jaz;omega) hR hz hne2;have hbne:(Ja1 rs).toList.isEmpty=false:=by
    rw[ByteArray.toList_eq,hb];show(encs rs).isEmpty=false
    cases h:encs rs with
    | nil=>exact absurd h hne2
    | cons a t=>rfl
   have HTT:=hdz hT
   have cA:Hid (∀W b v,Below w.heap.size w W->Jbr W b 3 []->opAt W v [⟨0,0,encs rs⟩]->Calls Tryz.prog 26 #[.pointer (some ⟨b,0,none⟩),v] W fun e w'=>e=.returned .nilIface/\Jbr w' b 3 rs/\Below b W w'):=fun W b v hB hs ho=>by
    have:=JkQ b [] [⟨0,0,encs rs⟩] v W hs (fun r hr=>by cases hr) (by decide) (Go.Proofs.Utf8Tabs_below HTT.out hB) ho (fun q hq=>by
     obtain rfl:=List.mem_singleton.1 hq;refine⟨?_,?_,?_,?_,?_⟩<;>simp only<;>omega) (by simp) (fun q hq=>by
     obtain rfl:=List.mem_singleton.1 hq
     simp only;omega)
    rw[q1,q2,JeZ]at this;exact this
   have HBE:=hdz hb;generalize Ja1 rs=S at *;clear hT hR hz hl hb hsc q1 q2 hne hne2
   go_enter Tryz.func25,Tryz.ntmps25
   go_wp2_with (first
    | (go_at_call 78;refine Calls.mono cC.out ?_;rintro e w1 ⟨n1,n2,n3,n4,rfl,hb1⟩;have HB1:=hdz hb1;clear hb1)
    | (go_at_call 9999))
   refine(cA.out _ (w1.heap.size+1) _ ?hB ?hS ?hO).mono ?_
   case hB=>exact((HB1.out.alloc HB1.out.size _).alloc (Nat.le_trans HB1.out.size (by simp)) _).alloc (by have:=HB1.out.size;simp;omega) _
   case hS =>
    refine⟨by simp[go_sem],by simp[go_sem],none,0,0,by simp[go_sem],?_,fun a ha=>by cases ha⟩;rw[JcF];exact⟨rfl,.inl ⟨rfl,rfl,rfl⟩⟩
   case hO =>
    refine JjW (t:=50) (ps:=[⟨0,0,encs rs⟩]) (fz:=(0,0)) ?_ (by simp[maxLen]);rw[HBE.out];have h:=heap_alloc_new ((w1.alloc (.cells #[.int .i64 n1,.int .i64 n2,.int .i64 n3,.int .i64 n4] 25)).alloc (.cells #[.int .i64 3,.slice none 0 0,.slice none 0 0,.slice none 0 0] 160)) (.cells #[.int .i64 0,.int .i64 0,.string ⟨(encs rs).toArray⟩] 50);rw[wsa,World.size_alloc]at h;exact h
   rintro e w2 ⟨rfl,hs2,hb2⟩;have HS2:=hdz hs2;have HB2:=hdz hb2;clear hs2 hb2;go_wp2
   go_ret2
   have hsz:=HB1.out.size;refine⟨_,rfl,HS2.out,by omega,?_⟩;exact(((HB1.out.alloc HB1.out.size _).alloc (Nat.le_trans HB1.out.size (by simp)) _).alloc (by have:=HB1.out.size;simp;omega) _).trans (HB2.out.mono (by omega))
end
end Go.Proofs.YtedgnlgjmnccgabGreatDoor
