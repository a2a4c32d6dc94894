/-
  A part of the texts that the proof uses.
-/
import Derived.Test.YtbkeomcicobohaaGreatDoorPartG
set_option maxRecDepth 100000
set_option maxHeartbeats 40000000
set_option linter.unusedVariables false
namespace Go.Proofs.YtbkeomcicobohaaGreatDoor
open Go.Proofs.Tryz Go.RowKit Go.Maps
section
variable {n bm lo b : Nat}{w : World}{M : Told}{t : List UInt8}{E : List SE}
abbrev Jip (M:Told) (c i:Int):Prop:=i<=(got M c).1
def stE (l0:Int) (t:List UInt8) (E:List SE) (M:Told) (c i rev:Int) (ps:List Pt):Int:=if Jip M c i then (if i<(got M c).1 then 8 else (got M c).2) else doE l0 t E rev ps
def stT (l0:Int) (t:List UInt8) (E:List SE) (M:Told) (c i rev:Int) (ps:List Pt):List UInt8:=if Jip M c i then t else doT l0 t E rev ps
def stL (l0:Int) (t:List UInt8) (E:List SE) (M:Told) (c i rev:Int) (ps:List Pt):List SE:=if Jip M c i then E else doL l0 t E c i rev ps
def stM (l0:Int) (t:List UInt8) (E:List SE) (M:Told) (c i rev:Int) (ps:List Pt):Told:=if Jip M c i then M else upd M c (i,doE l0 t E rev ps)
def stD (l0:Int) (t:List UInt8) (E:List SE) (D:List (List UInt8)) (M:Told) (c i rev:Int) (ps:List Pt):List (List UInt8):=if Jip M c i then D else doD l0 t E D rev ps
theorem JoW(h:Jf0 n w bm M):Jf0 (n+1) w bm M:=by
 obtain⟨D,⟨es,clock,hb,F,hn,hD⟩,h2⟩:=h;exact⟨D,⟨es,clock,hb,F,by omega,hD⟩,h2⟩
theorem Jri(h:Jcv lo n w b bm t E M):Jcv lo (n+1) w b bm t E M:=⟨h.1,h.2.1,h.2.2.1,JoW h.2.2.2⟩
theorem Jor(h:Jcv lo n w b bm t E M){l0:Int}(hk:okS l0 t E)(c i rev:Int)(hc:rng c)(v:Value)(ps:List Pt)(hg:JbM w)(hG:2<lo)(hT:Lib.Utf8Tabs 3 4 w)(hr:opAt w v ps)(hwf:∀p∈ps,wfP p)(hl:ps.length<=1000000)(hpu:Jaq ps<=40000)(hn:E.length<=300)(hnn:n<1000000000) :
    Cg 165 #[Pd b 0,I6 c,I6 i,I6 rev,v] w λe w'=>e=.returned (errV (stE l0 t E M c i rev ps))/\Jcv lo (n+1) w' b bm (stT l0 t E M c i rev ps) (stL l0 t E M c i rev ps) (stM l0 t E M c i rev ps)/\sameBut w w' (JdK lo w bm):=by
 unfold stE stT stL stM
 by_cases ho:Jip M c i
 . rw[if_pos ho,if_pos ho,if_pos ho,if_pos ho]
   refine(Jop h c i rev hc v ho).mono ?_;rintro e w' ⟨rfl,hb⟩;exact⟨rfl,Jri (Jc4 h hb),Jai hb _⟩
 . rw[if_neg ho,if_neg ho,if_neg ho,if_neg ho]
   exact Joq h hk c i rev hc v ps hg hG hT hr hwf hl hpu hn hnn (by unfold Jip at ho;omega)
theorem st_next{l0:Int}{D:List (List UInt8)}(h:okS l0 t E)(hD:okD l0 t E D){M:Told}{ps:List Pt}{c i rev:Int}(hp:Jaq ps<=40000):okS l0 (stT l0 t E M c i rev ps) (stL l0 t E M c i rev ps)/\okD l0 (stT l0 t E M c i rev ps) (stL l0 t E M c i rev ps) (stD l0 t E D M c i rev ps)/\(stL l0 t E M c i rev ps).length<=E.length+1:=by
 unfold stT stL stD
 by_cases ho:Jip M c i
 . rw[if_pos ho,if_pos ho,if_pos ho]
   exact⟨h,hD,Nat.le_succ _⟩
 . rw[if_neg ho,if_neg ho,if_neg ho]
   obtain⟨k1,k2⟩:=JuN (c:=c) (i:=i) (rev:=rev) h hD hp;refine⟨k1,k2,?_⟩;unfold doL
   split
   . simp
   . omega
end
section
variable {E : List SE}{D D' : List (List UInt8)}{n n' l0 : Int}{q : Int × Cl}
structure Pk where
 kind:Int
 c:Nat
 rev:Int
 id:Int
 x:SE
structure Rm where
 t:List UInt8
 E:List SE
 M:Told
 n:Nat
 cl:List (Int×Cl)
 fl:List Pk
 lost:Nat
def noSE:SE:=⟨0,0,[]⟩
def noCl:Int×Cl:=(1,⟨[],[],0,0,0,[]⟩)
def clK (R:Rm) (k:Nat):Int×Cl:=(R.cl[k]?).getD noCl
def setC (R:Rm) (k:Nat) (S:Cl):Rm:={ R with cl:=R.cl.set k ((clK R k).1,S) }
def JbK (R:Rm) (p:Pk):Rm:=if 400<=R.fl.length then { R with lost:=R.lost+1 } else { R with fl:=R.fl++[p] }
def Jeu (k:Nat):Int->List SE->Rm->Rm
 | _,[],R=>R
 | f,x :: xs,R=>Jeu k (f+1) xs (JbK R ⟨3,k,f,0,x⟩)
def JcJ (R:Rm) (k:Nat) (f:Int):Rm:=if f<0\/(R.E.length:Int)<f then R else Jeu k f (R.E.drop f.toNat) R
def srvR (l0:Int) (R:Rm) (p:Pk):Rm :=
 { R with t:=stT l0 R.t R.E R.M p.c p.id p.rev p.x.op,E:=stL l0 R.t R.E R.M p.c p.id p.rev p.x.op,M:=stM l0 R.t R.E R.M p.c p.id p.rev p.x.op,n:=R.n+1 }
def srvE (l0:Int) (R:Rm) (p:Pk):Int:=stE l0 R.t R.E R.M p.c p.id p.rev p.x.op
def Je9 (p:Pk):Pk:=⟨4,p.c,0,p.id,noSE⟩
def askR (l0:Int) (R:Rm) (p:Pk):Rm :=
 if srvE l0 R p≠0/\srvE l0 R p≠8 then JbK (JcJ (srvR l0 R p) p.c p.rev) (Je9 p) else JcJ (srvR l0 R p) p.c p.rev
def JcF (l0:Int) (R:Rm) (p:Pk):Rm :=
 if p.kind=1 then askR l0 R p else if p.kind=2 then JcJ R p.c p.rev
 else if p.kind=3 then setC R p.c (tkS p.c (clK R p.c).2 p.rev p.x.c p.x.i p.x.op)
 else if p.kind=4 then setC R p.c (rfS (clK R p.c).2 p.id) else R
def askP (R:Rm) (k:Nat):Pk :=
 if (clK R k).2.mine=[] then ⟨2,k,(clK R k).2.rev,0,noSE⟩ else ⟨1,k,(clK R k).2.rev,(clK R k).2.id,⟨k,(clK R k).2.id,JdC (clK R k).2⟩⟩
def JdO (R:Rm) (k:Nat):Rm:=JbK R (askP R k)
def Jmk (R:Rm) (k:Nat) (q:List Pt):Rm:=setC R k (edS (clK R k).1 (clK R k).2 q)
def outR (R:Rm) (i:Nat):Rm:={ R with fl:=R.fl.eraseIdx i }
def Jcn (l0:Int) (R:Rm) (i:Nat):Rm:=match R.fl[i]? with
 | some p=>JcF l0 (outR R i) p
 | none=>R
def Jdo (l0:Int):Nat->Rm->Rm
 | 0,R=>R
 | n+1,R=>match R.fl with
  | []=>R
  | p :: fl=>Jdo l0 n (JcF l0 { R with fl:=fl } p)
def wP (p:Pk):Nat:=if p.kind=1\/p.kind=2 then 400 else 1
def Jaz (fl:List Pk):Nat:=(fl.map wP).sum
def Jbw (l0:Int) (R:Rm):Rm:=Jdo l0 (Jaz R.fl) R
def Jd5 (l0:Int):Nat->Nat->Rm->Rm
 | 0,_,R=>R
 | n+1,k,R=>Jd5 l0 n (k+1) (Jbw l0 (JdO R k))
def JeI (l0:Int) (R:Rm):Rm:=Jd5 l0 R.cl.length 0 (Jbw l0 R)
def potR (R:Rm):Nat:=R.n+R.lost+Jaz R.fl
/-! what is kept -/
structure okCl (n:Int) (D:List (List UInt8)) (q:Int×Cl):Prop where
 unit:JaH q.1
 ok:okK 2000 q.2
 rev:0<=q.2.rev
 seen:D[q.2.rev.toNat]?=some q.2.seen
 id:0<=q.2.id/\q.2.id+(if 2<=q.2.mine.length then 1 else 0)<=n
 dr:0<=q.2.drops/\q.2.drops+(if q.2.mine=[] then 0 else 1)<=q.2.id
structure okPk (E:List SE) (D:List (List UInt8)) (m:Nat) (p:Pk):Prop where
 c:p.c<m
 kind:p.kind=1\/p.kind=2\/p.kind=3\/p.kind=4
 rev:0<=p.rev/\p.rev<=(E.length:Int)
 ask:p.kind=1->p.x.c=(p.c:Int)/\p.x.i=p.id/\∃d,D[p.rev.toNat]?=some d/\good p.x.op d/\Jaq p.x.op<=2000
 told:p.kind=3->E[p.rev.toNat]?=some p.x
structure Lk (E:List SE) (D:List (List UInt8)):Prop where
 len:D.length=E.length+1
 link:∀(i:Nat) (x:SE) (d:List UInt8),E[i]?=some x->D[i]?=some d->good x.op d/\D[i+1]?=some (Jae x.op d)
 fair:∀d∈D,V d/\d.length<=2000
structure Inv (l0 n:Int) (D:List (List UInt8)) (R:Rm):Prop where
 srv:okS l0 R.t R.E
 docs:okD l0 R.t R.E D
 lk:Lk R.E D
 few:R.E.length<=300
 cls:∀(k:Nat) (q:Int×Cl),R.cl[k]?=some q->okCl n D q
 pks:∀p∈R.fl,okPk R.E D R.cl.length p
 room:R.fl.length<=400
theorem Lk.at_(h:Lk E D){i:Nat}(hi:i<=E.length):∃d,D[i]?=some d/\V d/\d.length<=2000:=by
 have:i<D.length:=by have:=h.len;omega
 exact⟨D[i],lgg this,h.fair _ (List.getElem_mem this)⟩
theorem Lk.puts(h:Lk E D){i:Nat}{x:SE}(hx:E[i]?=some x):Jaq x.op<=2000:=by
 have hi:i<E.length:=(llt hx);obtain⟨d,hd,_,_⟩:=h.at_ (Nat.le_of_lt hi);obtain⟨g,h1⟩:=h.link i x d hx hd;have h2:=h.fair _ (List.mem_of_getElem? h1);have:=JoC g;omega
theorem okPk.more{E':List SE}{m:Nat}{p:Pk}(h:okPk E D m p)(hE:∀(i:Nat)(x:SE),E[i]?=some x->E'[i]?=some x)(hl:E.length<=E'.length)(hD:∀(i:Nat)(d:List UInt8),D[i]?=some d->D'[i]?=some d):okPk E' D' m p :=
 ⟨h.c,h.kind,⟨h.rev.1,by have:=h.rev.2;omega⟩,λhk=>by
  obtain⟨a,b,d,h1,h2⟩:=h.ask hk;exact⟨a,b,d,hD _ _ h1,h2⟩,λhk=>hE _ _ (h.told hk)⟩
theorem okCl.more(h:okCl n D q)(hn:n<=n')(hD:∀(i:Nat)(d:List UInt8),D[i]?=some d->D'[i]?=some d):okCl n' D' q :=
 ⟨h.unit,h.ok,h.rev,hD _ _ h.seen,⟨h.id.1,Int.le_trans h.id.2 hn⟩,h.dr⟩
theorem Inv.clk{R:Rm}(h:Inv l0 n D R){k:Nat}(hk:k<R.cl.length):R.cl[k]?=some (clK R k)/\okCl n D (clK R k):=by
 have e:R.cl[k]?=some (clK R k):=by unfold clK;rw[lgg hk];rfl
 exact⟨e,h.cls k _ e⟩
theorem okCl.revle(h:okCl n D q)(hl:Lk E D):q.2.rev<=(E.length:Int):=by
 have h1:=(llt h.seen);have:=hl.len;have:=h.rev;omega
theorem okCl.small(h:okCl n D q)(hl:Lk E D):q.2.seen.length<=2000:=(hl.fair _ (List.mem_of_getElem? h.seen)).2
/-! one client is turned -/
theorem Inv.setK{R:Rm}(h:Inv l0 n D R)(hn:n<=n'){k:Nat}{S:Cl}(hS:okCl n' D ((clK R k).1,S)):Inv l0 n' D (setC R k S):=by
 refine⟨h.srv,h.docs,h.lk,h.few,λj q hq=>?_,λp hp=>?_,h.room⟩
 . have hq:(R.cl.set k ((clK R k).1,S))[j]?=some q:=hq
   rw[List.getElem?_set]at hq
   split at hq
   . split at hq
     . obtain rfl:=osi hq;exact hS
     . cases hq
   . exact(h.cls j q hq).more hn λ_ _ h=>h
 . have:(R.cl.set k ((clK R k).1,S)).length=R.cl.length:=List.length_set
   have h1:=h.pks p hp;show okPk R.E D (R.cl.set k ((clK R k).1,S)).length p;rw[this];exact h1
theorem JsR(h:okCl n D q)(p:List Pt):okCl (n+1) D (q.1,edS q.1 q.2 p):=by
 have hk:=JuM h.unit h.ok p;have h2:=h.id;have h3:=h.dr;have h4:=h.ok.two;refine⟨h.unit,hk,?_,?_,?_,?_⟩
 . show 0<=(edS q.1 q.2 p).rev
   unfold edS;split<;>exact h.rev
 . show D[(edS q.1 q.2 p).rev.toNat]?=some (edS q.1 q.2 p).seen
   unfold edS;split<;>exact h.seen
 . show 0<=(edS q.1 q.2 p).id/\(edS q.1 q.2 p).id+(if 2<=(edS q.1 q.2 p).mine.length then 1 else 0)<=n+1
   unfold edS
   split
   . simp only
     rcases hm:q.2.mine with _|⟨m,_|⟨m2,ms⟩⟩
     . rw[hm]at h2;simp[addM]at h2 ⊢;omega
     . rw[hm]at h2;simp[addM]at h2 ⊢;omega
     . rw[hm]at h2;simp[addM]at h2 ⊢;omega
   . exact⟨h2.1,by omega⟩
 . show 0<=(edS q.1 q.2 p).drops/\(edS q.1 q.2 p).drops+(if (edS q.1 q.2 p).mine=[] then 0 else 1)<=(edS q.1 q.2 p).id
   unfold edS
   split
   . simp only
     rcases hm:q.2.mine with _|⟨m,_|⟨m2,ms⟩⟩
     . rw[hm]at h3;simp[addM]at h3 ⊢;omega
     . rw[hm]at h3;simp[addM]at h3 ⊢;omega
     . rw[hm]at h3;simp[addM]at h3 ⊢;omega
   . exact h3
theorem JoM(h:okCl n D q)(i:Int):okCl n D (q.1,rfS q.2 i):=by
 have hk:=Jrc h.ok i;have h2:=h.id;have h3:=h.dr;refine⟨h.unit,hk,?_,?_,?_,?_⟩
 . show 0<=(rfS q.2 i).rev
   unfold rfS;split<;>exact h.rev
 . show D[(rfS q.2 i).rev.toNat]?=some (rfS q.2 i).seen
   unfold rfS;split<;>exact h.seen
 . show 0<=(rfS q.2 i).id/\(rfS q.2 i).id+(if 2<=(rfS q.2 i).mine.length then 1 else 0)<=n
   unfold rfS
   split
   . refine⟨h2.1,?_⟩
     simp only[List.length_nil]
     split at h2<;>simp<;>omega
   . exact h2
 . show 0<=(rfS q.2 i).drops/\(rfS q.2 i).drops+(if (rfS q.2 i).mine=[] then 0 else 1)<=(rfS q.2 i).id
   unfold rfS
   split
   . rename_i hm
     rw[if_neg hm.1]at h3;simp only[if_true];omega
   . exact h3
theorem JsQ(h:okCl n D q)(hl:Lk E D)(who:Int){rev:Int}{x:SE}(hx:E[rev.toNat]?=some x):okCl n D (q.1,tkS who q.2 rev x.c x.i x.op):=by
 have hsm:=h.small hl;have hpu:=hl.puts hx;have hk:=JuL (who:=who) h.ok rev x.c x.i x.op (by omega);have h2:=h.id;have h3:=h.dr;have h4:=h.ok.two
 by_cases hn:rev≠q.2.rev\/tkE who q.2 rev x.c x.i x.op≠0
 . have e:tkS who q.2 rev x.c x.i x.op=q.2:=if_pos hn
   rw[e];exact h
 obtain⟨e1,_,_⟩:=tk_no hn;subst e1;obtain⟨g,hd⟩:=hl.link _ _ _ hx h.seen;have hr1:(q.2.rev+1).toNat=q.2.rev.toNat+1:=by have:=h.rev;omega
 have hr0:=h.rev
 by_cases ho:JoV who q.2 x.c x.i
 . have e:tkS who q.2 q.2.rev x.c x.i x.op = { q.2 with seen:=Jae x.op q.2.seen,rev:=q.2.rev+1,mine:=q.2.mine.tail,id:=if q.2.mine.tail≠[] then q.2.id+1 else q.2.id }:=by unfold tkS;rw[if_neg hn,if_pos ho]
   rw[e]at hk ⊢;refine⟨h.unit,hk,?_,?_,?_,?_⟩
   . show 0<=q.2.rev+1
     omega
   . show D[(q.2.rev+1).toNat]?=some (Jae x.op q.2.seen)
     rw[hr1];exact hd
   . simp only
     rcases hm:q.2.mine with _|⟨m,_|⟨m2,_|⟨m3,ms⟩⟩⟩
     . exact absurd hm ho.1
     . rw[hm]at h2;simp at h2 ⊢;omega
     . rw[hm]at h2;simp at h2 ⊢;omega
     . rw[hm]at h4;simp at h4
   . simp only
     rcases hm:q.2.mine with _|⟨m,_|⟨m2,_|⟨m3,ms⟩⟩⟩
     . exact absurd hm ho.1
     . rw[hm]at h3;simp at h3 ⊢;omega
     . rw[hm]at h3;simp at h3 ⊢;omega
     . rw[hm]at h4;simp at h4
 . have e:tkS who q.2 q.2.rev x.c x.i x.op = { q.2 with seen:=Jae x.op q.2.seen,rev:=q.2.rev+1,mine:=(JbV q.2.mine x.op).1,doc:=Jae (JbV q.2.mine x.op).2 q.2.doc }:=by unfold tkS;rw[if_neg hn,if_neg ho]
   rw[e]at hk ⊢;have hml:=JgI q.2.mine x.op;refine⟨h.unit,hk,?_,?_,?_,?_⟩
   . show 0<=q.2.rev+1
     omega
   . show D[(q.2.rev+1).toNat]?=some (Jae x.op q.2.seen)
     rw[hr1];exact hd
   . show 0<=q.2.id/\q.2.id+(if 2<=(JbV q.2.mine x.op).1.length then 1 else 0)<=n
     rw[hml];exact h2
   . show 0<=q.2.drops/\q.2.drops+(if (JbV q.2.mine x.op).1=[] then 0 else 1)<=q.2.id
     have:((JbV q.2.mine x.op).1=[])↔(q.2.mine=[]):=by
      rw[←List.length_eq_zero_iff,←List.length_eq_zero_iff,hml]
     simp only[this];exact h3
/-! packets -/
theorem Inv.send{R:Rm}(h:Inv l0 n D R){p:Pk}(hp:okPk R.E D R.cl.length p):Inv l0 n D (JbK R p):=by
 unfold JbK
 split
 . exact⟨h.srv,h.docs,h.lk,h.few,h.cls,h.pks,h.room⟩
 . refine ⟨h.srv,h.docs,h.lk,h.few,h.cls,λx hx=>?_,?_⟩
   . rcases List.mem_append.1 hx with hx|hx
     . exact h.pks x hx
     . rw[List.mem_singleton.1 hx];exact hp
   . show(R.fl++[p]).length<=400
     rw[List.length_append,List.length_singleton];omega
theorem Jdp(R:Rm)(p:Pk):(JbK R p).t=R.t/\(JbK R p).E=R.E/\(JbK R p).M=R.M/\(JbK R p).n=R.n/\(JbK R p).cl=R.cl:=by
 unfold JbK;split<;>exact⟨rfl,rfl,rfl,rfl,rfl⟩
theorem JiK(k:Nat):∀(xs:List SE)(f:Int)(R:Rm),(Jeu k f xs R).t=R.t/\(Jeu k f xs R).E=R.E/\(Jeu k f xs R).M=R.M/\(Jeu k f xs R).n=R.n/\(Jeu k f xs R).cl=R.cl
 | [],_,_=>⟨rfl,rfl,rfl,rfl,rfl⟩
 | x :: xs,f,R=>by
  obtain⟨a,b,c,d,e⟩:=JiK k xs (f+1) (JbK R ⟨3,k,f,0,x⟩);obtain⟨a',b',c',d',e'⟩:=Jdp R ⟨3,k,f,0,x⟩;exact⟨a.trans a',b.trans b',c.trans c',d.trans d',e.trans e'⟩
theorem Jfd(R:Rm)(k:Nat)(f:Int):(JcJ R k f).t=R.t/\(JcJ R k f).E=R.E/\(JcJ R k f).M=R.M/\(JcJ R k f).n=R.n/\(JcJ R k f).cl=R.cl:=by
 unfold JcJ
 split
 . exact⟨rfl,rfl,rfl,rfl,rfl⟩
 . exact JiK k _ _ _
theorem Inv.tellM{l0 n:Int}{D:List (List UInt8)}{k:Nat}:∀(xs:List SE)(f:Nat)(R:Rm),Inv l0 n D R->k<R.cl.length->R.E.drop f=xs->Inv l0 n D (Jeu k (f:Int) xs R)
 | [],_,_,h,_,_=>h
 | x :: xs,f,R,h,hk,hd=>by
  have hf:f<R.E.length:=by
   rcases Nat.lt_or_ge f R.E.length with h|h
   . exact h
   . rw[List.drop_eq_nil_of_le h]at hd;cases hd
  have hx:R.E[f]?=some x:=by
   rw[List.drop_eq_getElem_cons hf]at hd;injection hd with h1 h2;rw[lgg hf,h1]
  have hr:R.E.drop (f+1)=xs:=by
   rw[List.drop_eq_getElem_cons hf]at hd;injection hd with h1 h2
  obtain⟨_,b',_,_,e'⟩:=Jdp R ⟨3,k,f,0,x⟩;have h1:Inv l0 n D (JbK R ⟨3,k,f,0,x⟩):=h.send ⟨hk,.inr (.inr (.inl rfl)),⟨Int.natCast_nonneg _,by show(f:Int)<=_;omega⟩,λe=>(by cases e),λ_=>hx⟩;have:=Inv.tellM xs (f+1) _ h1 (by rw[e'];exact hk) (by rw[b'];exact hr);rw[show(((f+1:Nat):Int))=(f:Int)+1 by omega]at this;exact this
theorem Inv.tellK{R:Rm}(h:Inv l0 n D R){k:Nat}(hk:k<R.cl.length)(f:Int):Inv l0 n D (JcJ R k f):=by
 unfold JcJ
 split
 . exact h
 . rename_i hf
   obtain⟨m,rfl⟩:∃m:Nat,f=(m:Int):=⟨f.toNat,by omega⟩;rw[Int.toNat_natCast];exact Inv.tellM _ m R h hk rfl
theorem Inv.out{R:Rm}(h:Inv l0 n D R)(i:Nat):Inv l0 n D (outR R i) :=
 ⟨h.srv,h.docs,h.lk,h.few,h.cls,λp hp=>h.pks p (List.mem_of_mem_eraseIdx hp),Nat.le_trans (List.length_eraseIdx_le _ _) h.room⟩
theorem Inv.srvK{R:Rm}(h:Inv l0 n D R){p:Pk}(hp:okPk R.E D R.cl.length p)(hk:p.kind=1) :
    ∃D',Inv l0 n D' (srvR l0 R p)/\(∀(i:Nat) (d:List UInt8),D[i]?=some d->D'[i]?=some d)/\(∀(i:Nat) (x:SE),R.E[i]?=some x->(srvR l0 R p).E[i]?=some x)/\((srvR l0 R p).E=R.E/\(srvR l0 R p).t=R.t/\D'=D\/(srvR l0 R p).E.length=R.E.length+1/\D'=D++[(srvR l0 R p).t]):=by
 obtain⟨hc,hi,d,hd,hg,hpu⟩:=hp.ask hk;have hp4:Jaq p.x.op<=40000:=by omega
 obtain⟨n1,n2,n3⟩:=st_next (c:=p.c) (i:=p.id) (rev:=p.rev) (M:=R.M) h.srv h.docs hp4;have hE:(srvR l0 R p).E=stL l0 R.t R.E R.M p.c p.id p.rev p.x.op:=rfl;have ht:(srvR l0 R p).t=stT l0 R.t R.E R.M p.c p.id p.rev p.x.op:=rfl
 by_cases hsame:Jip R.M p.c p.id\/doE l0 R.t R.E p.rev p.x.op≠0
 . have e1:stL l0 R.t R.E R.M p.c p.id p.rev p.x.op=R.E:=by
     unfold stL
     by_cases ho:Jip R.M p.c p.id
     . rw[if_pos ho]
     . rw[if_neg ho];unfold doL;rw[if_neg (hsame.resolve_left ho)]
   have e2:stT l0 R.t R.E R.M p.c p.id p.rev p.x.op=R.t:=by
    unfold stT
    by_cases ho:Jip R.M p.c p.id
    . rw[if_pos ho]
    . rw[if_neg ho];unfold doT;rw[if_neg (hsame.resolve_left ho)]
   refine⟨D,⟨?_,?_,?_,?_,h.cls,λx hx=>?_,h.room⟩,λ_ _ h=>h,λi x hx=>by rw[hE,e1];exact hx,.inl ⟨by rw[hE,e1],by rw[ht,e2],rfl⟩⟩
   . rw[hE,ht,e1,e2];exact h.srv
   . rw[hE,ht,e1,e2];exact h.docs
   . rw[hE,e1];exact h.lk
   . rw[hE,e1];exact h.few
   . rw[hE,e1];exact h.pks x hx
 . have ho:¬Jip R.M p.c p.id:=λe=>hsame (.inl e)
   have hz:doE l0 R.t R.E p.rev p.x.op=0:=by
    by_cases e:doE l0 R.t R.E p.rev p.x.op=0
    . exact e
    . exact absurd (.inr e) hsame
   have e1:stL l0 R.t R.E R.M p.c p.id p.rev p.x.op=R.E++[⟨p.c,p.id,Jbq p.x.op (R.E.drop p.rev.toNat)⟩]:=by
    unfold stL;rw[if_neg ho];unfold doL;rw[if_pos hz]
   have e2:stT l0 R.t R.E R.M p.c p.id p.rev p.x.op=Jae (Jbq p.x.op (R.E.drop p.rev.toNat)) R.t:=by
    unfold stT;rw[if_neg ho];unfold doT;rw[if_pos hz]
   have e3:stD l0 R.t R.E D R.M p.c p.id p.rev p.x.op=D++[Jae (Jbq p.x.op (R.E.drop p.rev.toNat)) R.t]:=by
    unfold stD;rw[if_neg ho];unfold doD;rw[if_pos hz]
   have hf:R.E.length<300:=by
    unfold doE at hz
    split at hz
    . cases hz
    split at hz
    . cases hz
    . omega
   have hord:ordE (Jbq p.x.op (R.E.drop p.rev.toNat)) R.t=0:=by
    unfold doE at hz
    split at hz
    . cases hz
    split at hz
    . cases hz
    split at hz
    . rename_i h1;exact absurd hz h1
    split at hz
    . rename_i h1;exact absurd hz h1
    . rename_i h1;simpa using h1
   have hgt:=Jdu h.srv.text hord;generalize hop:Jbq p.x.op (R.E.drop p.rev.toNat)=op' at *;have hlen:=h.lk.len;have hlast:=h.docs.last;have hDm:∀(i:Nat) (d:List UInt8),D[i]?=some d->(D++[Jae op' R.t])[i]?=some d:=λi d hd=>by
    have:=(llt hd);rw[List.getElem?_append_left this];exact hd
   have hEm:∀(i:Nat) (x:SE),R.E[i]?=some x->(R.E++[(⟨p.c,p.id,op'⟩:SE)])[i]?=some x:=λi x hx=>by
    have:=(llt hx);rw[List.getElem?_append_left this];exact hx
   have hroom:=n1.room;rw[e2]at hroom
   have hlk:Lk (R.E++[⟨p.c,p.id,op'⟩]) (D++[Jae op' R.t]):=by
    refine⟨by simp[hlen],λi x d hx hd=>?_,λd hd=>?_⟩
    . rcases Nat.lt_or_ge i R.E.length with hi | hi
      . rw[List.getElem?_append_left hi]at hx
        rw[List.getElem?_append_left (by omega)]at hd;obtain⟨g,h1⟩:=h.lk.link i x d hx hd;exact⟨g,hDm _ _ h1⟩
      . have:i<(R.E++[(⟨p.c,p.id,op'⟩:SE)]).length:=(llt hx)
        have hie:i=R.E.length:=by simp at this;omega
        subst hie;rw[List.getElem?_append_right (nlr _),Nat.sub_self]at hx;obtain rfl:(⟨p.c,p.id,op'⟩:SE)=x:=by simpa using hx
        rw[List.getElem?_append_left (by omega),hlast]at hd;obtain rfl:=osi hd;refine⟨hgt,?_⟩;rw[←hlen,List.getElem?_append_right (nlr _),Nat.sub_self];rfl
    . rcases List.mem_append.1 hd with hd | hd
      . exact h.lk.fair d hd
      . rw[List.mem_singleton.1 hd]
        exact⟨JhN hgt.al,hroom⟩
   refine⟨D++[Jae op' R.t],⟨n1,?_,?_,?_,λk q hq=>(h.cls k q hq).more (Int.le_refl _) hDm,λx hx=>?_,h.room⟩,hDm,λi x hx=>by rw[hE,e1];exact hEm i x hx,.inr ⟨by rw[hE,e1];simp,by rw[ht,e2]⟩⟩
   . rw[←e3];exact n2
   . rw[hE,e1];exact hlk
   . rw[hE,e1];simp;omega
   . rw[hE,e1];exact(h.pks x hx).more hEm (by simp) hDm
end
section
variable {lo b : Nat}{w w' : World}{v : Value}{ms : List (List Pt)}{who u : Int}{S : Cl}
def Jdc (lo:Nat) (w:World) (v:Value) (ms:List (List Pt)):Prop :=
 ∃vs:List Value,vs.length=ms.length/\w.ownsRow lo 94 1 v ms.length vs/\∀(i:Nat) (m:List Pt) (x:Value),ms[i]?=some m->vs[i]?=some x->opX lo w x m
theorem Jds{lo:Nat}{w w':World}{v:Value}{ms:List (List Pt)}{S:Nat->Prop}(h:Jdc lo w v ms)(hs:sameBut w w' S)(hS:∀k,k<w.heap.size->S k->lo<=k/\Jdb w k)(hrow:∀k,v.ownBlock=some k->¬S k):Jdc lo w' v ms:=by
 obtain⟨vs,h1,h2,h3⟩:=h;exact⟨vs,h1,JcP h2 hs hrow,λi m x hm hx=>JbI (h3 i m x hm hx) hs hS⟩
theorem JbR(h:Jdc lo w v ms)(hb:Bw w w'):Jdc lo w' v ms :=
 Jds (S:=λ_=>False) h (Jai hb _) (λ_ _ h=>h.elim) λ_ _ h=>h.elim
theorem Jcf(h:Jdc lo w v ms):∃p c,v=.slice p ms.length c:=by
 obtain⟨vs,_,h2,_⟩:=h;exact Jak h2
theorem JkH(lo:Nat)(w:World):Jdc lo w (.slice none 0 0) []:=⟨[],rfl,World.ownsRow_nil _ _ _ _,λi m x hm=>by simp at hm⟩
theorem Jci(h:Jdc lo w v ms){k:Nat}(hk:v.ownBlock=some k):lo<=k/\k<w.heap.size/\∃cs,w.heap[k]?=some (Oc cs 94):=by
 obtain⟨vs,_,h2,_⟩:=h
 rcases h2.2 with ⟨rfl,_⟩|⟨g,cap,cur,rfl,h3,h4,_⟩
 . cases hk
 . obtain rfl:g=k:=osi hk
   exact⟨h3,(alt h4),_,h4⟩
def Jb7 (who u:Int) (S:Cl) (vm:Value):Array Value:=#[I6 who,I6 u,I6 S.rev,Sx S.seen,vm,Sx S.doc,I6 S.id,I6 S.drops]
def isCl (lo:Nat) (w:World) (b:Nat) (who u:Int) (S:Cl):Prop :=
 lo<=b/\∃vm,w.heap[b]?=some (Oc (Jb7 who u S vm) 90)/\Jdc lo w vm S.mine
def ownC (w:World) (b k:Nat):Prop:=k=b\/∃vm,w.cell? (Ad b 4)=some vm/\vm.ownBlock=some k
theorem Jcq(h:isCl lo w b who u S):b<w.heap.size:=by
 obtain⟨_,vm,h3,_⟩:=h;exact(alt h3)
theorem JfE(h:isCl lo w b who u S){k:Nat}(hk:ownC w b k):lo<=k/\k<w.heap.size/\∃cs T,w.heap[k]?=some (Oc cs T)/\(T=90\/T=94):=by
 obtain⟨h1,vm,h3,h4⟩:=h
 rcases hk with rfl|⟨vm',e,hk⟩
 . exact⟨h1,(alt h3),_,_,h3,.inl rfl⟩
 . have x4:=cQ h3 4 rfl
   rw[x4]at e;obtain rfl:=osi e;obtain⟨a,b,cs,c⟩:=Jci h4 hk;exact⟨a,b,cs,_,c,.inr rfl⟩
theorem JoK(h:isCl lo w b who u S){k:Nat}(hk:ownC w b k):Jdb w k:=by
 obtain⟨_,_,cs,T,h1,h2⟩:=JfE h hk;exact Ja8 h1 (by rcases h2 with rfl|rfl<;>decide)
theorem Jmc{lo:Nat}{w w':World}{b:Nat}{who u:Int}{S:Cl}{X:Nat->Prop}(h:isCl lo w b who u S)(hs:sameBut w w' X)(hX:∀k,k<w.heap.size->X k->lo<=k/\Jdb w k)(hn:∀k,X k->¬ownC w b k):isCl lo w' b who u S:=by
 obtain⟨h1,vm,h3,h4⟩:=h;have x4:=cQ h3 4 rfl;exact⟨h1,vm,(hs.2 b (alt h3) λe=>hn b e (.inl rfl)).trans h3,Jds h4 hs hX λk hk e=>hn k e (.inr ⟨vm,x4,hk⟩)⟩
theorem Jbm(h:isCl lo w b who u S)(hb:Bw w w'):isCl lo w' b who u S :=
 Jmc (X:=λ_=>False) h (Jai hb _) (λ_ _ h=>h.elim) λ_ h=>h.elim
theorem JfD{w w':World}{b k:Nat}{X:Nat->Prop}(hs:sameBut w w' X)(hb:b<w.heap.size)(hn:¬X b)(h:ownC w' b k):ownC w b k:=by
 rcases h with rfl|⟨vm,e,hk⟩
 . exact .inl rfl
 . exact .inr ⟨vm,(World.cell?_of_block (w:=w) (a:=(Ad b 4)) (hs.2 b hb hn)).symm.trans e,hk⟩
def keptC (w w':World) (b:Nat):Prop:=sameBut w w' (ownC w b)/\∀k,ownC w' b k->ownC w b k\/w.heap.size<=k
theorem JbG(h:Bw w w')(hb:b<w.heap.size):keptC w w' b :=
 ⟨Jai h _,λk hk=>.inl (JfD (X:=λ_=>False) (Jai h _) hb id hk)⟩
theorem keptC.trans{w'':World}(h:keptC w w' b)(h':keptC w' w'' b):keptC w w'' b :=
 ⟨h.1.comp h'.1 λk hk e=>(h.2 k e).elim id λhk'=>absurd hk (by omega),λk hk=>(h'.2 k hk).elim (h.2 k) λhk'=>.inr (Nat.le_trans h.1.1 hk')⟩
end
section
variable {e lo : Nat}{w w' : World}{v1 : Value}{ps : List Pk}
def JaT (p:Pk) (v:Value):List Value:=[I6 p.kind,I6 (p.c:Int),I6 p.rev,I6 p.id,I6 p.x.c,I6 p.x.i,v]
def pkC (ps:List Pk) (vs:List Value):List Value:=(ps.zip vs).flatMap λx=>JaT x.1 x.2
theorem Jjh:∀(ps:List Pk)(vs:List Value),vs.length=ps.length->(pkC ps vs).length=ps.length*7
 | [],[],_=>rfl
 | x :: E,v :: vs,h=>by
  have ih:=Jjh E vs (by simpa using h);have e:pkC (x :: E) (v :: vs)=JaT x v++pkC E vs:=rfl;rw[e,List.length_append,ih];simp[JaT];omega
theorem JsF:∀(ps:List Pk)(vs:List Value)(i:Nat)(x:Pk)(v:Value),ps[i]?=some x->vs[i]?=some v->∀j,j<7->(pkC ps vs)[i*7+j]?=(JaT x v)[j]?
 | [],_,_,_,_,h,_,_,_=>by simp at h
 | _ :: _,[],_,_,_,_,h,_,_=>by simp at h
 | y :: E,u :: vs,0,x,v,h,h2,j,hj=>by
  obtain rfl:y=x:=by simpa using h
  obtain rfl:u=v:=by simpa using h2
  have e:pkC (y :: E) (u :: vs)=JaT y u++pkC E vs:=rfl;rw[e,Nat.zero_mul,Nat.zero_add,List.getElem?_append_left (by simp[JaT];omega)]
 | y :: E,u :: vs,i+1,x,v,h,h2,j,hj=>by
  have ih:=JsF E vs i x v (by simpa using h) (by simpa using h2) j hj;have e:pkC (y :: E) (u :: vs)=JaT y u++pkC E vs:=rfl;have hl:(JaT y u).length=7:=rfl;rw[e,show(i+1)*7+j=(JaT y u).length+(i*7+j) by rw[hl];omega,List.getElem?_append_right (Nat.le_add_right _ _),Nat.add_sub_cancel_left];exact ih
theorem JoH(a b:List Pk)(vs us:List Value)(h:vs.length=a.length):pkC (a++b) (vs++us)=pkC a vs++pkC b us:=by
 unfold pkC;rw[List.zip_append h.symm,List.flatMap_append]
theorem JlP:∀(ps:List Pk)(vs:List Value)(i:Nat),vs.length=ps.length->(pkC ps vs).take (i*7)=pkC (ps.take i) (vs.take i)
 | _,_,0,_=>by simp[pkC]
 | [],[],i+1,_=>by simp[pkC]
 | x :: ps,v :: vs,i+1,h=>by
  have ih:=JlP ps vs i (by simpa using h);have e:pkC (x :: ps) (v :: vs)=JaT x v++pkC ps vs:=rfl;have e2:pkC ((x :: ps).take (i+1)) ((v :: vs).take (i+1))=JaT x v++pkC (ps.take i) (vs.take i):=rfl;have hl:(JaT x v).length=7:=rfl;rw[e,e2,List.take_append,hl,List.take_of_length_le (by rw[hl];omega),show(i+1)*7 - 7=i*7 by omega,ih]
theorem Ji0:∀(ps:List Pk)(vs:List Value)(i:Nat),vs.length=ps.length->(pkC ps vs).drop (i*7)=pkC (ps.drop i) (vs.drop i)
 | _,_,0,_=>by simp
 | [],[],i+1,_=>by simp[pkC]
 | x :: ps,v :: vs,i+1,h=>by
  have ih:=Ji0 ps vs i (by simpa using h);have e:pkC (x :: ps) (v :: vs)=JaT x v++pkC ps vs:=rfl;have hl:(JaT x v).length=7:=rfl;rw[e,List.drop_append,hl,List.drop_eq_nil_of_le (by rw[hl];omega),show(i+1)*7 - 7=i*7 by omega,List.nil_append];exact ih
def JfG (e:TypeId) (lo:Nat) (w:World) (v1:Value) (ps:List Pk):Prop :=
 ∃vs,vs.length=ps.length/\w.ownsRow lo e 7 v1 ps.length (pkC ps vs)/\∀(i:Nat) (x:Pk) (v:Value),ps[i]?=some x->vs[i]?=some v->opX lo w v x.x.op
theorem Jek{e lo:Nat}{w w':World}{v1:Value}{ps:List Pk}{S:Nat->Prop}(h:JfG e lo w v1 ps)(hs:sameBut w w' S)(hS:∀k,k<w.heap.size->S k->lo<=k/\Jdb w k/\∀cs fz,w.heap[k]?≠some (.cells cs e fz)):JfG e lo w' v1 ps:=by
 obtain⟨vs,h1,h2,h3⟩:=h;refine⟨vs,h1,JcP h2 hs λk hk hSk=>?_,λi x v hx hv=>JbI (h3 i x v hx hv) hs λk hk hSk=>⟨(hS k hk hSk).1,(hS k hk hSk).2.1⟩⟩
 rcases h2.2 with ⟨rfl,_⟩|⟨g,cap,cur,rfl,_,hg,_⟩
 . cases hk
 . obtain rfl:g=k:=osi hk
   exact(hS g (alt hg) hSk).2.2 _ _ hg
theorem JoU(h:JfG e lo w v1 ps)(hb:Bw w w'):JfG e lo w' v1 ps :=
 Jek (S:=λ_=>False) h (Jai hb _) λ_ _ h=>h.elim
theorem JoT(h:JfG e lo w v1 ps):∃p c,v1=.slice p ps.length c:=by
 obtain⟨vs,_,h2,_⟩:=h;exact Jak h2
theorem JeL(h:JfG e lo w v1 ps){k:Nat}(hk:v1.ownBlock=some k):lo<=k/\k<w.heap.size/\∃cs,w.heap[k]?=some (Oc cs e):=by
 obtain⟨vs,_,h2,_⟩:=h
 rcases h2.2 with ⟨rfl,_⟩|⟨g,cap,cur,rfl,h3,h4,_⟩
 . cases hk
 . obtain rfl:g=k:=osi hk
   exact⟨h3,(alt h4),_,h4⟩
theorem Jth(e lo:Nat)(w:World):JfG e lo w (.slice none 0 0) []:=⟨[],rfl,World.ownsRow_nil _ _ _ _,λi x v hx=>by simp at hx⟩
theorem JpU{p:Option Addr}{n c:Nat}(h:JfG e lo w (.slice p n c) ps)(hne:ps≠[]):∃g,p=some (Ad g 0)/\g<w.heap.size/\n=ps.length/\n<=c/\c<=maxLen/\∀i x,ps[i]?=some x->∃v,w.cell? (Ad g (i*7))=some (I6 x.kind)/\w.cell? (Ad g (i*7+1))=some (I6 (x.c:Int))/\w.cell? (Ad g (i*7+2))=some (I6 x.rev)/\w.cell? (Ad g (i*7+3))=some (I6 x.id)/\w.cell? (Ad g (i*7+4))=some (I6 x.x.c)/\w.cell? (Ad g (i*7+5))=some (I6 x.x.i)/\w.cell? (Ad g (i*7+6))=some v/\opX lo w v x.x.op:=by
 obtain⟨vs,h1,⟨h0,hrow⟩,h3⟩:=h
 rcases hrow with ⟨_,hz⟩|⟨g,cap,cur,hv,h4,h5,h6,h7,h8,h9⟩
 . exact absurd (List.eq_nil_of_length_eq_zero hz) hne
 . injection hv with hp hn hc
   subst hp hn hc;refine⟨g,rfl,(alt h5),rfl,h6,h7,λi x hx=>?_⟩;have hi:i<ps.length:=(llt hx);have hiv:i<vs.length:=by omega
   have hv:vs[i]?=some vs[i]:=lgg hiv;have hk:=JsF ps vs i x vs[i] hx hv
   have hc:∀j u,j<7->(JaT x vs[i])[j]?=some u->w.cell? (Ad g (i*7+j))=some u:=λj u hj hu=>by
    have hcur:cur[i*7+j]?=some u:=by
     rw[←Array.getElem?_toList];have:=congrArg (·[i*7+j]?) h9;simp only[List.getElem?_take,show i*7+j<ps.length*7 by omega,if_true]at this;rw[this,hk j hj,hu]
    unfold World.cell?;simp[h5,hcur]
   exact⟨vs[i],hc 0 _ (by omega) rfl,hc 1 _ (by omega) rfl,hc 2 _ (by omega) rfl,hc 3 _ (by omega) rfl,hc 4 _ (by omega) rfl,hc 5 _ (by omega) rfl,hc 6 _ (by omega) rfl,h3 i x vs[i] hx hv⟩
theorem Jrk{v2 vx:Value}{x:Pk}(he:e≠96){vs:List Value}(h1:vs.length=ps.length)(h2:w.ownsRow lo e 7 v1 ps.length (pkC ps vs))
    (h3:∀(i:Nat) (y:Pk) (v:Value),ps[i]?=some y->vs[i]?=some v->opX lo w v y.x.op) (hx:opX lo w vx x.x.op) (hg:w.grownBy w' v1.ownBlock) (hnew:w'.ownsRow lo e 7 v2 (ps.length+1) (pkC ps vs++JaT x vx)):JfG e lo w' v2 (ps++[x]):=by
 have hk:=λk=>JeL (k:=k) ⟨vs,h1,h2,h3⟩;have hs:sameBut w w' λk=>v1.ownBlock=some k:=Jbb hg λk e=>e;have hS:∀k,k<w.heap.size->v1.ownBlock=some k->lo<=k/\Jdb w k:=λk _ hkk=>by
  obtain⟨a,b,cs,c⟩:=hk k hkk;exact⟨a,Ja8 c he⟩
 refine⟨vs++[vx],by simp[h1],?_,λi y v hy hv=>?_⟩
 . rw[JoH ps [x] vs [vx] h1,List.length_append]
   have e:pkC [x] [vx]=JaT x vx:=by unfold pkC;simp
   rw[e];exact hnew
 . rcases Nat.lt_or_ge i ps.length with hi | hi
   . rw[List.getElem?_append_left hi]at hy
     rw[List.getElem?_append_left (by omega)]at hv;exact JbI (h3 i y v hy hv) hs hS
   . have:i<(ps++[x]).length:=(llt hy)
     have hie:i=ps.length:=by simp at this;omega
     subst hie;rw[List.getElem?_append_right (nlr _),Nat.sub_self]at hy;rw[List.getElem?_append_right (by omega),h1,Nat.sub_self]at hv;obtain rfl:x=y:=by simpa using hy
     obtain rfl:vx=v:=by simpa using hv
     exact JbI hx hs hS
end
section
variable {lo bmx r k b bx : Nat}{w w' : World}{bs : List Nat}{cl : List (Int × Cl)}{S : Cl}{R : Rm}
def ptrs (bs:List Nat):List Value:=bs.map λb=>Pd b 0
structure isCls (lo:Nat) (w:World) (bs:List Nat) (cl:List (Int×Cl)):Prop where
 len:bs.length=cl.length
 each:∀(k b:Nat) (q:Int×Cl),bs[k]?=some b->cl[k]?=some q->isCl lo w b (k:Int) q.1 q.2
 apart:∀(j k b b':Nat),bs[j]?=some b->bs[k]?=some b'->j≠k->∀x,ownC w b x->¬ownC w b' x
structure isRoom (lo:Nat) (w:World) (r bx bmx:Nat) (bs:List Nat) (R:Rm):Prop where
 low:lo<=r
 blk:∃vc vf,w.heap[r]?=some (Oc #[Pd bx 0,vc,vf,I6 (R.lost:Int)] 68)/\w.ownsRow lo 69 1 vc bs.length (ptrs bs)/\JfG 156 lo w vf R.fl
 cls:isCls lo w bs R.cl
 srv:Jcv lo R.n w bx bmx R.t R.E R.M
def Jfh (T:TypeId):Prop:=T=68\/T=156\/T=69\/T=84\/T=154\/T=90\/T=94
def JaE (lo:Nat) (w:World) (bmx k:Nat):Prop:=lo<=k/\(k=bmx\/∃cs T,w.heap[k]?=some (Oc cs T)/\Jfh T)
def Jsl (lo:Nat) (w:World) (k:Nat):Prop:=lo<=k/\∃cs T,w.heap[k]?=some (Oc cs T)/\(T=68\/T=156)
def ownF (w:World) (r k:Nat):Prop:=k=r\/∃v,w.cell? (Ad r 2)=some v/\v.ownBlock=some k
def keptF (w w':World) (r:Nat):Prop:=sameBut w w' (ownF w r)/\∀k,ownF w' r k->ownF w r k\/w.heap.size<=k
theorem Jdz(h:sameBut w w' (Jsl lo w)):sameBut w w' (JaE lo w bmx):=h.mono λk _ ⟨a,cs,T,hc,hT⟩=>⟨a,.inr ⟨cs,T,hc,by rcases hT with rfl|rfl<;>simp[Jfh]⟩⟩
theorem Jk6(hr:r<w.heap.size)(hb:Bw w w')(h:ownF w' r k):ownF w r k:=by
 rcases h with rfl|⟨v,e,hk⟩
 . exact .inl rfl
 . exact .inr ⟨v,(zC hb r 2 hr).symm.trans e,hk⟩
theorem Jdr(hr:r<w.heap.size)(hb:Bw w w'):keptF w w' r:=⟨Jai hb _,λk hk=>.inl (Jk6 hr hb hk)⟩
theorem keptF.trans{w'':World}(h:keptF w w' r)(h':keptF w' w'' r):keptF w w'' r :=
 ⟨h.1.comp h'.1 λk hk e=>(h.2 k e).elim id λhk'=>absurd hk (by omega),λk hk=>(h'.2 k hk).elim (h.2 k) λhk'=>.inr (Nat.le_trans h.1.1 hk')⟩
theorem Jeh{e size n:Nat}{v:Value}{xs:List Value}(h:w.ownsRow lo e size v n xs){k:Nat}(hk:v.ownBlock=some k):lo<=k/\k<w.heap.size/\∃cs,w.heap[k]?=some (Oc cs e):=by
 rcases h.2 with ⟨rfl,_⟩|⟨g,cap,cur,rfl,h3,h4,_⟩
 . cases hk
 . obtain rfl:g=k:=osi hk
   exact⟨h3,(alt h4),_,h4⟩
theorem JfH{lo:Nat}{w w':World}{bs:List Nat}{cl:List (Int×Cl)}{X:Nat->Prop}(h:isCls lo w bs cl)(hs:sameBut w w' X)(hX:∀k,k<w.heap.size->X k->lo<=k/\Jdb w k)(hn:∀b∈bs,∀k,X k->¬ownC w b k):isCls lo w' bs cl:=by
 have lt:∀(k b:Nat),bs[k]?=some b->b<w.heap.size:=λk b hb=>by
  have hk:k<cl.length:=by rw[←h.len];exact(llt hb)
  exact Jcq (h.each k b cl[k] hb (lgg hk))
 refine⟨h.len,λk b q hb hq=>Jmc (h.each k b q hb hq) hs hX (hn b (List.mem_of_getElem? hb)),λj k b b' hb hb' hjk x hx hx'=>?_⟩;have hx:=JfD hs (lt j b hb) (λe=>hn b (List.mem_of_getElem? hb) b e (.inl rfl)) hx;have hx':=JfD hs (lt k b' hb') (λe=>hn b' (List.mem_of_getElem? hb') b' e (.inl rfl)) hx';exact h.apart j k b b' hb hb' hjk x hx hx'
theorem JgA(h:isCls lo w bs cl)(hb:Bw w w'):isCls lo w' bs cl :=
 JfH (X:=λ_=>False) h (Jai hb _) (λ_ _ h=>h.elim) λ_ _ _ h=>h.elim
theorem Jtj{u:Int}(h:isCls lo w bs cl)(hb:bs[k]?=some b)(hc:isCl lo w' b (k:Int) u S)(hk:keptC w w' b):isCls lo w' bs (cl.set k (u,S)):=by
 obtain⟨hs,hnew⟩:=hk;have hq:∀(j b':Nat),bs[j]?=some b'->∃q,cl[j]?=some q/\isCl lo w b' (j:Int) q.1 q.2:=λj b' hb'=>by
  have hj:j<cl.length:=by rw[←h.len];exact(List.getElem?_eq_some_iff.1 hb').1
  exact⟨cl[j],lgg hj,h.each j b' cl[j] hb' (lgg hj)⟩
 obtain⟨q,hqk,hcl⟩:=hq k b hb;have hX:∀x,x<w.heap.size->ownC w b x->lo<=x/\Jdb w x:=λx _ hx=>⟨(JfE hcl hx).1,JoK hcl hx⟩;have old:∀(j b':Nat),bs[j]?=some b'->j≠k->∀x,ownC w' b' x->ownC w b' x:=λj b' hb' hjk x hx=>by
  obtain⟨q',_,hc'⟩:=hq j b' hb';exact JfD hs (Jcq hc') (λe=>h.apart k j b b' hb hb' (Ne.symm hjk) b' e (.inl rfl)) hx
 refine⟨by rw[h.len,List.length_set],λj b' q' hb' hq'=>?_,λi j c c' hc1 hc2 hij x hx hx'=>?_⟩
 . rw [List.getElem?_set]at hq'
   by_cases hjk:k=j
   . subst hjk
     rw[if_pos rfl]at hq'
     split at hq'
     . obtain rfl:=osi hq'
       rw[hb]at hb';obtain rfl:=osi hb';exact hc
     . cases hq'
   . rw[if_neg hjk]at hq'
     exact Jmc (h.each j b' q' hb' hq') hs hX λx hx hx'=>h.apart k j b b' hb hb' hjk x hx hx'
 . by_cases hik:i=k
   . subst hik
     rw[hb]at hc1;obtain rfl:=osi hc1;have hx':=old j c' hc2 (Ne.symm hij) x hx'
     rcases hnew x hx with hx|hx
     . exact h.apart i j b c' hb hc2 hij x hx hx'
     . obtain⟨q',_,hc'⟩:=hq j c' hc2
       exact absurd (JfE hc' hx').2.1 (by omega)
   . have hx:=old i c hc1 hik x hx
     by_cases hjk:j=k
     . subst hjk
       rw[hb]at hc2;obtain rfl:=osi hc2
       rcases hnew x hx' with hx' | hx'
       . exact h.apart i j c b hc1 hb hij x hx hx'
       . obtain⟨q',_,hc'⟩:=hq i c hc1
         exact absurd (JfE hc' hx).2.1 (by omega)
     . exact h.apart i j c c' hc1 hc2 hij x hx (old j c' hc2 hjk x hx')
theorem Jj8(h:isCls lo w bs cl){b:Nat}(hb:b∈bs){k:Nat}(hk:ownC w b k):lo<=k/\k<w.heap.size/\∃cs T,w.heap[k]?=some (Oc cs T)/\(T=90\/T=94):=by
 obtain⟨j,hj⟩:=List.mem_iff_getElem?.1 hb;have hjl:j<cl.length:=by rw[←h.len];exact(llt hj)
 exact JfE (h.each j b cl[j] hj (lgg hjl)) hk
theorem Jgf{lo:Nat}{w w':World}{r bx bmx:Nat}{bs:List Nat}{R:Rm}{X:Nat->Prop}(h:isRoom lo w r bx bmx bs R)(hs:sameBut w w' X)(hX:∀k,k<w.heap.size->X k->lo<=k/\Jdb w k/\k≠bmx/\∀cs T fz,w.heap[k]?=some (.cells cs T fz)->¬Jfh T):isRoom lo w' r bx bmx bs R:=by
 obtain⟨h1,⟨vc,vf,h2,h3,h4⟩,h5,h6⟩:=h;have hr:∀k cs T,w.heap[k]?=some (Oc cs T)->Jfh T->¬X k:=λk cs T hk hT hXk=>(hX k (alt hk) hXk).2.2.2 cs T _ hk hT;refine⟨h1,⟨vc,vf,(hs.2 r (alt h2) (hr r _ _ h2 (.inl rfl))).trans h2,JcP h3 hs λk hk=>?_,Jek h4 hs λk hk hXk=>?_⟩,JfH h5 hs (λk hk hXk=>⟨(hX k hk hXk).1,(hX k hk hXk).2.1⟩) λb hb k hXk hk=>?_,?_⟩
 . obtain⟨_,_,cs,hc⟩:=Jeh h3 hk
   exact hr k cs _ hc (.inr (.inr (.inl rfl)))
 . exact⟨(hX k hk hXk).1,(hX k hk hXk).2.1,λcs fz hc=>(hX k hk hXk).2.2.2 cs _ fz hc (.inr (.inl rfl))⟩
 . obtain⟨_,_,cs,T,hc,hT⟩:=Jj8 h5 hb hk
   exact hr k cs T hc (by rcases hT with rfl|rfl<;>simp[Jfh]) hXk
 . obtain⟨g1,g2,⟨v1,g3,g4⟩,g5⟩:=h6
   refine⟨g1,g2,⟨v1,(hs.2 bx (alt g3) (hr bx _ _ g3 (.inr (.inr (.inr (.inl rfl)))))).trans g3,?_⟩,JdU g5 hs λhk=>(hX bmx (Jnu g5) hk).2.2.1 rfl⟩;refine Jel (S:=λk=>k<w.heap.size/\X k) g4 ⟨hs.1,λk hk hn=>hs.2 k hk λe=>hn ⟨hk,e⟩,hs.os,hs.tape,hs.output⟩ λk hk=>?_;exact⟨(hX k hk.1 hk.2).1,(hX k hk.1 hk.2).2.1,λcs fz hc=>(hX k hk.1 hk.2).2.2.2 cs _ fz hc (.inr (.inr (.inr (.inr (.inl rfl)))))⟩
theorem Jal(h:isRoom lo w r bx bmx bs R)(hb:Bw w w'):isRoom lo w' r bx bmx bs R :=
 Jgf (X:=λ_=>False) h (Jai hb _) λ_ _ h=>h.elim
theorem Jbs(h:isRoom lo w r bx bmx bs R):r<w.heap.size:=by
 obtain⟨_,⟨vc,vf,h2,_⟩,_⟩:=h;exact(alt h2)
theorem Jb5(h:isRoom lo w r bx bmx bs R):∃pc cc pf cf,w.heap[r]?=some (Oc #[Pd bx 0,.slice pc bs.length cc,.slice pf R.fl.length cf,I6 (R.lost:Int)] 68)/\w.ownsRow lo 69 1 (.slice pc bs.length cc) bs.length (ptrs bs)/\JfG 156 lo w (.slice pf R.fl.length cf) R.fl:=by
 obtain⟨_,⟨vc,vf,h2,h3,h4⟩,_⟩:=h;obtain⟨pc,cc,rfl⟩:=Jak h3;obtain⟨pf,cf,rfl⟩:=JoT h4;exact⟨pc,cc,pf,cf,h2,h3,h4⟩
theorem Jft(h:isRoom lo w r bx bmx bs R)(hb:bs[k]?=some b)(hc:isCl lo w' b (k:Int) (clK R k).1 S)(hk:keptC w w' b):isRoom lo w' r bx bmx bs (setC R k S)/\sameBut w w' (JaE lo w bmx):=by
 obtain⟨h1,⟨vc,vf,h2,h3,h4⟩,h5,h6⟩:=h;have hown:=λx (hx:ownC w b x)=>Jj8 h5 (List.mem_of_getElem? hb) hx;have hty:∀x cs T fz,w.heap[x]?=some (.cells cs T fz)->ownC w b x->T=90\/T=94:=λx cs T fz hx ho=>by
  obtain⟨_,_,cs',T',hc',hT⟩:=hown x ho;rw[JaB hx hc'];exact hT
 refine⟨⟨h1,⟨vc,vf,(hk.1.2 r (alt h2) λe=>?_).trans h2,JcP h3 hk.1 λx hx e=>?_,Jek h4 hk.1 λx hx e=>?_⟩,Jtj h5 hb hc hk,Jfr h6 hk.1 λx hx e=>?_⟩,hk.1.mono λx hx e=>?_⟩
 . rcases hty r _ _ _ h2 e with e|e<;>revert e<;>decide
 . obtain⟨_,_,cs,hcs⟩:=Jeh h3 hx
   rcases hty x _ _ _ hcs e with e|e<;>revert e<;>decide
 . obtain⟨a,_,cs,T,hc',hT⟩:=hown x e
   refine⟨a,Ja8 hc' (by rcases hT with rfl|rfl<;>decide),λcs' fz hcs=>?_⟩
   rcases hty x _ _ _ hcs e with e|e<;>revert e<;>decide
 . obtain⟨a,_,cs,T,hc',hT⟩:=hown x e
   exact⟨a,cs,T,_,hc',by rcases hT with rfl|rfl<;>decide,by rcases hT with rfl|rfl<;>decide,by rcases hT with rfl|rfl<;>decide⟩
 . obtain⟨a,_,cs,T,hc',hT⟩:=hown x e
   exact⟨a,.inr ⟨cs,T,hc',by rcases hT with rfl|rfl<;>simp[Jfh]⟩⟩
theorem Jrj{R':Rm}(h:isRoom lo w r bx bmx bs R)(hs:Jcv lo R'.n w' bx bmx R'.t R'.E R'.M)(hk:sameBut w w' (JdK lo w bmx))(ec:R'.cl=R.cl)(ef:R'.fl=R.fl)(el:R'.lost=R.lost):isRoom lo w' r bx bmx bs R'/\sameBut w w' (JaE lo w bmx):=by
 obtain⟨h1,⟨vc,vf,h2,h3,h4⟩,h5,h6⟩:=h
 have hno:∀x cs T fz,w.heap[x]?=some (.cells cs T fz)->T≠84->T≠154->¬JdK lo w bmx x:=λx cs T fz hx t1 t2 e=>by
  rcases e.2 with rfl|⟨cs',T',hc',hT⟩
  . exact Jb0 h6.2.2.2 _ _ _ hx
  . have:=JaB hx hc'
    subst this
    rcases hT with e|e
    . exact t1 e
    . exact t2 e
 have hnp:∀x,JdK lo w bmx x->lo<=x/\Jdb w x:=λx e=>by
  refine⟨e.1,?_⟩
  rcases e.2 with rfl|⟨cs',T',hc',hT⟩
  . exact λcs fz=>Jb0 h6.2.2.2 cs _ fz
  . exact Ja8 hc' (by rcases hT with rfl|rfl<;>decide)
 rw[←el]at h2;rw[←ef]at h4;rw[←ec]at h5;refine⟨⟨h1,⟨vc,vf,(hk.2 r (alt h2) (hno r _ _ _ h2 (by decide) (by decide))).trans h2,JcP h3 hk λx hx=>?_,Jek h4 hk λx hx e=>⟨(hnp x e).1,(hnp x e).2,λcs fz hc=>hno x _ _ _ hc (by decide) (by decide) e⟩⟩,JfH h5 hk (λx _ e=>hnp x e) λb hb x e hx=>?_,hs⟩,hk.mono λx hx e=>?_⟩
 . obtain⟨_,_,cs,hcs⟩:=Jeh h3 hx
   exact hno x _ _ _ hcs (by decide) (by decide)
 . obtain⟨_,_,cs,T,hc,hT⟩:=Jj8 h5 hb hx
   exact hno x _ _ _ hc (by rcases hT with rfl|rfl<;>decide) (by rcases hT with rfl|rfl<;>decide) e
 . exact⟨e.1,e.2.imp id λ⟨cs,T,hc,hT⟩=>⟨cs,T,hc,by rcases hT with rfl|rfl<;>simp[Jfh]⟩⟩
theorem Jfs{lo:Nat}{w w':World}{r bx bmx:Nat}{bs:List Nat}{R R':Rm}{X:Nat->Prop}{vc vf:Value}(h:isRoom lo w r bx bmx bs R)(h2:w'.heap[r]?=some (Oc #[Pd bx 0,vc,vf,I6 (R'.lost:Int)] 68))(hc:∃a b c,w.heap[r]?=some (Oc #[a,vc,b,c] 68))
    (h4:JfG 156 lo w' vf R'.fl) (hs:sameBut w w' X) (hX:∀k,k<w.heap.size->X k->lo<=k/\∃cs T,w.heap[k]?=some (Oc cs T)/\(T=68\/T=156)) (e1:R'.n=R.n) (e2:R'.t=R.t) (e3:R'.E=R.E) (e4:R'.M=R.M) (e5:R'.cl=R.cl):isRoom lo w' r bx bmx bs R':=by
 obtain⟨h1,⟨vc0,vf0,g2,g3,g4⟩,h5,h6⟩:=h;have evc:vc0=vc:=by
  obtain⟨a,b,c,hc⟩:=hc;rw[g2]at hc;injection hc with hc;injection hc with hc;have:=congrArg (λx:Array Value=>x[1]?) hc;simpa using this
 subst evc;have hno:∀x cs T fz,x<w.heap.size->w.heap[x]?=some (.cells cs T fz)->T≠68->T≠156->¬X x:=λx cs T fz hlt hx t1 t2 e=>by
  obtain⟨_,cs',T',hc',hT⟩:=hX x hlt e;have:=JaB hx hc';subst this
  rcases hT with e|e
  . exact t1 e
  . exact t2 e
 refine⟨h1,⟨vc0,vf,h2,JcP g3 hs λx hx=>?_,h4⟩,?_,?_⟩
 . obtain⟨_,hlt,cs,hcs⟩:=Jeh g3 hx
   exact hno x _ _ _ hlt hcs (by decide) (by decide)
 . rw [e5]
   refine JfH h5 hs (λx hx e=>?_) λb hb x e hx=>?_
   . obtain⟨a,cs,T,hc,hT⟩:=hX x hx e
     exact⟨a,Ja8 hc (by rcases hT with rfl|rfl<;>decide)⟩
   . obtain⟨_,hlt,cs,T,hc,hT⟩:=Jj8 h5 hb hx
     exact hno x _ _ _ hlt hc (by rcases hT with rfl|rfl<;>decide) (by rcases hT with rfl|rfl<;>decide) e
 . rw[e1,e2,e3,e4]
   refine Jfr h6 hs λx hx e=>?_;obtain⟨a,cs,T,hc,hT⟩:=hX x hx e;exact⟨a,cs,T,_,hc,by rcases hT with rfl|rfl<;>decide,by rcases hT with rfl|rfl<;>decide,by rcases hT with rfl|rfl<;>decide⟩
theorem JoJ(h:isRoom lo w r bx bmx bs R){k:Nat}(hk:ownF w r k):lo<=k/\k<w.heap.size/\∃cs T,w.heap[k]?=some (Oc cs T)/\(T=68\/T=156):=by
 obtain⟨h1,⟨vc,vf,h2,h3,h4⟩,_,_⟩:=h
 rcases hk with rfl|⟨v,e,hk⟩
 . exact⟨h1,(alt h2),_,_,h2,.inl rfl⟩
 . have x2:=cQ h2 2 rfl
   rw[x2]at e;obtain rfl:=osi e;obtain⟨a,b,cs,hc⟩:=JeL h4 hk;exact⟨a,b,cs,_,hc,.inr rfl⟩
theorem keptF.touch(hf:keptF w w' r)(h:isRoom lo w r bx bmx bs R):sameBut w w' (Jsl lo w):=hf.1.mono λk _ hk=>by
 obtain⟨a,_,cs,T,hc,hT⟩:=JoJ h hk;exact⟨a,cs,T,hc,hT⟩
end
section
attribute [local go_sem] Oper.semAt_some
variable {lo r bx bmx : Nat}{w : World}{bs : List Nat}{R : Rm}
theorem JeH(h:isRoom lo w r bx bmx bs R) :
    Cg 111 #[Pd r 0] w λe w'=>∃pc cc pf cf,e=.returned (.agg #[Pd bx 0,.slice pc bs.length cc,.slice pf R.fl.length cf,I6 (R.lost:Int)])/\w.ownsRow lo 69 1 (.slice pc bs.length cc) bs.length (ptrs bs)/\JfG 156 lo w (.slice pf R.fl.length cf) R.fl/\Bw w w':=by
 obtain⟨pc,cc,pf,cf,h2,h3,h4⟩:=Jb5 h;have H3:=hdz h3;have H4:=hdz h4;have x0:=cQ h2 0 rfl;have x1:=cQ h2 1 rfl;have x2:=cQ h2 2 rfl;have x3:=cQ h2 3 rfl;have hrl:r<w.heap.size:=Jbs h;clear h h2 h3 h4
 go_enter func111,ntmps111
 go_wp2;refine bodyPost_ret (v:=.agg #[Pd bx 0,.slice pc bs.length cc,.slice pf R.fl.length cf,I6 (R.lost:Int)]) (by simp[results,results111,go_sem]) rfl ⟨_,_,_,_,rfl,H3.out,H4.out,?_⟩;exact zA _ _
theorem rmF0(a:Addr)(p q:Option Addr)(n m n' m':Nat)(x:Int)(w:World):(Instr.field 68 (.agg #[.pointer (some a),.slice p n m,.slice q n' m',I6 x]) 0).run prog w=.ok (.pointer (some a)) w:=by kernel_rfl
theorem rmF1(a:Addr)(p q:Option Addr)(n m n' m':Nat)(x:Int)(w:World):(Instr.field 68 (.agg #[.pointer (some a),.slice p n m,.slice q n' m',I6 x]) 1).run prog w=.ok (.slice p n m) w:=by kernel_rfl
theorem rmF2(a:Addr)(p q:Option Addr)(n m n' m':Nat)(x:Int)(w:World):(Instr.field 68 (.agg #[.pointer (some a),.slice p n m,.slice q n' m',I6 x]) 2).run prog w=.ok (.slice q n' m') w:=by kernel_rfl
theorem rmF3(a:Addr)(p q:Option Addr)(n m n' m':Nat)(x:Int)(w:World):(Instr.field 68 (.agg #[.pointer (some a),.slice p n m,.slice q n' m',I6 x]) 3).run prog w=.ok (I6 x) w:=by kernel_rfl
attribute [local go_sem] rmF0 rmF1 rmF2 rmF3
theorem Jga(h:isRoom lo w r bx bmx bs R) :
    Cg 63 #[Pd r 0] w (Rt w (I6 (R.fl.length:Int))):=by
 have C:Hid _:=JeH h;clear h
 go_enter func63,ntmps63
 go_wp2_with (go_at_call 111;refine Calls.mono C.out ?_;rintro e w1 ⟨pc,cc,pf,cf,rfl,_,_,hb1⟩;have HB1:=hdz hb1;clear hb1)
 go_ret;exact⟨rfl,HB1.out⟩
theorem JqM(h:isRoom lo w r bx bmx bs R) :
    Cg 72 #[Pd r 0] w (Rt w (Sx R.t)):=by
 have C:Hid _:=JeH h;have CT:=hdz λwx (hb:Bw w wx)=>Joo _ _ _ bx bmx R.t R.E R.M (Jc4 h.srv hb);clear h
 go_enter func72,ntmps72
 go_wp2_with (first
  | (go_at_call 111;refine Calls.mono C.out ?_;rintro e w1 ⟨pc,cc,pf,cf,rfl,_,_,hb1⟩;have HB1:=hdz hb1;clear hb1)
  | (go_at_call 116;refine(CT.out _ HB1.out).mono ?_;rintro e w2 ⟨hw,rfl⟩;obtain rfl:=hw.symm))
 go_ret;exact⟨rfl,HB1.out⟩
theorem Js4(h:isRoom lo w r bx bmx bs R) :
    Cg 71 #[Pd r 0] w (Rt w (I6 (R.E.length:Int))):=by
 have C:Hid _:=JeH h;have CT:=hdz λwx (hb:Bw w wx)=>Jkv _ _ _ bx bmx R.t R.E R.M (Jc4 h.srv hb);clear h
 go_enter func71,ntmps71
 go_wp2_with (first
  | (go_at_call 111;refine Calls.mono C.out ?_;rintro e w1 ⟨pc,cc,pf,cf,rfl,_,_,hb1⟩;have HB1:=hdz hb1;clear hb1)
  | (go_at_call 115;refine(CT.out _ HB1.out).mono ?_;rintro e w2 ⟨hw,rfl⟩;obtain rfl:=hw.symm))
 go_ret;exact⟨rfl,HB1.out⟩
theorem Ju9{e n m c:Nat}{p:Option Addr}{xs:List Value}(h:w.ownsRow lo e 1 (.slice p m c) n xs){k:Nat}{u:Value}(hk:xs[k]?=some u):∃g,p=some (Ad g 0)/\g<w.heap.size/\w.cell? (Ad g k)=some u:=by
 have hkl:=(llt hk);obtain⟨h0,hrow⟩:=id h
 rcases hrow with ⟨e,hz⟩|⟨g,cap,cur,e,h3,h4,_⟩
 . rw[hz]at h0;rw[h0]at hkl;exact absurd hkl (by omega)
 . injection e with e1 _ _
   subst e1;refine⟨g,rfl,(alt h4),?_⟩;have:=World.ownsRow.cells (g:=g) h rfl k u hk;rw[Addr.add_lit,Nat.zero_add]at this;exact this
theorem JpE{k b:Nat}(h:bs[k]?=some b):(ptrs bs)[k]?=some (Pd b 0):=by unfold ptrs;rw[List.getElem?_map,h];rfl
theorem Jjc(h:isRoom lo w r bx bmx bs R){k b:Nat}(hb:bs[k]?=some b)(hm:bs.length<=1000) :
    Cg 95 #[Pd r 0,I6 (k:Int)] w (Rt w (.tuple #[Pd b 0,.nilIface])):=by
 have C:Hid _:=JeH h;have hk:k<bs.length:=(llt hb);have HB0:=hdz hb;have hk1:(k:Int)<(bs.length:Int):=by omega
 have hk2:¬(bs.length:Int)<=(k:Int):=by omega
 have hk3:¬(k:Int)<0:=by omega
 have hk4:(bs.length:Int)<=1000:=by omega
 clear h hb
 go_enter func95,ntmps95
 go_wp2_with (go_at_call 111;refine Calls.mono C.out ?_;rintro e w1 ⟨pc,cc,pf,cf,rfl,h3,_,hb1⟩;have HB1:=hdz hb1;obtain⟨g,epc,hgl,hgc0⟩:=Ju9 h3 (JpE HB0.out);subst epc;have hgc:w1.cell? (Ad g k)=some (Pd b 0):=(zC hb1 g k hgl).trans hgc0;clear hb1 h3 hgc0)
 go_ret2
 exact⟨rfl,HB1.out⟩
theorem Jib(h:isRoom lo w r bx bmx bs R)(k:Int)(hk:k<0\/(bs.length:Int)<=k) :
    Cg 95 #[Pd r 0,I6 k] w (Rt w (.tuple #[.pointer none,.iface 25 (I6 2)])):=by
 have C:Hid _:=JeH h;clear h
 by_cases hk0:k<0
 . clear hk
   go_enter func95,ntmps95
   go_wp2_with (go_at_call 111;refine Calls.mono C.out ?_;rintro e w1 ⟨pc,cc,pf,cf,rfl,_,_,hb1⟩;have HB1:=hdz hb1;clear hb1)
   go_ret2
   exact⟨rfl,HB1.out⟩
 . have hk1:(bs.length:Int)<=k:=by omega
   clear hk
   go_enter func95,ntmps95
   go_wp2_with (go_at_call 111;refine Calls.mono C.out ?_;rintro e w1 ⟨pc,cc,pf,cf,rfl,_,_,hb1⟩;have HB1:=hdz hb1;clear hb1)
   go_ret2
   exact⟨rfl,HB1.out⟩
end
def JeT (bs:List Nat) (o:Option Int) (e:Ending):Prop :=
 match o with
 | none=>e=JaA 3
 | some k=>if 0<=k/\k<(bs.length:Int) then ∃b,bs[k.toNat]?=some b/\e=.returned (Pd b 0) else e=JaA 2
theorem Jpj(s:List UInt8)(hs:s.length<=1000000)(q r:Nat)(w:World)(he:EnvK w)(hq:w.cell? (Ad q 0)=some (Pd r 0))(hn:numW s=none) :
    Cg 54 #[Pd q 0,Sx s] w λe w'=>e=JaA 3/\Bw w w':=by
 have CN:Hid (∀wx,Bw w wx->Cg 57 #[Sx s] wx λe w'=>e=JaA 3/\Bw wx w'):=λwx hb=>by
  have:=Jda s hs wx (he.below hb);rw[hn]at this;exact this
 clear he hn
 go_enter func54,ntmps54
 go_wp2
 go_region_dies
 all_goals
  refine(CN.out w.drew (brf _ w).drew).mono ?_;rintro e w1 ⟨rfl,h⟩;exact⟨rfl,rfl,((brf w.heap.size w).drew).trans h⟩
theorem Jj9(s:List UInt8)(hs:s.length<=1000000)(q r:Nat)(w:World)(he:EnvK w)(hg:JbM w)(hq:w.cell? (Ad q 0)=some (Pd r 0))(k:Int)(hn:numW s=some k)(v:Value)(n:Int)
    (hC:∀wx,Bw w wx->Cg 95 #[Pd r 0,I6 k] wx (Rt wx (.tuple #[v,errV n]))) :
    Cg 54 #[Pd q 0,Sx s] w λe w'=>e=(if n=0 then .returned v else JaA n)/\Bw w w':=by
 have CN:Hid (∀wx,Bw w wx->Cg 57 #[Sx s] wx (Rt wx (I6 k))):=λwx hb=>by
  have:=Jda s hs wx (he.below hb);rw[hn]at this;exact this
 have CC:=hdz hC;have CM:Hid (∀wx,Bw w wx->Cg 52 #[errV n] wx λe w'=>e=(if n=0 then .returned (.tuple #[]) else JaA n)/\Bw wx w'):=λwx hb=>Je3 n wx (JaQ hg hb);generalize errV n=ve at *;clear he hn hg hC
 by_cases h0:n=0
 . have CM2:Hid (∀wx,Bw w wx->Cg 52 #[ve] wx (Rt wx (.tuple #[]))):=λwx hb=>by have:=CM.out wx hb;rw[if_pos h0]at this;exact this
   rw[if_pos h0];clear CM h0
   go_enter func54,ntmps54
   go_wp2
   go_region_with (first
    | (go_at_call 57;refine(CN.out _ (brf _ w).drew).mono ?_;rintro e w1 ⟨rfl,h⟩;have HB1:Hid (Bw w w1):=((brf w.heap.size w).drew).trans h;have hq1:=(zC HB1.out q 0 (blt w _ hq)).trans hq;clear h)
    | (go_at_call 95;refine(CC.out _ HB1.out).mono ?_;rintro e w2 ⟨rfl,h⟩;have HB2:=hdz (HB1.out.trans (h.mono HB1.out.size));clear h))
   all_goals
    go_wp2_with (go_at_call 52;refine(CM2.out _ HB2.out).mono ?_;rintro e w3 ⟨rfl,h⟩;have HB3:=hdz (HB2.out.trans (h.mono HB2.out.size));clear h)
    go_ret;exact⟨rfl,HB3.out⟩
 . have CM2:Hid (∀wx,Bw w wx->Cg 52 #[ve] wx λe w'=>e=JaA n/\Bw wx w'):=λwx hb=>by have:=CM.out wx hb;rw[if_neg h0]at this;exact this
   rw[if_neg h0];clear CM h0
   go_enter func54,ntmps54
   go_wp2
   go_region_with (first
    | (go_at_call 57;refine(CN.out _ (brf _ w).drew).mono ?_;rintro e w1 ⟨rfl,h⟩;have HB1:Hid (Bw w w1):=((brf w.heap.size w).drew).trans h;have hq1:=(zC HB1.out q 0 (blt w _ hq)).trans hq;clear h)
    | (go_at_call 95;refine(CC.out _ HB1.out).mono ?_;rintro e w2 ⟨rfl,h⟩;have HB2:=hdz (HB1.out.trans (h.mono HB1.out.size));clear h))
   all_goals
    go_wp2_with (go_at_call 52;refine(CM2.out _ HB2.out).mono ?_;rintro e w3 ⟨rfl,h⟩;unfold JaA;have HB3:=hdz (HB2.out.trans (h.mono HB2.out.size));clear h)
    exact⟨rfl,rfl,HB3.out⟩
theorem Jgj{lo:Nat}{r bx bmx:Nat}{bs:List Nat}{R:Rm}(s:List UInt8)(hs:s.length<=1000000)(q:Nat)(w:World)(he:EnvK w)(hg:JbM w)(hq:w.cell? (Ad q 0)=some (Pd r 0))(h:isRoom lo w r bx bmx bs R)(hm:bs.length<=1000) :
    Cg 54 #[Pd q 0,Sx s] w λe w'=>JeT bs (numW s) e/\Bw w w':=by
 cases hn:numW s with
 | none=>exact Jpj s hs q r w he hq hn
 | some k =>
  unfold JeT
  by_cases hk:0<=k/\k<(bs.length:Int)
  . have hlt:k.toNat<bs.length:=by omega
    have hb:bs[k.toNat]?=some bs[k.toNat]:=lgg hlt;have e:((k.toNat:Nat):Int)=k:=by omega
    refine(Jj9 s hs q r w he hg hq k hn (.pointer (some (Ad (bs[k.toNat]) 0))) 0 λwx hbw=>?_).mono ?_
    . have:=Jjc (Jal h hbw) hb hm
      rw[e]at this;exact this
    . rintro e w' ⟨rfl,h2⟩
      exact⟨by simp only[if_pos hk];exact⟨_,hb,rfl⟩,h2⟩
  . refine(Jj9 s hs q r w he hg hq k hn (.pointer none) 2 λwx hbw=>Jib (Jal h hbw) k (by omega)).mono ?_
    rintro e w' ⟨rfl,h2⟩;exact⟨by simp only[if_neg hk];rfl,h2⟩
theorem JjD{B b:Nat}{bs:List Value}{w w1 w2:World}{p p':Option Addr}{c c':Nat}{z:Int}{o:Obj}(hB:B<=b)(hBw:B<=w.heap.size)
    (hbk:w1.heap[b]?=some (Oc #[Pd b 0,.slice p bs.length c] 31)) (hown:w1.ownsRow B 5 1 (.slice p bs.length c) bs.length bs) (hne:(Value.slice p bs.length c).ownBlock≠some b)
    (hb1:Below B w w1) (hk1:Lib.OthersKept 5 (some b) w w1) (hown':w2.ownsRow B 5 1 (.slice p' (bs.length+1) c') (bs.length+1) (bs++[.int .u8 z])) (hg:(w1.alloc o).grownBy w2 (Value.slice p bs.length c).ownBlock) :
    w2.cell? (Ad b 0)=some (Pd b 0)/\w2.cell? (Ad b 1)=some (.slice p bs.length c)/\w2.frozen? (Ad b 1)=false /\
    (Lib.IsBuilder 31 5 B b (bs++[.int .u8 z]) (w2.setCell (Ad b 1) (.slice p' (bs.length+1) c'))/\Below B w (w2.setCell (Ad b 1) (.slice p' (bs.length+1) c'))/\Lib.OthersKept 5 (some b) w (w2.setCell (Ad b 1) (.slice p' (bs.length+1) c'))):=by
 have hlt:b<w1.heap.size:=(alt hbk);have hb2:w2.heap[b]?=some (Oc #[Pd b 0,.slice p bs.length c] 31):=by
  rw[hg.block b (by rw[wsa];omega) (λe=>hne e.symm)];exact(((brf _ w1).alloc (nlr _) _).block b hlt).trans hbk
 refine⟨by rw[chp hb2];rfl,by rw[chp hb2];rfl,Lib.frozen_of_heap hb2 1,.inr ?_,?_,((hk1.alloc _).grown hg (Lib.ownsRowF_kind (World.ownsRowF_of (hown.alloc _)))).setCell (Ad b 1) rfl _⟩
 . exact Lib.BuilderAt.put (T:=31) (e:=5) hB hb2 (bs':=bs++[.int .u8 z]) (by simpa using hown') (by decide)
 . exact((hb1.alloc (Nat.le_trans hBw hb1.size) _).grown hg (by rw[wsa];have:=hb1.size;omega) (λk hk=>(hown.lt k hk).1)).setCell (p:=(Ad b 1)) hB _
theorem Jm2(B b:Nat)(bs:List Value)(c:UInt8)(w:World)(h:Lib.IsBuilder 31 5 B b bs w)(hlen:bs.length<=1000000000)(hBw:B<=w.heap.size) :
    Cg 10 #[Pd b 0,.int .u8 (c.toNat:Int)] w λe w'=>e=.returned .nilIface/\(Lib.IsBuilder 31 5 B b (bs++[.int .u8 (c.toNat:Int)]) w'/\Below B w w'/\Lib.OthersKept 5 (some b) w w'):=by
 obtain⟨i0,hi,hz0,hz1,hz2⟩:=info_parts JhB;have cC:=Jfw B b bs w h;generalize (c.toNat:Int)=z at *;clear h
 go_enter func10,ntmps10
 go_wp2_with (first
  | (go_at_call 18;refine cC.mono ?_;rintro e w1 ⟨rfl,⟨hB,v,hbk,hown,hne⟩,hb1,hk1⟩;have c0:w1.cell? (Ad b 0)=some (Pd b 0):=(by rw[chp hbk];rfl);have c1:w1.cell? (Ad b 1)=some v:=(by rw[chp hbk];rfl))
  | (at_builtin;refine wpList_append_own _ rfl _ _ 29 rfl B 5 i0 (.int .u8 0) 1 1 underlying29 hi hz0 hz1 hz2 rfl (by decide) _ _ _ rfl (hown.alloc _) (Ad w1.heap.size 0) 1 1 [.int .u8 z] rfl rfl (cell_one_new _ _ _) (ints_oneCell .u8 [z]) (by unfold maxLen;omega) (by omega) (by have:=hb1.size;simp;omega) ?_))
 intro v' w2 hown' hgrow _;obtain⟨ao,cap,rfl⟩:=Jak hown';obtain⟨pv,cv,rfl⟩:=Jak hown;obtain⟨d0,d1,f1,hp⟩:=JjD hB hBw hbk hown hne hb1 hk1 hown' hgrow;have HP:=hdz hp;clear hown hown' hgrow hbk hb1 hk1 c0 c1 hp;go_wp2;go_ret;exact⟨rfl,HP.out⟩
theorem JlL(c:UInt8)(hc:c.toNat<128):Lib.runeCells (c.toNat:Int)=[.int .u8 (c.toNat:Int)]:=by
 unfold Lib.runeCells;rw[Lib.encodeRuneZ_one (by omega) (by omega)];rfl
theorem Jm1(B b:Nat)(bs:List Value)(c:UInt8)(hc:c.toNat<128)(w:World)(h:Lib.IsBuilder 31 5 B b bs w)(hlen:bs.length<=1000000000)(hBw:B<=w.heap.size) :
    Cg 151 #[Pd b 0,.int .i32 (c.toNat:Int)] w λe w'=>(∃v,e=.returned v)/\(Lib.IsBuilder 31 5 B b (bs++[.int .u8 (c.toNat:Int)]) w'/\Below B w w'/\Lib.OthersKept 5 (some b) w w'):=by
 have cC:=Jfw B b bs w h;have cA:Hid (∀(v:Value) (w1:World),w1.ownsRow B 5 1 v bs.length bs->B<=w1.heap.size->Cg 192 #[v,.int .i32 (c.toNat:Int)] w1 λe w'=>∃v',e=.returned v'/\w'.ownsRow B 5 1 v' (bs.length+1) (bs++[.int .u8 (c.toNat:Int)])/\∃o,(w1.alloc o).grownBy w' v.ownBlock):=λv w1 hown hB1=>by
  have:=utf8_AppendRune_plain B v bs.length bs (c.toNat:Int) (by omega) (by omega) w1 hown (by omega) hB1;rw[JlL c hc]at this;exact this
 generalize (c.toNat:Int)=z at *;clear h hc
 go_enter func151,ntmps151
 go_wp2_with (first
  | (go_at_call 18;refine cC.mono ?_;rintro e w1 ⟨rfl,⟨hB,v,hbk,hown,hne⟩,hb1,hk1⟩;obtain⟨pv,cv,rfl⟩:=Jak hown;have c0:w1.cell? (Ad b 0)=some (Pd b 0):=(by rw[chp hbk];rfl);have c1:w1.cell? (Ad b 1)=some (.slice pv bs.length cv):=(by rw[chp hbk];rfl);have HO:=hdz hown;have HK:=hdz hk1;have HB1:=hdz hb1;have HBK:=hdz hbk;have HNE:=hdz hne;clear hown hk1 hb1 hbk hne)
  | (go_at_call 192;refine(cA.out _ _ HO.out (Nat.le_trans hBw HB1.out.size)).mono ?_;rintro e w2 ⟨v',rfl,hown',o,hgrow⟩;obtain⟨ao,cap,rfl⟩:=Jak hown';obtain⟨d0,d1,f1,hp⟩:=JjD hB hBw HBK.out HO.out HNE.out HB1.out HK.out hown' hgrow;have HP:=hdz hp;clear hown' hgrow c0 c1 hp))
 go_ret2
 exact⟨⟨_,rfl⟩,HP.out⟩
section
open Go.Lib
theorem Jt9(c:UInt8)(l:List UInt8)(h:c.toNat<128):dec (c :: l)=(c.toNat,1):=by
 unfold dec decodeN;simp[h]
theorem Jqd(c:UInt8)(l:List UInt8)(h:128<=c.toNat):128<=(dec (c :: l)).1/\∀x∈(c :: l).take (dec (c :: l)).2,128<=x.toNat:=by
 by_cases hb:badB (dec (c :: l))=true
 . obtain⟨h1,h2⟩:=Jht hb
   rw[h1,h2];refine⟨by decide,λx hx=>?_⟩;simp at hx;subst hx;exact h
 . have hb:badB (dec (c :: l))=false:=Bool.eq_false_iff.2 hb
   obtain⟨hr,ht⟩:=Jqe (by simp) hb;generalize dec (c :: l)=p at *
   have hge:128<=p.1:=by
    rcases Nat.lt_or_ge p.1 128 with h' | h'
    . rw[enc1 (by omega)]at ht
      have hp2:p.2≠0:=λe=>by rw[e]at ht;simp at ht
      obtain⟨m,hm⟩:=Nat.exists_eq_succ_of_ne_zero hp2;rw[hm]at ht;simp at ht;have:=congrArg UInt8.toNat ht.1;rw[toU8 (by omega)]at this;omega
    . exact h'
   refine⟨hge,λx hx=>?_⟩;rw[ht]at hx;unfold Jbp at hr;have e:∀n,n<256->128<=n->x=n.toUInt8->128<=x.toNat:=λn h1 h2 h3=>by rw[h3,toU8 h1];exact h2
   by_cases a1:p.1<=2047
   . rw[enc2 hge a1]at hx
     simp only[List.mem_cons,List.not_mem_nil,or_false]at hx
     rcases hx with hx|hx<;>exact e _ (by omega) (by omega) hx
   . by_cases a2:p.1<=65535
     . rw[enc3 (by omega)]at hx
       simp only[List.mem_cons,List.not_mem_nil,or_false]at hx
       rcases hx with hx|hx|hx<;>exact e _ (by omega) (by omega) hx
     . rw[enc4 (by omega) (by omega)]at hx
       simp only[List.mem_cons,List.not_mem_nil,or_false]at hx
       rcases hx with hx|hx|hx|hx<;>exact e _ (by omega) (by omega) hx
structure Turns (f:Nat->Nat) (c1:UInt8->UInt8):Prop where
 low:∀c:UInt8,c.toNat<128->f c.toNat=(c1 c).toNat/\(c1 c).toNat<128
 high:∀c:UInt8,128<=c.toNat->c1 c=c
 same:∀r,128<=r->f r=r
def inF (r:Nat):Nat:=if r=95 then 32 else if r=47 then 10 else r
def outF (r:Nat):Nat:=if r=32 then 95 else if r=10 then 47 else r
theorem Jvk:Turns inF inC1 where
 low c h:=by
  unfold inF inC1
  by_cases h1:c=95
  . subst h1;exact⟨rfl,by decide⟩
  . have g1:c.toNat≠95:=λe=>h1 (UInt8.toNat_inj.1 e)
    rw[if_neg g1,if_neg h1]
    by_cases h2:c=47
    . subst h2;exact⟨rfl,by decide⟩
    . have g2:c.toNat≠47:=λe=>h2 (UInt8.toNat_inj.1 e)
      rw[if_neg g2,if_neg h2];exact⟨rfl,h⟩
 high c h:=by
  unfold inC1;rw[if_neg (λe=>by subst e;revert h;decide),if_neg (λe=>by subst e;revert h;decide)]
 same r h:=by unfold inF;rw[if_neg (by omega),if_neg (by omega)]
theorem JsK:Turns outF JsL where
 low c h:=by
  unfold outF JsL
  by_cases h1:c=32
  . subst h1;exact⟨rfl,by decide⟩
  . have g1:c.toNat≠32:=λe=>h1 (UInt8.toNat_inj.1 e)
    rw[if_neg g1,if_neg h1]
    by_cases h2:c=10
    . subst h2;exact⟨rfl,by decide⟩
    . have g2:c.toNat≠10:=λe=>h2 (UInt8.toNat_inj.1 e)
      rw[if_neg g2,if_neg h2];exact⟨rfl,h⟩
 high c h:=by
  unfold JsL;rw[if_neg (λe=>by subst e;revert h;decide),if_neg (λe=>by subst e;revert h;decide)]
 same r h:=by unfold outF;rw[if_neg (by omega),if_neg (by omega)]
theorem Turns.step{f:Nat->Nat}{c1:UInt8->UInt8}(h:Turns f c1)(c:UInt8)(l:List UInt8) :
    (c.toNat<128/\dec (c :: l)=(c.toNat,1)/\f c.toNat=(c1 c).toNat/\(c1 c).toNat<128) \/
    (128<=c.toNat/\f (dec (c :: l)).1=(dec (c :: l)).1/\((c :: l).take (dec (c :: l)).2).map c1=(c :: l).take (dec (c :: l)).2):=by
 rcases Nat.lt_or_ge c.toNat 128 with h1|h1
 . exact .inl ⟨h1,Jt9 c l h1,h.low c h1⟩
 . obtain⟨a,b⟩:=Jqd c l h1
   exact .inr ⟨h1,h.same _ a,(List.map_congr_left (g:=id) λx hx=>h.high x (b x hx)).trans (List.map_id _)⟩
end
def Jsw:Value->Nat
 | .string s=>s.size
 | _=>0
theorem JfI{T e:TypeId}{B b:Nat}{bs:List Value}{w w':World}(h:Lib.IsBuilder T e B b bs w)(hb:Bw w w'):Lib.IsBuilder T e B b bs w':=by
 rcases h with ⟨hB,v,hbk,hown,hne⟩|⟨hB,v,hbk,hown,hne⟩
 . exact .inl ⟨hB,v,(hb.block b (alt hbk)).trans hbk,Jbl hown hb,hne⟩
 . exact .inr ⟨hB,v,(hb.block b (alt hbk)).trans hbk,Jbl hown hb,hne⟩
theorem Jmq(a l:List UInt8):Lib.byteCells a++Lib.strCells ⟨l.toArray⟩=Lib.byteCells (a++l):=by simp[Lib.byteCells,Lib.strCells]
theorem Jmr(a:List UInt8)(c:UInt8):Lib.byteCells a++[.int .u8 (c.toNat:Int)]=Lib.byteCells (a++[c]):=by simp[Lib.byteCells]
theorem Jki(G:Nat)(f:Nat->Nat)(c1:UInt8->UInt8)(hT:Turns f c1)(hent:∀args w,(callFunc G args).run prog w=.ok (.enter G args) w)
    (hG:∀(r:Nat) (W:World),Cg G #[.int .i32 (r:Int)] W λe w'=>e=.returned (.int .i32 (f r:Int))/\Below W.heap.size W w')
    (s:List UInt8) (hs:s.length<=1000000) (w:World) (hU:Lib.Utf8Tabs 3 4 w) :
    Cg 91 #[Sx s,.func (.func G) #[] #[]] w λe w'=>e=.returned (Sx (s.map c1))/\Below w.heap.size w w':=by
 obtain⟨β,hβ⟩:∃β,w.heap.size=β:=⟨_,rfl⟩;have HB0:Hid (Lib.IsBuilder 31 5 β β [] (w.alloc (Oc #[.pointer none,.slice none 0 0] 31))):=hβ ▸ Lib.fresh_isBuilder 31 5 w;have HW0:Hid (Below β w (w.alloc (Oc #[.pointer none,.slice none 0 0] 31))):=hβ ▸ (brf _ w).alloc (nlr _) _;have HU:=hdz hU;have HS:=hdz hs;have HBW:Hid (β<=w.heap.size):=Nat.le_of_eq hβ.symm;rw[hβ];clear hs hU
 go_enter func91,ntmps91
 go_wp2
 go_loopw [0] (λv0 wr=>∃k:Nat,k<=s.length/\v0=Sx (s.drop k)/\Lib.IsBuilder 31 5 β β (Lib.byteCells ((s.take k).map c1)) wr/\Below β w wr) (λv0 _=>Jsw v0)
 case atStart=>exact⟨0,Nat.zero_le _,rfl,HB0.out,HW0.out⟩
 case round =>
  obtain⟨k,hk,rfl,hB,hb⟩:=hrel
  by_cases hlt:k<s.length
  . obtain ⟨c,l,hcl⟩:∃c l,s.drop k=c :: l:=by
      cases h:s.drop k with
      | nil=>have:=congrArg List.length h;rw[List.length_drop,List.length_nil]at this;omega
      | cons c l=>exact⟨c,l,rfl⟩
    have hst:=hT.step c l;have hdl:(s.drop k).length=s.length - k:=List.length_drop;have hd2:∀K,s.drop (k+K)=(s.drop k).drop K:=λK=>(List.drop_drop).symm;have ht2:∀K,(s.take (k+K)).map c1=(s.take k).map c1++((s.drop k).take K).map c1:=λK=>by rw[List.take_add,List.map_append]
    have hge:=JgD (s.drop k);have hle:=JnD (l:=s.drop k) (by rw[hcl];simp);have hdec:Lib.decodeGo ⟨(s.drop k).toArray⟩=dec (s.drop k):=by
     have:=JeS ⟨(s.drop k).toArray⟩ 0;unfold Lib.decodeGo;rw[if_neg (by simp[ByteArray.size];omega)];have e0:(ByteArray.mk (s.drop k).toArray).extract 0 (ByteArray.mk (s.drop k).toArray).size=⟨(s.drop k).toArray⟩:=by rw[Jho];congr 2;exact List.take_of_length_le (by simp[ByteArray.size])
     rw[e0]at this;exact this
    have CD:Hid _:=utf8_DecodeRuneInString ⟨(s.drop k).toArray⟩ wr (Go.Proofs.Utf8Tabs_below HU.out (show Below w.heap.size w wr by rw[hβ];exact hb));rw[hdec]at CD;rw[←hcl]at hst;have HD2:=hdz hd2;have HT2:=hdz ht2;have HB1:=hdz hB;have HW1:=hdz hb;have hbl:(Lib.byteCells ((s.take k).map c1)).length=k:=by simp[Lib.byteCells];omega
    have HBL:=hdz hbl;have HDL:=hdz hdl;have hne:((s.drop k) == [])=false:=by rw[hcl];rfl
    generalize s.drop k=d at *;have hdn:d.length<=1000000:=by have:=HS.out;omega
    clear hB hb hdec hd2 ht2 hbl hdl hlt HB0 HW0
    have hst2:(f (dec d).1=(dec d).1/\(d.take (dec d).2).map c1=d.take (dec d).2)\/(dec d=(c.toNat,1)/\f c.toNat=(c1 c).toNat/\(c1 c).toNat<128/\c1 c≠c/\d.take 1=[c]):=by
     rcases hst with ⟨a1,a2,a3,a4⟩|⟨a1,a2,a3⟩
     . by_cases h:c1 c=c
       . refine .inl ⟨?_,?_⟩
         . rw[a2];show f c.toNat=c.toNat;rw[a3,h]
         . rw[a2,hcl];simp[h]
       . exact .inr ⟨a2,a3,a4,h,by rw[hcl];rfl⟩
     . exact .inl ⟨a2,a3⟩
    clear hst hcl
    rcases hst2 with ⟨a2,a3⟩|⟨a2,a3,a4,a5,a6⟩
    . obtain ⟨R,hR⟩:∃R,(dec d).1=R:=⟨_,rfl⟩
      obtain⟨K,hK⟩:∃K,(dec d).2=K:=⟨_,rfl⟩;have hp:dec d=(R,K):=by rw[←hR,←hK]
      rw[hp]at CD hge hle a2 a3;simp only at hge hle a2 a3;have CG:Hid (∀W,Cg G #[.int .i32 (R:Int)] W λe w'=>e=.returned (.int .i32 (R:Int))/\Below W.heap.size W w'):=λW=>by have:=hG R W;rw[a2]at this;exact this
      have e1:=Jho d K;have e2:=Jhn d K;have hKi:(K:Int)<=(d.length:Int):=by omega
      have HA3:=hdz a3;clear hp hR hK a2 a3
      go_wp2_with (first
       | (go_at_call 94;refine Calls.mono CD.out ?_;rintro e w1 ⟨rfl,h⟩;have HC:=hdz h;clear h)
       | (go_at_fn G;refine(CG.out _).mono ?_;rintro e w2 ⟨rfl,h⟩;have HC2:=hdz (HC.out.trans (h.mono HC.out.size));clear h)
       | (go_at_call 8;refine(Jc7 β β _ ⟨(d.take K).toArray⟩ w2 (JfI HB1.out HC2.out) (by have:=HS.out;rw[HBL.out];simp[ByteArray.size];omega) (Nat.le_trans HBW.out (Nat.le_trans HW1.out.size HC2.out.size))).mono ?_;rintro e w3 ⟨⟨v3,rfl⟩,h3,h4,h5⟩;have HB3:Hid (Lib.IsBuilder 31 5 β β (Lib.byteCells ((s.take (k+K)).map c1)) w3):=(by show Lib.IsBuilder _ _ _ _ _ _;rw[HT2.out,HA3.out,←Jmq];exact h3);have HW3:Hid (Below β w w3):=(HW1.out.trans (HC2.out.mono (Nat.le_trans HBW.out HW1.out.size))).trans h4;clear h3 h4 h5))
      go_roundw
      case rel=>exact⟨k+K,by have:=HDL.out;omega,by rw[HD2.out],HB3.out,HW3.out⟩
      case measure=>simp[Jsw,ByteArray.size];omega
    . rw [a2]at CD hge hle
      simp only at hge hle;have CG:Hid (∀W,Cg G #[.int .i32 (c.toNat:Int)] W λe w'=>e=.returned (.int .i32 ((c1 c).toNat:Int))/\Below W.heap.size W w'):=λW=>by have:=hG c.toNat W;rw[a3]at this;exact this
      have hno:(((c1 c).toNat:Int)==(c.toNat:Int))=false:=beq_eq_false_iff_ne.2 λe=>a5 (UInt8.toNat_inj.1 (by omega));have e2:=Jhn d 1;have hKi:(1:Int)<=(d.length:Int):=by omega
      have HT1:Hid ((s.take (k+1)).map c1=(s.take k).map c1++[c1 c]):=by show _=_;rw[HT2.out,a6];rfl
      have HA4:=hdz a4;clear a2 a3 a4 a5 a6;generalize c1 c=c' at *
      go_wp2_with (first
       | (go_at_call 94;refine Calls.mono CD.out ?_;rintro e w1 ⟨rfl,h⟩;have HC:=hdz h;clear h)
       | (go_at_fn G;refine(CG.out _).mono ?_;rintro e w2 ⟨rfl,h⟩;have HC2:=hdz (HC.out.trans (h.mono HC.out.size));clear h)
       | (go_at_call 151;refine(Jm1 β β _ c' HA4.out w2 (JfI HB1.out HC2.out) (by have:=HS.out;rw[HBL.out];omega) (Nat.le_trans HBW.out (Nat.le_trans HW1.out.size HC2.out.size))).mono ?_;rintro e w3 ⟨⟨v3,rfl⟩,h3,h4,h5⟩;have HB3:=hdz h3;have HW3:Hid (Below β w w3):=(HW1.out.trans (HC2.out.mono (Nat.le_trans HBW.out HW1.out.size))).trans h4;clear h3 h4 h5))
      go_roundw
      case rel=>exact⟨k+1,by have:=HDL.out;omega,by rw[HD2.out,List.drop_one],by rw[HT1.out,←Jmr];exact HB3.out,HW3.out⟩
      case measure=>simp[Jsw,ByteArray.size];omega
  . obtain rfl:k=s.length:=by omega
    have hd0:s.drop s.length=[]:=List.drop_length;rw[hd0];rw[List.take_length]at hB;have CS:Hid _:=JhQ β β (s.map c1) wr hB (Nat.le_trans HBW.out hb.size);have HB:=hdz hb;clear hB hb hd0 HB0 HW0
    go_wp2_with (go_at_call 11;refine Calls.mono CS.out ?_;rintro e w1 ⟨rfl,h,_⟩;have HB1:=hdz (HB.out.trans h);clear h)
    go_ret;exact⟨rfl,HB1.out⟩
theorem Jsm(r:Nat)(W:World):Cg 92 #[.int .i32 (r:Int)] W (Rt W (.int .i32 (inF r:Int))):=by
 unfold inF
 by_cases h1:r=95
 . have b1:((r:Int)==95)=true:=by rw[beq_iff_eq];omega
   rw[if_pos h1];clear h1
   go_enter func92,ntmps92
   go_wp2;go_ret;exact⟨rfl,brf _ _⟩
 . have b1:((r:Int)==95)=false:=beq_eq_false_iff_ne.2 (by omega)
   rw[if_neg h1]
   by_cases h2:r=47
   . have b2:((r:Int)==47)=true:=by rw[beq_iff_eq];omega
     rw[if_pos h2];clear h1 h2
     go_enter func92,ntmps92
     go_wp2;go_ret;exact⟨rfl,brf _ _⟩
   . have b2:((r:Int)==47)=false:=beq_eq_false_iff_ne.2 (by omega)
     rw[if_neg h2];clear h1 h2
     go_enter func92,ntmps92
     go_wp2;go_ret;exact⟨rfl,brf _ _⟩
theorem Jso(r:Nat)(W:World):Cg 114 #[.int .i32 (r:Int)] W (Rt W (.int .i32 (outF r:Int))):=by
 unfold outF
 by_cases h1:r=32
 . have b1:((r:Int)==32)=true:=by rw[beq_iff_eq];omega
   rw[if_pos h1];clear h1
   go_enter func114,ntmps114
   go_wp2;go_ret;exact⟨rfl,brf _ _⟩
 . have b1:((r:Int)==32)=false:=beq_eq_false_iff_ne.2 (by omega)
   rw[if_neg h1]
   by_cases h2:r=10
   . have b2:((r:Int)==10)=true:=by rw[beq_iff_eq];omega
     rw[if_pos h2];clear h1 h2
     go_enter func114,ntmps114
     go_wp2;go_ret;exact⟨rfl,brf _ _⟩
   . have b2:((r:Int)==10)=false:=beq_eq_false_iff_ne.2 (by omega)
     rw[if_neg h2];clear h1 h2
     go_enter func114,ntmps114
     go_wp2;go_ret;exact⟨rfl,brf _ _⟩
theorem JfX(s:List UInt8)(hs:s.length<=1000000)(w:World)(hU:Lib.Utf8Tabs 3 4 w) :
    Cg 50 #[Sx s] w (Rt w (Sx (Ja2 s))):=by
 have CT:Hid _:=Jki 92 inF inC1 Jvk (enters_of func92 (by kernel_rfl) rfl) Jsm s hs w hU;unfold Ja2
 by_cases h:s=[45]
 . subst h
   rw[if_pos rfl]
   go_enter func50,ntmps50
   go_wp2;go_ret;exact⟨rfl,brf _ _⟩
 . have hne:(s == [45])=false:=beq_eq_false_iff_ne.2 h
   rw[if_neg h];clear h
   go_enter func50,ntmps50
   go_wp2_with (go_at_call 91;refine Calls.mono CT.out ?_;rintro e w1 ⟨rfl,h⟩;have HB:=hdz h;clear h)
   go_ret;exact⟨rfl,HB.out⟩
theorem Jf4(s:List UInt8)(hs:s.length<=1000000)(w:World)(hU:Lib.Utf8Tabs 3 4 w) :
    Cg 68 #[Sx s] w (Rt w (Sx (Jh5 s))):=by
 have CT:Hid _:=Jki 114 outF JsL JsK (enters_of func114 (by kernel_rfl) rfl) Jso s hs w hU;unfold Jh5
 by_cases h:s=[]
 . subst h
   rw[if_pos rfl]
   go_enter func68,ntmps68
   go_wp2;go_ret;exact⟨rfl,brf _ _⟩
 . have hne:(s == [])=false:=beq_eq_false_iff_ne.2 h
   rw[if_neg h];clear h
   go_enter func68,ntmps68
   go_wp2_with (go_at_call 91;refine Calls.mono CT.out ?_;rintro e w1 ⟨rfl,h⟩;have HB:=hdz h;clear h)
   go_ret;exact⟨rfl,HB.out⟩
section
attribute [local go_sem] Oper.semAt_some
variable {lo b : Nat}{w : World}{who u : Int}{S : Cl}
theorem JeU(h:isCl lo w b who u S) :
    Cg 112 #[Pd b 0] w λe w'=>∃p c,e=.returned (.agg #[I6 who,I6 u,I6 S.rev,Sx S.seen,.slice p S.mine.length c,Sx S.doc,I6 S.id,I6 S.drops])/\Jdc lo w (.slice p S.mine.length c) S.mine/\Bw w w':=by
 obtain⟨_,vm,h3,h4⟩:=h;obtain⟨p,c,rfl⟩:=Jcf h4;have H4:=hdz h4;have hbw:b<w.heap.size:=(alt h3);unfold Jb7 at h3;have x0:=cQ h3 0 rfl;have x1:=cQ h3 1 rfl;have x2:=cQ h3 2 rfl;have x3:=cQ h3 3 rfl;have x4:=cQ h3 4 rfl;have x5:=cQ h3 5 rfl;have x6:=cQ h3 6 rfl;have x7:=cQ h3 7 rfl;clear h3 h4
 go_enter func112,ntmps112
 go_wp2;refine bodyPost_ret (v:=.agg #[I6 who,I6 u,I6 S.rev,Sx S.seen,.slice p S.mine.length c,Sx S.doc,I6 S.id,I6 S.drops]) (by simp[results,results112,go_sem]) rfl ⟨_,_,rfl,H4.out,?_⟩;exact zA _ _
theorem clF1(a b c d e:Int)(s t:ByteArray)(p:Option Addr)(n m:Nat)(w:World):(Instr.field 90 (.agg #[I6 a,I6 b,I6 c,.string s,.slice p n m,.string t,I6 d,I6 e]) 1).run prog w=.ok (I6 b) w:=by kernel_rfl
theorem clF2(a b c d e:Int)(s t:ByteArray)(p:Option Addr)(n m:Nat)(w:World):(Instr.field 90 (.agg #[I6 a,I6 b,I6 c,.string s,.slice p n m,.string t,I6 d,I6 e]) 2).run prog w=.ok (I6 c) w:=by kernel_rfl
theorem clF3(a b c d e:Int)(s t:ByteArray)(p:Option Addr)(n m:Nat)(w:World):(Instr.field 90 (.agg #[I6 a,I6 b,I6 c,.string s,.slice p n m,.string t,I6 d,I6 e]) 3).run prog w=.ok (.string s) w:=by kernel_rfl
theorem clF4(a b c d e:Int)(s t:ByteArray)(p:Option Addr)(n m:Nat)(w:World):(Instr.field 90 (.agg #[I6 a,I6 b,I6 c,.string s,.slice p n m,.string t,I6 d,I6 e]) 4).run prog w=.ok (.slice p n m) w:=by kernel_rfl
theorem clF5(a b c d e:Int)(s t:ByteArray)(p:Option Addr)(n m:Nat)(w:World):(Instr.field 90 (.agg #[I6 a,I6 b,I6 c,.string s,.slice p n m,.string t,I6 d,I6 e]) 5).run prog w=.ok (.string t) w:=by kernel_rfl
theorem clF7(a b c d e:Int)(s t:ByteArray)(p:Option Addr)(n m:Nat)(w:World):(Instr.field 90 (.agg #[I6 a,I6 b,I6 c,.string s,.slice p n m,.string t,I6 d,I6 e]) 7).run prog w=.ok (I6 e) w:=by kernel_rfl
attribute [local go_sem] clF1 clF2 clF3 clF4 clF5 clF7
theorem Jrz(h:isCl lo w b who u S) :
    Cg 69 #[Pd b 0] w (Rt w (Sx S.doc)):=by
 have C:Hid _:=JeU h;clear h
 go_enter func69,ntmps69
 go_wp2_with (go_at_call 112;refine Calls.mono C.out ?_;rintro e w1 ⟨pm,cm,rfl,hm,hb1⟩;have HB1:=hdz hb1;clear hm hb1)
 go_ret;exact⟨rfl,HB1.out⟩
theorem Jr4(h:isCl lo w b who u S) :
    Cg 70 #[Pd b 0] w (Rt w (Sx S.seen)):=by
 have C:Hid _:=JeU h;clear h
 go_enter func70,ntmps70
 go_wp2_with (go_at_call 112;refine Calls.mono C.out ?_;rintro e w1 ⟨pm,cm,rfl,hm,hb1⟩;have HB1:=hdz hb1;clear hm hb1)
 go_ret;exact⟨rfl,HB1.out⟩
theorem Jdv(h:isCl lo w b who u S) :
    Cg 96 #[Pd b 0] w (Rt w (I6 u)):=by
 have C:Hid _:=JeU h;clear h
 go_enter func96,ntmps96
 go_wp2_with (go_at_call 112;refine Calls.mono C.out ?_;rintro e w1 ⟨pm,cm,rfl,hm,hb1⟩;have HB1:=hdz hb1;clear hm hb1)
 go_ret;exact⟨rfl,HB1.out⟩
theorem JnK(h:isCl lo w b who u S) :
    Cg 64 #[Pd b 0] w (Rt w (I6 S.rev)):=by
 have C:Hid _:=JeU h;clear h
 go_enter func64,ntmps64
 go_wp2_with (go_at_call 112;refine Calls.mono C.out ?_;rintro e w1 ⟨pm,cm,rfl,hm,hb1⟩;have HB1:=hdz hb1;clear hm hb1)
 go_ret;exact⟨rfl,HB1.out⟩
theorem Jmn(h:isCl lo w b who u S) :
    Cg 65 #[Pd b 0] w (Rt w (I6 S.drops)):=by
 have C:Hid _:=JeU h;clear h
 go_enter func65,ntmps65
 go_wp2_with (go_at_call 112;refine Calls.mono C.out ?_;rintro e w1 ⟨pm,cm,rfl,hm,hb1⟩;have HB1:=hdz hb1;clear hm hb1)
 go_ret;exact⟨rfl,HB1.out⟩
theorem JbB(h:isCl lo w b who u S) :
    Cg 67 #[Pd b 0] w (Rt w (.bool (decide (0<S.mine.length)))):=by
 have C:Hid _:=JeU h;clear h
 go_enter func67,ntmps67
 go_wp2_with (go_at_call 112;refine Calls.mono C.out ?_;rintro e w1 ⟨pm,cm,rfl,hm,hb1⟩;have HB1:=hdz hb1;clear hm hb1)
 go_ret;exact⟨by simp,HB1.out⟩
end
section
variable {bs : List Nat}
theorem JcR{w:World}{v:Value}{ws:List (List UInt8)}(h:JcE w v ws){i:Nat}{s:List UInt8}(hi:ws[i]?=some s) :
    ∃b o c,v=.slice (some (Ad b o)) ws.length c/\i<ws.length/\b<w.heap.size/\w.cell? (Ad b (o+i))=some (Sx s):=by
 obtain⟨p,c,h1,_,_,h4⟩:=h;have hl:=(llt hi);obtain⟨b,o,e,hb,hc⟩:=h4 λe=>by rw[e]at hl;exact absurd hl (Nat.not_lt_zero _)
 subst e;exact⟨b,o,c,h1,hl,hb,hc i s hi⟩
def cliD (m:Nat) (s:List UInt8):Except Int Nat :=
 match numW s with
 | none=>.error 3
 | some k=>if 0<=k/\k<(m:Int) then .ok k.toNat else .error 2
theorem JbE{s:List UInt8}{e:Ending}(h:JeT bs (numW s) e) :
    (∃n,cliD bs.length s=.error n/\e=JaA n)\/(∃k b,cliD bs.length s=.ok k/\bs[k]?=some b/\e=.returned (Pd b 0)):=by
 unfold cliD
 cases hn:numW s with
 | none=>rw[hn]at h;exact .inl ⟨3,rfl,h⟩
 | some k =>
  rw[hn]at h;unfold JeT at h;simp only at h ⊢
  by_cases hk:0<=k/\k<(bs.length:Int)
  . rw[if_pos hk]at h ⊢
    obtain⟨b,h1,h2⟩:=h;exact .inr ⟨k.toNat,b,rfl,h1,h2⟩
  . rw[if_neg hk]at h ⊢
    exact .inl ⟨2,rfl,h⟩
def JgJ (x:Except Int (List UInt8)):Ending :=
 match x with
 | .error n=>JaA n
 | .ok t=>.returned (Sx t)
theorem JrW{lo:Nat}{r bx bmx:Nat}{R:Rm}(ws:List (List UInt8))(s:List UInt8)(h1:ws[1]?=some s)(hs:s.length<=1000000)(hwl:ws.length<=1000000)(v:Value)(q:Nat)(w:World)(he:EnvK w)(hg:JbM w)(hU:Lib.Utf8Tabs 3 4 w)
    (hq:w.cell? (Ad q 0)=some (Pd r 0)) (h:isRoom lo w r bx bmx bs R) (hm:bs.length<=1000) (hv:JcE w v ws) (hd:∀(k b:Nat),bs[k]?=some b->isCl lo w b (k:Int) (clK R k).1 (clK R k).2/\(clK R k).2.doc.length<=1000000) :
    Cg 34 #[Pd q 0,v] w λe w'=>e=JgJ ((cliD bs.length s).map λk=>Jh5 (clK R k).2.doc)/\Bw w w':=by
 obtain⟨b,o,c,rfl,hlt,hbw,hc⟩:=JcR hv h1;have CC:Hid _:=Jgj s hs q w he hg hq h hm;have hli:(1:Int)<(ws.length:Int):=by omega
 have HD:=hdz hd;have HU:=hdz hU;generalize ws.length=n at *
 rcases hx:cliD bs.length s with m|k
 . have CC2:Hid (Cg 54 #[Pd q 0,Sx s] w λe w'=>e=JaA m/\Bw w w'):=Calls.mono CC.out λe w' ⟨a,b⟩=>by
     rcases JbE a with ⟨m',e1,e2⟩|⟨k,b',e1,_⟩
     . rw[hx]at e1;injection e1 with e1;subst e1;exact⟨e2,b⟩
     . rw[hx]at e1;cases e1
   clear CC he hg hU h hv hd h1 hx
   go_enter func34,ntmps34
   go_wp2_with (go_at_call 54;refine Calls.mono CC2.out ?_;rintro e w1 ⟨rfl,h⟩;unfold JaA;have HB1:=hdz h;clear h)
   exact⟨rfl,rfl,HB1.out⟩
 . have CC2:Hid (Cg 54 #[Pd q 0,Sx s] w λe w'=>∃b,bs[k]?=some b/\e=.returned (Pd b 0)/\Bw w w'):=Calls.mono CC.out λe w' ⟨a,b⟩=>by
     rcases JbE a with ⟨m',e1,e2⟩|⟨k',b',e1,e2,e3⟩
     . rw[hx]at e1;cases e1
     . rw[hx]at e1;injection e1 with e1;subst e1;exact⟨b',e2,e3,b⟩
   clear CC he hg hU h hv hd h1 hx
   go_enter func34,ntmps34
   go_wp2_with (first
    | (go_at_call 54;refine Calls.mono CC2.out ?_;rintro e w1 ⟨b1,hb1,rfl,h⟩;have HB1:=hdz h;have HC1:Hid _:=HD.out k b1 hb1;clear h)
    | (go_at_call 69;refine(Jrz (Jbm HC1.out.1 HB1.out)).mono ?_;rintro e w2 ⟨rfl,h⟩;have HB2:=hdz (HB1.out.trans (h.mono HB1.out.size));clear h)
    | (go_at_call 68;refine(Jf4 _ HC1.out.2 _ (Go.Proofs.Utf8Tabs_below HU.out HB2.out)).mono ?_;rintro e w3 ⟨rfl,h⟩;have HB3:=hdz (HB2.out.trans (h.mono HB2.out.size));clear h))
   go_ret;exact⟨rfl,HB3.out⟩
end
end Go.Proofs.YtbkeomcicobohaaGreatDoor
namespace Go.Proofs
open Go.Shelf
def Tryz.lays156_ren:Go.Shelf.Ren:=⟨λ| 156=>76 | 165=>123 | 166=>8 | 169=>11 | 240=>18 | 241=>178 | 276=>43 | 277=>227 | n=>n,λ| 31=>54 | 9=>9 | 3=>3 | 4=>4 | 0=>0 | 20=>20 | 72=>31 | 76=>36 | 70=>28 | 37=>29 | 75=>35 | 127=>61 | 164=>72 | 5=>5 | 80=>39 | n=>n,λ| n=>n⟩
theorem Tryz.lays156:Go.Proofs.Lays.n156 Tryz.prog Tryz.lays156_ren:={
 mixed:=by kernel_rfl
 f156:=Tryz.func76.trans (congrArg some (by kernel_rfl))
 f165:=Tryz.func123.trans (congrArg some (by kernel_rfl))
 f166:=Tryz.func8.trans (congrArg some (by kernel_rfl))
 f169:=Tryz.func11.trans (congrArg some (by kernel_rfl))
 f240:=Tryz.func18.trans (congrArg some (by kernel_rfl))
 f241:=Tryz.func178.trans (congrArg some (by kernel_rfl))
 f276:=Tryz.func43.trans (congrArg some (by kernel_rfl))
 f277:=Tryz.func227.trans (congrArg some (by kernel_rfl))
 t0:=Tryz.underlying0
 a0:=Tryz.isAgg0
 z0:=Tryz.sizeOf0
 v0:=Tryz.zeroValue0
 t3:=Tryz.underlying3
 a3:=Tryz.isAgg3
 z3:=Tryz.sizeOf3
 v3:=Tryz.zeroValue3
 t4:=Tryz.underlying4
 a4:=Tryz.isAgg4
 z4:=Tryz.sizeOf4
 v4:=Tryz.zeroValue4
 t9:=Tryz.underlying9
 a9:=Tryz.isAgg9
 z9:=Tryz.sizeOf9
 v9:=Tryz.zeroValue9
 t20:=Tryz.underlying20
 a20:=Tryz.isAgg20
 z20:=Tryz.sizeOf20
 v20:=Tryz.zeroValue20
 t31:=Tryz.underlying54
 a31:=Tryz.isAgg54
 z31:=Tryz.sizeOf54
 v31:=Tryz.zeroValue54
 t37:=Tryz.underlying29
 a37:=Tryz.isAgg29
 z37:=Tryz.sizeOf29
 v37:=Tryz.zeroValue29
 t70:=Tryz.underlying28
 a70:=Tryz.isAgg28
 z70:=Tryz.sizeOf28
 v70:=Tryz.zeroValue28
 t72:=Tryz.underlying31
 a72:=Tryz.isAgg31
 z72:=Tryz.sizeOf31
 v72:=Tryz.zeroValue31
 t75:=Tryz.underlying35
 a75:=Tryz.isAgg35
 z75:=Tryz.sizeOf35
 v75:=Tryz.zeroValue35
 t76:=Tryz.underlying36
 a76:=Tryz.isAgg36
 z76:=Tryz.sizeOf36
 v76:=Tryz.zeroValue36
 t127:=Tryz.underlying61
 a127:=Tryz.isAgg61
 z127:=Tryz.sizeOf61
 v127:=Tryz.zeroValue61
 t164:=Tryz.underlying72
 a164:=Tryz.isAgg72
 z164:=Tryz.sizeOf72
 v164:=Tryz.zeroValue72 }
theorem Tryz.Builder_Extra_156:Builder.Extra Tryz.prog Tryz.lays156_ren:={
 sizeBuilder:=by kernel_rfl
 liesBuilder:=by kernel_rfl
 t5:=Tryz.underlying5
 a5:=Tryz.isAgg5
 z5:=Tryz.sizeOf5
 v5:=Tryz.zeroValue5
 infoByte:=by kernel_rfl
 cellsByte:=by kernel_rfl
 sizeByte:=by kernel_rfl
 neB5:=by decide }
open Go.RowKit in
theorem Tryz.strings_Join_none(a:Option Addr)(c:Nat)(sep:ByteArray)(w:World) :
    Calls Tryz.prog 76 #[.slice a 0 c,.string sep] w λe w'=>e=.returned (.string ⟨#[]⟩)/\w'=w:=Any.strings_Join_none Tryz.lays156 Tryz.Builder_Extra_156 a c sep w
open Go.RowKit in
theorem Tryz.strings_Join(bk o c:Nat)(xs:List ByteArray)(sep:ByteArray)(w:World)(hcells:∀(j:Nat) x,xs[j]?=some x->w.cell? ⟨bk,o+j,none⟩=some (.string x))(hbk:bk<w.heap.size)(hN:xs.length<=140737488355328)(hcap:xs.length<=c)(hlen:(Lib.join (xs.map (·.data.toList)) sep.data.toList).length<=140737488355328) :
    Calls Tryz.prog 76 #[.slice (some ⟨bk,o,none⟩) xs.length c,.string sep] w λe w'=>e=.returned (.string ⟨(Lib.join (xs.map (·.data.toList)) sep.data.toList).toArray⟩)/\Below w.heap.size w w':=Any.strings_Join Tryz.lays156 Tryz.Builder_Extra_156 bk o c xs sep w hcells hbk hN hcap hlen
end Go.Proofs
namespace Go.Proofs.YtbkeomcicobohaaGreatDoor
open Go.Proofs.Tryz Go.RowKit Go.Maps
section
theorem Ji6(sep:List UInt8)(B:Nat):∀xs:List (List UInt8),(∀x∈xs,x.length<=B)->(Lib.join xs sep).length<=xs.length*(B+sep.length)
 | [],_=>by simp[Lib.join]
 | [x],h=>by
  rw[Lib.join_one];have:=h x (by simp);simp;omega
 | x :: y :: r,h=>by
  have h1:=Ji6 sep B (y :: r) λz hz=>h z (List.mem_cons_of_mem _ hz);have h2:=h x (by simp);have e:Lib.join (x :: y :: r) sep=x++sep++Lib.join (y :: r) sep:=by simp[Lib.join,List.intercalate]
  rw[e,List.length_append,List.length_append,List.length_cons,Nat.succ_mul];omega
theorem Jqr(ss:List (List UInt8))(sep:List UInt8)(v:Value)(w:World)(hv:JcE w v ss)(hl:(Lib.join ss sep).length<=1000000000)(hn:ss.length<=1000000000) :
    Cg 76 #[v,Sx sep] w (Rt w (Sx (Lib.join ss sep))):=by
 obtain⟨p,c,rfl,h1,h2,h3⟩:=hv
 by_cases he:ss=[]
 . subst he
   exact(strings_Join_none p c ⟨sep.toArray⟩ w).mono λe w' ⟨a,b⟩=>⟨a,b ▸ brf _ _⟩
 . obtain ⟨b,o,rfl,hb,hc⟩:=h3 he
   have hm:(ss.map λs=>(⟨s.toArray⟩:ByteArray)).map (·.data.toList)=ss:=by
    rw[List.map_map];exact(List.map_congr_left (g:=id) λs _=>by simp).trans (List.map_id ss)
   have:=strings_Join b o c (ss.map λs=>⟨s.toArray⟩) ⟨sep.toArray⟩ w (λj x hx=>by
    rw[List.getElem?_map]at hx
    cases hs:ss[j]? with
    | none=>rw[hs]at hx;cases hx
    | some s=>rw[hs]at hx;obtain rfl:=osi hx;exact hc j s hs) hb (by simp;omega) (by simpa using h1) (by rw[hm];show(Lib.join ss sep).length<=_;omega)
   rw[hm,List.length_map]at this;exact this
theorem JbX(ns:List Int)(hr:∀n∈ns,-9223372036854775808<=n/\n<=9223372036854775807)(hl:ns.length<=100000)(v:Value)(w:World)(he:EnvK w)(hv:Je5 w v ns) :
    Cg 62 #[v] w λe w'=>e=.returned (Sx (JcV ns))/\Below w.heap.size w w':=by
 obtain⟨p,c,rfl,q1,q2,q3⟩:=hv;have HQ:=hdz q3;have HE:=hdz he;have HR:=hdz hr
 have hJ:(Lib.join (ns.map Lib.itoa) [32]).length<=1000000000:=by
  have:=Ji6 [32] 21 (ns.map Lib.itoa) λx hx=>by
   obtain⟨n,hn,rfl⟩:=List.mem_map.1 hx;exact Lib.itoa_length_le n (hr n hn).1 (hr n hn).2
  simp at this;omega
 have HJ:=hdz hJ;obtain⟨n,hn⟩:∃n,ns.length=n:=⟨_,rfl⟩;have HN:=hdz hn;rw[hn]at q1 hl ⊢;unfold maxLen at q2;obtain⟨i0,hi,hz0,hz1,hz2⟩:=info_parts Jtn;clear q3 he hr hn hJ
 go_enter func62,ntmps62
 go_wp2
 go_loopw [3,8] (λv3 i wr=>∃(k:Nat),i=.int .i64 k/\k<=n/\wr.ownsRow w.heap.size 9 1 v3 k (strC ((ns.map Lib.itoa).take k))/\Below w.heap.size w wr) (λ_ i _=>n - (intOf i).toNat)
 case atStart=>exact⟨0,rfl,Nat.zero_le _,World.ownsRow_nil _ _ _ _,brf _ _⟩
 case round =>
  obtain⟨k,rfl,hk,hown,hb⟩:=hrel
  by_cases hlt:k<n
  . have hki:(k:Int)<(n:Int):=by omega
    have hkl:k<ns.length:=by rw[HN.out];exact hlt
    obtain⟨b,o,rfl,hbw,hc⟩:=HQ.out (λe=>by rw[e]at hkl;exact absurd hkl (Nat.not_lt_zero _));have g0:=(zC hb b (o+k) hbw).trans (hc k _ (lgg hkl));obtain⟨r0,r1⟩:=HR.out ns[k] (List.getElem_mem hkl);have htk:(ns.map Lib.itoa).take (k+1)=(ns.map Lib.itoa).take k++[Lib.itoa ns[k]]:=by rw[List.take_succ_eq_append_getElem (by simpa using hkl)];simp
    have CI:Hid (Cg 12 #[I6 ns[k]] wr λe w'=>e=.returned (Sx (Lib.itoa ns[k]))/\Below wr.heap.size wr w') :=
     (strconv_Itoa ns[k] r0 r1 wr (HE.out.below hb).tab).mono λe w' ⟨e1,k,os,e2⟩=>⟨e1,e2 ▸ JgC wr k os⟩
    generalize ns[k]=m at *;obtain⟨pv,cv,rfl⟩:=Jak hown;have HTK:=hdz htk;have HB:=hdz hb;have HOW:=hdz hown;clear hown hb hc htk r0 r1 HQ
    go_wp2_with (first
     | (go_at_call 12;refine Calls.mono CI.out ?_;rintro e w1 ⟨rfl,h⟩;have HO:Hid (w1.ownsRow w.heap.size 9 1 (.slice pv k cv) k (strC ((ns.map Lib.itoa).take k))):=Jbl HOW.out h;have HB1:=hdz (HB.out.trans (h.mono HB.out.size));clear h)
     | (at_builtin;refine wpList_append_own _ rfl _ _ 54 rfl w.heap.size 9 i0 (.string ⟨#[]⟩) 1 16 underlying54 hi hz0 hz1 hz2 rfl (by decide) _ _ _ rfl (HO.out.alloc _) (Ad w1.heap.size 0) 1 1 [Sx (Lib.itoa m)] rfl rfl (cell_one_new _ _ _) (λu hu=>by rw[List.mem_singleton.1 hu];rfl) (by unfold maxLen;omega) (by omega) (by have:=HB1.out.size;simp;omega) ?_))
    intro v2 w2 hown2 hg _;obtain⟨p2,c2,rfl⟩:=Jak hown2;have HB2:Hid (Below w.heap.size w w2):=(HB1.out.alloc HB1.out.size _).grown hg (by have:=HB1.out.size;rw[wsa];omega) λj hj=>(HO.out.lt j hj).1;have HO2:Hid (w2.ownsRow w.heap.size 9 1 (.slice p2 (k+1) c2) (k+1) (strC ((ns.map Lib.itoa).take (k+1)))):=by rw[HTK.out];unfold strC;rw[List.map_append];exact hown2
    clear hown2 hg;go_wp2
    go_roundw
    case rel=>exact⟨k+1,by go_num,by omega,HO2.out,HB2.out⟩
    case measure=>simp[intOf];omega
  . obtain rfl:k=n:=by omega
    have hki:¬((k:Int)<(k:Int)):=by omega
    have htk:(ns.map Lib.itoa).take k=ns.map Lib.itoa:=List.take_of_length_le (by simp[HN.out]);rw[htk]at hown;obtain⟨pv,cv,rfl⟩:=Jak hown;have hlen:(ns.map Lib.itoa).length=k:=by rw[List.length_map,HN.out]
    have hst:JcE wr (.slice pv k cv) (ns.map Lib.itoa):=JlD (by rw[hlen];exact hown);have CJ:Hid _:=Jqr (ns.map Lib.itoa) [32] _ wr hst HJ.out (by rw[hlen];omega);have HB:=hdz hb;clear hown hb htk hlen hst HQ
    go_wp2_with (go_at_call 76;refine Calls.mono CJ.out ?_;rintro e w1 ⟨rfl,h⟩;have HB1:=hdz (HB.out.trans (h.mono HB.out.size));clear h)
    go_ret;exact⟨rfl,HB1.out⟩
variable {lo r bx bmx : Nat}{bs : List Nat}{R : Rm}
theorem JrY(ws:List (List UInt8))(s:List UInt8)(h1:ws[1]?=some s)(hs:s.length<=1000000)(hwl:ws.length<=1000000)(v:Value)(q:Nat)(w:World)(he:EnvK w)(hg:JbM w)(hU:Lib.Utf8Tabs 3 4 w)
    (hq:w.cell? (Ad q 0)=some (Pd r 0)) (h:isRoom lo w r bx bmx bs R) (hm:bs.length<=1000) (hv:JcE w v ws) (hd:∀(k b:Nat),bs[k]?=some b->isCl lo w b (k:Int) (clK R k).1 (clK R k).2/\(clK R k).2.seen.length<=1000000) :
    Cg 35 #[Pd q 0,v] w λe w'=>e=JgJ ((cliD bs.length s).map λk=>Jh5 (clK R k).2.seen)/\Bw w w':=by
 obtain⟨b,o,c,rfl,hlt,hbw,hc⟩:=JcR hv h1;have CC:Hid _:=Jgj s hs q w he hg hq h hm;have hli:(1:Int)<(ws.length:Int):=by omega
 have HD:=hdz hd;have HU:=hdz hU;generalize ws.length=n at *
 rcases hx:cliD bs.length s with m|k
 . have CC2:Hid (Cg 54 #[Pd q 0,Sx s] w λe w'=>e=JaA m/\Bw w w'):=Calls.mono CC.out λe w' ⟨a,b⟩=>by
     rcases JbE a with ⟨m',e1,e2⟩|⟨k,b',e1,_⟩
     . rw[hx]at e1;injection e1 with e1;subst e1;exact⟨e2,b⟩
     . rw[hx]at e1;cases e1
   clear CC he hg hU h hv hd h1 hx
   go_enter func35,ntmps35
   go_wp2_with (go_at_call 54;refine Calls.mono CC2.out ?_;rintro e w1 ⟨rfl,h⟩;unfold JaA;have HB1:=hdz h;clear h)
   exact⟨rfl,rfl,HB1.out⟩
 . have CC2:Hid (Cg 54 #[Pd q 0,Sx s] w λe w'=>∃b,bs[k]?=some b/\e=.returned (Pd b 0)/\Bw w w'):=Calls.mono CC.out λe w' ⟨a,b⟩=>by
     rcases JbE a with ⟨m',e1,e2⟩|⟨k',b',e1,e2,e3⟩
     . rw[hx]at e1;cases e1
     . rw[hx]at e1;injection e1 with e1;subst e1;exact⟨b',e2,e3,b⟩
   clear CC he hg hU h hv hd h1 hx
   go_enter func35,ntmps35
   go_wp2_with (first
    | (go_at_call 54;refine Calls.mono CC2.out ?_;rintro e w1 ⟨b1,hb1,rfl,h⟩;have HB1:=hdz h;have HC1:Hid _:=HD.out k b1 hb1;clear h)
    | (go_at_call 70;refine(Jr4 (Jbm HC1.out.1 HB1.out)).mono ?_;rintro e w2 ⟨rfl,h⟩;have HB2:=hdz (HB1.out.trans (h.mono HB1.out.size));clear h)
    | (go_at_call 68;refine(Jf4 _ HC1.out.2 _ (Go.Proofs.Utf8Tabs_below HU.out HB2.out)).mono ?_;rintro e w3 ⟨rfl,h⟩;have HB3:=hdz (HB2.out.trans (h.mono HB2.out.size));clear h))
   go_ret;exact⟨rfl,HB3.out⟩
theorem Jdt(w:World)(ns:List Int)(T:TypeId)(hl:ns.length<=1000000):Je5 (w.alloc (.cells (intC ns).toArray T)) (Sl w.heap.size ns.length ns.length) ns:=by
 refine⟨_,_,rfl,nlr _,by unfold maxLen;omega,λ_=>⟨_,_,rfl,by simp,λi u hu=>?_⟩⟩;rw[chp (heap_alloc_new _ _)];simp[intC,hu]
theorem JrZ(v:Value)(q:Nat)(w:World)(he:EnvK w)
    (hq:w.cell? (Ad q 0)=some (Pd r 0)) (h:isRoom lo w r bx bmx bs R) (hf:R.fl.length<=1000000) :
    Cg 32 #[Pd q 0,v] w (Rt w (Sx (JcV [(R.fl.length:Int)]))):=by
 have CM:Hid _:=Jga h;have CT:Hid (∀wx,Bw w wx->Cg 62 #[Sl wx.heap.size 1 1] (wx.alloc (Oc #[I6 (R.fl.length:Int)] 3)) λe w'=>e=.returned (Sx (JcV [(R.fl.length:Int)]))/\Below (wx.heap.size+1) (wx.alloc (Oc #[I6 (R.fl.length:Int)] 3)) w'):=λwx hb=>by
  have:=JbX [(R.fl.length:Int)] (λn hn=>by rw[List.mem_singleton.1 hn];omega) (by simp) _ _ ((he.below hb).below ((brf _ wx).alloc (nlr _) (.cells (intC [(R.fl.length:Int)]).toArray 3))) (Jdt wx [(R.fl.length:Int)] 3 (by simp));rw[wsa]at this;exact this
 clear he h;generalize (R.fl.length:Int)=z at *
 go_enter func32,ntmps32
 go_wp2_with (first
  | (go_at_call 63;refine Calls.mono CM.out ?_;rintro e w1 ⟨rfl,h⟩;have HB1:=hdz h;clear h)
  | (go_at_call 62;refine(CT.out _ HB1.out).mono ?_;rintro e w2 ⟨rfl,h⟩;have HB2:Hid (Bw w w2):=(HB1.out.alloc HB1.out.size _).trans (h.mono (by have:=HB1.out.size;omega));clear h))
 go_ret;exact⟨rfl,HB2.out⟩
end
end Go.Proofs.YtbkeomcicobohaaGreatDoor
namespace Go.Proofs
open Go.Shelf
def Tryz.lays121_ren:Go.Shelf.Ren:=⟨λ| 121=>66 | 214=>113 | n=>n,λ| 4=>4 | 9=>9 | n=>n,λ| n=>n⟩
theorem Tryz.lays121:Go.Proofs.Lays.n121 Tryz.prog Tryz.lays121_ren:={
 mixed:=by kernel_rfl
 f121:=Tryz.func66.trans (congrArg some (by kernel_rfl))
 f214:=Tryz.func113.trans (congrArg some (by kernel_rfl))
 t4:=Tryz.underlying4
 a4:=Tryz.isAgg4
 z4:=Tryz.sizeOf4
 v4:=Tryz.zeroValue4
 t9:=Tryz.underlying9
 a9:=Tryz.isAgg9
 z9:=Tryz.sizeOf9
 v9:=Tryz.zeroValue9 }
open Go.RowKit in
theorem Tryz.strconv_FormatBool(b:Bool)(w:World) :
    Calls Tryz.prog 66 #[.bool b] w λe w'=>e=.returned (.string ⟨(Lib.formatBool b).toArray⟩)/\w'=w:=Any.strconv_FormatBool Tryz.lays121 b w
end Go.Proofs
namespace Go.Proofs.YtbkeomcicobohaaGreatDoor
open Go.Proofs.Tryz Go.RowKit Go.Maps
def revT (S:Cl):List UInt8:=JcV [S.rev,S.drops]++[32]++Lib.formatBool (decide (0<S.mine.length))
theorem Jum{lo:Nat}{r bx bmx:Nat}{bs:List Nat}{R:Rm}(ws:List (List UInt8))(s:List UInt8)(h1:ws[1]?=some s)(hs:s.length<=1000000)(hwl:ws.length<=1000000)(v:Value)(q:Nat)(w:World)(he:EnvK w)(hg:JbM w)(hU:Lib.Utf8Tabs 3 4 w)
    (hq:w.cell? (Ad q 0)=some (Pd r 0)) (h:isRoom lo w r bx bmx bs R) (hm:bs.length<=1000) (hv:JcE w v ws) (hd:∀(k b:Nat),bs[k]?=some b->isCl lo w b (k:Int) (clK R k).1 (clK R k).2/\(0<=(clK R k).2.rev/\(clK R k).2.rev<=1000000000)/\(0<=(clK R k).2.drops/\(clK R k).2.drops<=1000000000)) :
    Cg 33 #[Pd q 0,v] w λe w'=>e=JgJ ((cliD bs.length s).map λk=>revT (clK R k).2)/\Bw w w':=by
 obtain⟨b,o,c,rfl,hlt,hbw,hc⟩:=JcR hv h1;have CC:Hid _:=Jgj s hs q w he hg hq h hm;have hli:(1:Int)<(ws.length:Int):=by omega
 have HD:=hdz hd;generalize ws.length=n at *
 rcases hx:cliD bs.length s with m|k
 . have CC2:Hid (Cg 54 #[Pd q 0,Sx s] w λe w'=>e=JaA m/\Bw w w'):=Calls.mono CC.out λe w' ⟨a,b⟩=>by
     rcases JbE a with ⟨m',e1,e2⟩|⟨k,b',e1,_⟩
     . rw[hx]at e1;injection e1 with e1;subst e1;exact⟨e2,b⟩
     . rw[hx]at e1;cases e1
   clear CC he hg hU h hv hd h1 hx
   go_enter func33,ntmps33
   go_wp2_with (go_at_call 54;refine Calls.mono CC2.out ?_;rintro e w1 ⟨rfl,h⟩;unfold JaA;have HB1:=hdz h;clear h)
   exact⟨rfl,rfl,HB1.out⟩
 . have CC2:Hid (Cg 54 #[Pd q 0,Sx s] w λe w'=>∃b,bs[k]?=some b/\e=.returned (Pd b 0)/\Bw w w'):=Calls.mono CC.out λe w' ⟨a,b⟩=>by
     rcases JbE a with ⟨m',e1,e2⟩|⟨k',b',e1,e2,e3⟩
     . rw[hx]at e1;cases e1
     . rw[hx]at e1;injection e1 with e1;subst e1;exact⟨b',e2,e3,b⟩
   show Cg 33 _ w (Rt w (Sx (revT (clK R k).2)));have CT:Hid (∀(ns:List Int),(∀n∈ns,-9223372036854775808<=n/\n<=9223372036854775807)->ns.length<=100000->∀wx,Bw w wx->Cg 62 #[Sl wx.heap.size ns.length ns.length] (wx.alloc (.cells (intC ns).toArray 3)) λe w'=>e=.returned (Sx (JcV ns))/\Below (wx.heap.size+1) (wx.alloc (.cells (intC ns).toArray 3)) w'):=λns h1 h2 wx hb=>by
    have:=JbX ns h1 h2 _ _ ((he.below hb).below ((brf _ wx).alloc (nlr _) (.cells (intC ns).toArray 3))) (Jdt wx ns 3 (by omega));rw[wsa]at this;exact this
   have hnl:∀a b:Int,0<=a/\a<=1000000000->0<=b/\b<=1000000000->(JcV [a,b]).length<=1000:=λa b h1 h2=>by
    have:=Ji6 [32] 21 ([a,b].map Lib.itoa) λx hx=>by
     obtain⟨n,hn,rfl⟩:=List.mem_map.1 hx;simp only[List.mem_cons,List.not_mem_nil,or_false]at hn
     rcases hn with rfl|rfl
     . exact Lib.itoa_length_le _ (by omega) (by omega)
     . exact Lib.itoa_length_le _ (by omega) (by omega)
    simp at this;unfold JcV;simp;omega
   have HNL:=hdz hnl;clear CC he hg hU h hv hd h1 hx hnl;have hl2:(Lib.formatBool (decide (0<(clK R k).2.mine.length))).length<=5:=by cases decide (0<(clK R k).2.mine.length)<;>decide
   unfold revT;have HCL:Hid (∀b:Nat,bs[k]?=some b->isCl lo w b (k:Int) (clK R k).1 (clK R k).2/\(0<=(clK R k).2.rev/\(clK R k).2.rev<=1000000000)/\(0<=(clK R k).2.drops/\(clK R k).2.drops<=1000000000)):=HD.out k;clear HD;generalize (clK R k).2=S at *;generalize (clK R k).1=u at *;generalize hB2:Lib.formatBool (decide (0<S.mine.length))=N2 at *;have HF:Hid (∀wx,Cg 66 #[.bool (decide (0<S.mine.length))] wx λe w'=>e=.returned (Sx N2)/\w'=wx):=λwx=>hB2 ▸ strconv_FormatBool (decide (0<S.mine.length)) wx;clear hB2;generalize hbo:decide (0<S.mine.length)=bo at *;have HBO:=hdz hbo;clear hbo;obtain⟨rv,hrv⟩:∃rv,S.rev=rv:=⟨_,rfl⟩;obtain⟨dr,hdr⟩:∃dr,S.drops=dr:=⟨_,rfl⟩;obtain⟨N1,hN1⟩:∃N1,JcV [rv,dr]=N1:=⟨_,rfl⟩;have HR:=hdz hrv;have HDR:=hdz hdr;have HN1:=hdz hN1;rw[hrv,hdr,hN1];clear hrv hdr hN1
   go_enter func33,ntmps33
   go_wp2_with (first
    | (go_at_call 54;refine Calls.mono CC2.out ?_;rintro e w1 ⟨b1,hb1,rfl,h⟩;have HB1:=hdz h;have HC1:Hid _:=HCL.out b1 hb1;have hl1:N1.length<=1000:=(by have h1:=HC1.out.2.1;have h2:=HC1.out.2.2;rw[HR.out]at h1;rw[HDR.out]at h2;rw[←HN1.out];exact HNL.out _ _ h1 h2);clear h)
    | (go_at_call 64;refine(JnK (Jbm HC1.out.1 HB1.out)).mono ?_;rintro e w2 ⟨rfl,h⟩;have HB2:=hdz (HB1.out.trans (h.mono HB1.out.size));clear h)
    | (go_at_call 65;refine(Jmn (Jbm HC1.out.1 HB2.out)).mono ?_;rintro e w3 ⟨rfl,h⟩;have HB3:=hdz (HB2.out.trans (h.mono HB2.out.size));rw[HR.out,HDR.out];clear h)
    | (go_at_call 62;refine(CT.out [rv,dr] (λn hn=>by have h1:=HC1.out.2.1;have h2:=HC1.out.2.2;rw[HR.out]at h1;rw[HDR.out]at h2;simp at hn;rcases hn with rfl|rfl<;>omega) (by simp) _ HB3.out).mono ?_;rintro e w4 ⟨rfl,h⟩;have HB4:Hid (Bw w w4):=(HB3.out.alloc HB3.out.size _).trans (h.mono (by have:=HB3.out.size;omega));rw[HN1.out];clear h)
    | (go_at_call 67;refine(JbB (Jbm HC1.out.1 HB4.out)).mono ?_;rintro e w5 ⟨rfl,h⟩;have HB5:=hdz (HB4.out.trans (h.mono HB4.out.size));rw[HBO.out];clear h)
    | (go_at_call 66;refine(HF.out _).mono ?_;rintro e w6 ⟨rfl,rfl⟩))
   go_ret;exact⟨by congr 2,HB5.out⟩
def JiX (R:Rm):List UInt8:=JcV [(R.E.length:Int)]++[32]++Jh5 R.t
theorem Jog{lo:Nat}{r bx bmx:Nat}{bs:List Nat}{R:Rm}(v:Value)(q:Nat)(w:World)(he:EnvK w)(hU:Lib.Utf8Tabs 3 4 w)
    (hq:w.cell? (Ad q 0)=some (Pd r 0)) (h:isRoom lo w r bx bmx bs R) (hE:R.E.length<=1000000) (ht:R.t.length<=1000000) :
    Cg 36 #[Pd q 0,v] w (Rt w (Sx (JiX R))):=by
 have CR:Hid (∀wx,Bw w wx->Cg 71 #[Pd r 0] wx (Rt wx (I6 (R.E.length:Int)))):=λwx hb=>Js4 (Jal h hb);have CX:Hid (∀wx,Bw w wx->Cg 72 #[Pd r 0] wx (Rt wx (Sx R.t))):=λwx hb=>JqM (Jal h hb);have CW:Hid (∀wx,Bw w wx->Cg 68 #[Sx R.t] wx (Rt wx (Sx (Jh5 R.t)))):=λwx hb=>Jf4 R.t ht wx (Go.Proofs.Utf8Tabs_below hU hb);have CT:Hid (∀wx,Bw w wx->Cg 62 #[Sl wx.heap.size 1 1] (wx.alloc (Oc #[I6 (R.E.length:Int)] 3)) λe w'=>e=.returned (Sx (JcV [(R.E.length:Int)]))/\Below (wx.heap.size+1) (wx.alloc (Oc #[I6 (R.E.length:Int)] 3)) w'):=λwx hb=>by
  have:=JbX [(R.E.length:Int)] (λn hn=>by rw[List.mem_singleton.1 hn];omega) (by simp) _ _ ((he.below hb).below ((brf _ wx).alloc (nlr _) (.cells (intC [(R.E.length:Int)]).toArray 3))) (Jdt wx [(R.E.length:Int)] 3 (by simp));rw[wsa]at this;exact this
 have hl1:(JcV [(R.E.length:Int)]).length<=1000:=by
  have:=Lib.itoa_length_le (R.E.length:Int) (by omega) (by omega);unfold JcV;simp only[List.map,Lib.join_one];omega
 have hl2:(Jh5 R.t).length<=1000001:=by unfold Jh5;split<;>simp<;>omega
 have hlq:=blt w _ hq;have HQ:Hid (∀wx,Bw w wx->wx.cell? (Ad q 0)=some (Pd r 0)):=λwx hb=>(zC hb q 0 hlq).trans hq;have hd:w.drew.cell? (Ad q 0)=some (Pd r 0):=hq;have HD:Hid (Bw w w.drew):=(brf w.heap.size w).drew;unfold JiX;clear he hU h hE ht hlq;generalize (R.E.length:Int)=z at *;generalize JcV [z]=N1 at *;generalize Jh5 R.t=N2 at *;generalize R.t=t at *
 go_enter func36,ntmps36
 go_wp2
 go_region_with (first
  | (go_at_call 71;refine(CR.out _ HD.out).mono ?_;rintro e w1 ⟨rfl,h⟩;have HB1:=hdz (HD.out.trans (h.mono HD.out.size));have hq1:=HQ.out _ HB1.out;have hq1':(w1.alloc (Oc #[I6 z] 3)).cell? (Ad q 0)=_:=HQ.out _ (HB1.out.alloc HB1.out.size _);clear h)
  | (go_at_call 62;refine(CT.out _ HB1.out).mono ?_;rintro e w2 ⟨rfl,h⟩;have HB2:Hid (Bw w w2):=(HB1.out.alloc HB1.out.size _).trans (h.mono (by have:=HB1.out.size;omega));have hq2:=HQ.out _ HB2.out;clear h)
  | (go_at_call 72;refine(CX.out _ HB2.out).mono ?_;rintro e w3 ⟨rfl,h⟩;have HB3:=hdz (HB2.out.trans (h.mono HB2.out.size));clear h)
  | (go_at_call 68;refine(CW.out _ HB3.out).mono ?_;rintro e w4 ⟨rfl,h⟩;have HB4:=hdz (HB3.out.trans (h.mono HB3.out.size));clear h))
 all_goals
  go_wp2;go_ret;exact⟨by congr 2,HB4.out⟩
def cntL (t:List UInt8):List Int:=[sum1 (scan t).1,sum2 (scan t).1,(scan t).1.length,sum4 (scan t).1]
def Jj5 (t:List UInt8):Except Int (List UInt8):=if (scan t).2=true then .ok (JcV (cntL t)) else .error 3
theorem JkS(t:List UInt8)(ht:t.length<=1000000):∀n∈cntL t,-9223372036854775808<=n/\n<=9223372036854775807:=λn hn=>by
 have h0:=JgQ t;have h1:=JlC (scan t).1 (Jo4 t);have h2:=JiO (scan t).1;have h4:=JiN (scan t).1;simp only[cntL,List.mem_cons,List.not_mem_nil,or_false]at hn
 rcases hn with rfl|rfl|rfl|rfl<;>omega
theorem Jqy(ws:List (List UInt8))(s:List UInt8)(h1:ws[1]?=some s)(hs:s.length<=1000000)(hwl:ws.length<=1000000)(v:Value)(q:Option Addr)(w:World)(he:EnvK w)(hg:JbM w)(hU:Lib.Utf8Tabs 3 4 w)(hv:JcE w v ws) :
    Cg 37 #[.pointer q,v] w λe w'=>e=JgJ (Jj5 (Ja2 s))/\Bw w w':=by
 obtain⟨b,o,c,rfl,hlt,hbw,hc⟩:=JcR hv h1;have hli:(1:Int)<(ws.length:Int):=by omega
 have CX:Hid _:=JfX s hs w hU;have ht:(Ja2 s).length<=1000000:=by unfold Ja2;split<;>simp<;>omega
 have hr:=JkS (Ja2 s) ht;have CC:=λ(wx:World) (hb:Bw w wx)=>JfS ⟨(Ja2 s).toArray⟩ (by simp[ByteArray.size];omega) wx (Go.Proofs.Utf8Tabs_below hU hb);generalize ws.length=n at *;unfold Jj5
 by_cases hok:(scan (Ja2 s)).2=true
 . have CC2:Hid (∀wx,Bw w wx->Cg 47 #[Sx (Ja2 s)] wx (Rt wx (.tuple #[cnt (sum1 (scan (Ja2 s)).1) (sum2 (scan (Ja2 s)).1) ((scan (Ja2 s)).1.length:Int) (sum4 (scan (Ja2 s)).1),.nilIface]))):=λwx hb=>(CC wx hb).mono λe w' ⟨v,x,e1,e2,e3⟩=>by
     rcases e3 with ⟨_,rfl,rfl⟩|⟨e4,_⟩
     . exact⟨e1,e2⟩
     . have e4:(scan (Ja2 s)).2=false:=by simpa using e4
       rw[hok]at e4;cases e4
   have CT:Hid (∀(ns:List Int),(∀n∈ns,-9223372036854775808<=n/\n<=9223372036854775807)->ns.length<=100000->∀wx,Bw w wx->Cg 62 #[Sl wx.heap.size ns.length ns.length] (wx.alloc (.cells (intC ns).toArray 3)) λe w'=>e=.returned (Sx (JcV ns))/\Below (wx.heap.size+1) (wx.alloc (.cells (intC ns).toArray 3)) w'):=λns h1 h2 wx hb=>by
    have:=JbX ns h1 h2 _ _ ((he.below hb).below ((brf _ wx).alloc (nlr _) (.cells (intC ns).toArray 3))) (Jdt wx ns 3 (by omega));rw[wsa]at this;exact this
   rw[if_pos hok];show Cg 37 _ w (Rt w (Sx (JcV (cntL (Ja2 s)))));have HR:=hdz hr;unfold cntL at HR ⊢;unfold cnt at CC2;clear CC he hg hU hv h1 hok ht hr;generalize sum1 (scan (Ja2 s)).1=n1 at *;generalize sum2 (scan (Ja2 s)).1=n2 at *;generalize sum4 (scan (Ja2 s)).1=n4 at *;generalize ((scan (Ja2 s)).1.length:Int)=n3 at *;generalize Ja2 s=t at *
   go_enter func37,ntmps37
   go_wp2_with (first
    | (go_at_call 50;refine Calls.mono CX.out ?_;rintro e w1 ⟨rfl,h⟩;have HB1:=hdz h;clear h)
    | (go_at_call 47;refine(CC2.out _ HB1.out).mono ?_;rintro e w2 ⟨rfl,h⟩;have HB2:=hdz (HB1.out.trans (h.mono HB1.out.size));clear h)
    | (go_at_call 52;refine(JlW _).mono ?_;rintro e w3 ⟨rfl,h⟩;have HB3:Hid (Bw w w3):=(HB2.out.alloc HB2.out.size _).trans (h.mono (by have:=HB2.out.size;simp;omega));have hbk:=(h.block w2.heap.size (by simp)).trans (heap_alloc_new w2 (Oc #[I6 n1,I6 n2,I6 n3,I6 n4] 78));have q0:=chp hbk 0;have q1:=chp hbk 1;have q2:=chp hbk 2;have q3:=chp hbk 3;clear h hbk)
    | (go_at_call 62;refine(CT.out [n1,n2,n3,n4] HR.out (by simp) _ HB3.out).mono ?_;rintro e w4 ⟨rfl,h⟩;have HB4:Hid (Bw w w4):=(HB3.out.alloc HB3.out.size _).trans (h.mono (by have:=HB3.out.size;omega));clear h))
   go_ret;exact⟨rfl,HB4.out⟩
 . have hok:(scan (Ja2 s)).2=false:=Bool.eq_false_iff.2 hok
   have CC2:Hid (∀wx,Bw w wx->Cg 47 #[Sx (Ja2 s)] wx λe w'=>∃a,e=.returned (.tuple #[cnt 0 0 0 0,.iface 229 (Pd a 0)])/\w'.cell? (Ad a 0)=some (I6 3)/\Bw wx w'):=λwx hb=>(CC wx hb).mono λe w' ⟨v,x,e1,e2,e3⟩=>by
    rcases e3 with ⟨e4,_⟩|⟨_,rfl,a,rfl,_,_,h4,_⟩
    . have e4:(scan (Ja2 s)).2=true:=by simpa using e4
      rw[hok]at e4;cases e4
    . exact⟨a,e1,h4,e2⟩
   have CM:Hid (∀(a:Nat) (wx:World),Bw w wx->wx.cell? (Ad a 0)=some (I6 3)->Cg 52 #[.iface 229 (Pd a 0)] wx λe w'=>e=JaA 3/\Bw wx w'):=λa wx hb hc =>
    Ji3 _ _ 3 wx (JhP a 3 wx (JaQ hg hb) hc)
   rw[if_neg (by rw[hok];decide)];show Cg 37 _ w (λe w'=>e=JaA 3/\Bw w w');unfold cnt at CC2;clear CC he hg hU hv h1 hok ht hr;generalize Ja2 s=t at *
   go_enter func37,ntmps37
   go_wp2_with (first
    | (go_at_call 50;refine Calls.mono CX.out ?_;rintro e w1 ⟨rfl,h⟩;have HB1:=hdz h;clear h)
    | (go_at_call 47;refine(CC2.out _ HB1.out).mono ?_;rintro e w2 ⟨a,rfl,h1,h⟩;have HB2:=hdz (HB1.out.trans (h.mono HB1.out.size));have HC2:=hdz h1;clear h h1)
    | (go_at_call 52;refine(CM.out a _ (HB2.out.alloc HB2.out.size _) (zC ((brf _ w2).alloc (nlr _) _) a 0 (blt w2 _ HC2.out) |>.trans HC2.out)).mono ?_;rintro e w3 ⟨rfl,h⟩;unfold JaA;have HB3:Hid (Bw w w3):=(HB2.out.alloc HB2.out.size _).trans (h.mono (by have:=HB2.out.size;simp;omega));clear h))
   exact⟨rfl,rfl,HB3.out⟩
section
variable {P : Program} (w : World)
theorem Jgt(base:Nat)(t ty e:TypeId)(i:TypeInfo)(z:Value)(size bytes:Nat)(ht:P.underlying t=some (.slice e))(hi:P.info? e=some i)(hz:i.zero=some z)
    (hsize:i.size=size) (hby:i.bytes=bytes) (hzs:z.cells.size=size) (hsz:0<size) (v:Value) (n:Nat) (xs:List Value) (hown:w.ownsRow base e size v n xs)
    (a:Addr) (m c:Nat) (news:List Value) (hl:news.length=m*size) (hnews:∀j u,news[j]?=some u->w.cell? (a.add j)=some u) (h1:∀u∈news,u.oneCell'=true)
    (h63:n+m<=maxLen) (hbytes:(n+m)*bytes<=140737488355328) (hbase:base<=w.heap.size) (hm:0<m) :
    ∃ v' w',(Builtin.append_ #[t,t] ty #[v,.slice (some a) m c]).run P w=.ok v' w'/\w'.ownsRow base e size v' (n+m) (xs++news)/\w.grownBy w' v.ownBlock /\
     ∀k,v'.ownBlock=some k->v.ownBlock=some k\/w.heap.size<=k:=by
 obtain⟨v',w',r1,r2,r3,_⟩:=run_append_own w base t ty e i z size bytes ht hi hz hsize hby hzs hsz v n xs hown a m c news hl hnews h1 h63 hbytes hbase;refine⟨v',w',r1,r2,r3,?_⟩;subst hsize;subst hby;have key:∀x y,(Builtin.append_ #[t,t] ty #[v,.slice (some a) m c]).run P w=.ok x y->x=v':=λx y h=>by
  rw[h]at r1;injection r1
 unfold maxLen at h63
 rcases hown.2 with ⟨rfl,rfl⟩|⟨g,cap,cur,rfl,hbg,hg,hnc,hcm,hcs,htake⟩
 . have hr:=run_append_nil (P:=P) w t ty e i z ht hi hz a m c news hl hnews hm (by omega) (by have hb:=hbytes;simp only[Nat.zero_add]at hb;omega)
   have:=key _ _ hr;subst this;intro k hk;exact .inr (Nat.le_of_eq (osi hk))
 . by_cases hroom:n+m<=cap
   . obtain⟨w2,hr,_,_⟩:=run_append_fits (P:=P) w base t ty e i i.size ht hi rfl g n cap xs hown a m c news hl hnews h1 hroom
     have:=key _ _ hr;subst this;intro k hk;exact .inl hk
   . have holds:∀j u,xs[j]?=some u->w.cell? (((Ad g 0):Addr).add j)=some u:=hown.cells (g:=g) rfl
     have hr:=run_append_grow (P:=P) w t ty e i z ht hi hz (Ad g 0) n cap xs hown.1 holds a m c news hl hnews (by omega) (by omega) (growslice_fits (by omega) hbytes);have:=key _ _ hr;subst this;intro k hk;exact .inr (Nat.le_of_eq (osi hk))
theorem JeD{ops:Array Oper}{rest:List Oper}{o:Oper}{a:Act}{Q:Exit->Act->World->Prop}(hgd:o.guard=none)(s x:Operand)(t:TypeId)
    (ho:o.op=.call { callee:=.builtin .append,args:=#[s,x],argTypes:=#[t,t] })
    (base:Nat) (e:TypeId) (i:TypeInfo) (z:Value) (size bytes:Nat) (ht:P.underlying t=some (.slice e)) (hi:P.info? e=some i) (hz:i.zero=some z)
    (hsize:i.size=size) (hby:i.bytes=bytes) (hzs:z.cells.size=size) (hsz:0<size) (v:Value) (n:Nat) (xs:List Value) (hs:a.eval s=v) (hown:w.ownsRow base e size v n xs)
    (ad:Addr) (m c:Nat) (news:List Value) (hx:a.eval x=.slice (some ad) m c) (hl:news.length=m*size) (hnews:∀j u,news[j]?=some u->w.cell? (ad.add j)=some u) (h1:∀u∈news,u.oneCell'=true)
    (h63:n+m<=maxLen) (hbytes:(n+m)*bytes<=140737488355328) (hbase:base<=w.heap.size) (hm:0<m)
    (h:∀v' w',w'.ownsRow base e size v' (n+m) (xs++news)->w.grownBy w' v.ownBlock->(∀k,v'.ownBlock=some k->v.ownBlock=some k\/w.heap.size<=k)->wpList P ops Q rest (a.put o.dst v') w'):wpList P ops Q (o :: rest) a w :=
 wpList_plain hgd λK hK=>by
  obtain⟨v',w',hr,h2,h3,h4⟩:=Jgt (P:=P) w base t o.type e i z size bytes ht hi hz hsize hby hzs hsz v n xs hown ad m c news hl hnews h1 h63 hbytes hbase hm;unfold Oper.wp execOp;simp only[ho,resolve,invoke,builtin,Sem.run_bind,Sem.run_pure,Result.andThen_ok,List.map_toArray,List.map_cons,List.map_nil,hs,hx,hr];exact hK _ _ (h v' w' h2 h3 h4)
end
structure GrowZ (Z:World->Prop) (G:World->World):Prop where
 grow:∀{w w':World},Z w->Bw w w'->Z w'
 but:∀x,Z (G x)
 onto:∀w,Z w->G w=w
open Classical in
theorem Jb6{Z:World->Prop}{W:World}(hW:Z W)(h:∀{w w':World},Z w->Bw w w'->Z w'):∃G,GrowZ Z G :=
 ⟨λx=>if Z x then x else W,h,λx=>by
  show Z (if Z x then x else W)
  split
  . assumption
  . exact hW,λw h=>if_pos h⟩
section
variable {P : Program} {ops : Array Oper} {md : Region.Mode} {m : Nat} {Z : World → Prop} {Q : Exit → Act → World → Prop}
def anyZ (Z:World->Prop) (P:Program) (md:Region.Mode) (ops:Array Oper) (m:Nat) (Q:Exit->Act->World->Prop):Nat->Array Bool->Act->World->Prop
 | 0,listed,a,w=>Region.ready md ops listed=[]/\∀w',Bw w w'->Q .normal a w'
 | fuel+1,listed,a,w =>
  (Region.ready md ops listed=[]->∀w',Bw w w'->Q .normal a w') /\
  ∀i∈Region.ready md ops listed,∀w',Bw w w'->opG P ops i (λa' w''=>(i<m->Z w'->Z w'')/\anyZ Z P md ops m Q fuel (listed.setIfInBounds i true) a' w'') a w'
theorem JjI:∀(fuel:Nat)(listed:Array Bool)(a:Act)(w:World),anyZ Z P md ops m Q fuel listed a w->wpAny P md ops Q fuel listed a w
 | 0,_,_,w,h=>⟨h.1,h.2 w (brf _ _)⟩
 | fuel + 1,listed,a,w,h=>⟨λh0=>h.1 h0 w (brf _ _),λi hi=>by
     have h1:=h.2 i hi w (brf _ _);have h2:=Je2 (λa' w'' hh=>JjI fuel _ a' w'' hh.2) h1;unfold opG at h2;unfold wpOp
     split
     . rename_i ho;simp only[ho]at h2;exact h2
     . rename_i o ho
       simp only[ho]at h2
       split
       . rename_i hw;simp only[hw,if_true]at h2;exact .inl (Jh3 h2)
       . rename_i hw;simp only[hw]at h2;exact h2⟩
theorem Jlm:∀{fuel:Nat}{listed:Array Bool}{a:Act}{w w2:World},anyZ Z P md ops m Q fuel listed a w->Bw w w2->anyZ Z P md ops m Q fuel listed a w2
 | 0,_,_,_,_,h,hb=>⟨h.1,λw' hb'=>h.2 w' (hb.trans (hb'.mono hb.size))⟩
 | _+1,_,_,_,_,h,hb=>⟨λh0 w' hb'=>h.1 h0 w' (hb.trans (hb'.mono hb.size)),λi hi w' hb'=>h.2 i hi w' (hb.trans (hb'.mono hb.size))⟩
def Jcg (Z:World->Prop) (P:Program) (ops:Array Oper) (o:Oper) (v:Value) (a:Act):Prop :=
 if Region.wanted o (yielded ops a.tmps) then ∀w',Z w'->Jaj P w' v ((execOp a.eval o).run P w') else v=undef
theorem JhR{o:Oper}{v:Value}{a a':Act}(hy:Jcg Z P ops o v a)(he:execOp a'.eval o=execOp a.eval o)
    (hw:Region.wanted o (yielded ops a'.tmps)=Region.wanted o (yielded ops a.tmps)):Jcg Z P ops o v a':=by
 unfold Jcg at *;rw[hw,he];exact hy
theorem Jgv{i:Nat}{o:Oper}{v:Value}{a:Act}{w':World}(hi:ops[i]?=some o)(hy:Jcg Z P ops o v a)(hb:Z w'){K:Act->World->Prop}
    (h:∀w'',Bw w' w''->K (a.put o.dst v) w''):opG P ops i K a w':=by
 unfold opG;simp only[hi];unfold Jcg at hy
 split
 . rename_i hw
   rw[if_pos hw]at hy;have h3:=hy w' hb;generalize (execOp a.eval o).run P w'=r at *
   cases r with
   | ok n w2 =>
    cases n<;>simp only[Jaj]at h3<;>simp only[JaD]
    case value u =>
     obtain⟨e1,e2⟩:=h3;rw[e2];exact h _ (by rw[e1];exact brf _ _)
    case skip =>
     obtain⟨e1,e2⟩:=h3;rw[←e2];exact h _ (by rw[e1];exact brf _ _)
    case enter f args =>
     obtain⟨e1,hc⟩:=h3;rw[e1];exact hc.mono λe w'' ⟨he,hw''⟩=>⟨v,he,h _ hw''⟩
   | halt x w2=>simp only[Jaj]at h3
 . rename_i hw
   rw[if_neg hw]at hy;rw[←hy];exact h _ (brf _ _)
theorem JuC{j:Nat}{oi oj:Oper}{v:Value}(hj:ops[j]?=some oj)(hap:oi.apart ops oj=true)(hsi:∀cs b,oi.op≠.select cs b)(hsj:∀cs b,oj.op≠.select cs b)
    {K:Act->World->Prop} {a:Act} {w:World} (hy:Jcg Z P ops oi v a) (h:opG P ops j K (a.put oi.dst v) w) :
    opG P ops j (λa' w'=>Jcg Z P ops oi v a'/\K (a'.put oi.dst v) w') a w:=by
 obtain⟨h1,h2,h3⟩:=Oper.apart_spec hap;have keep:∀u,Jcg Z P ops oi v (a.put oj.dst u):=λu=>JhR hy (execOp_put oi hsi a oj.dst u h3) (wanted_put oi a oj.dst u h3);unfold opG at *;simp only[hj]at *;rw[wanted_put oj a oi.dst v h1]at h
 split
 . rename_i hw
   simp only[hw,if_true]at h;rw[execOp_put oj hsj a oi.dst v h1]at h;generalize (execOp a.eval oj).run P w=r at *
   cases r with
   | ok n w2 =>
    cases n<;>simp only[JaD]at h ⊢
    case value u=>exact⟨keep u,by rw[←Act.put_comm a v u h2];exact h⟩
    case skip=>exact⟨keep _,by rw[←Act.put_comm a v undef h2];exact h⟩
    case enter f args=>exact h.mono λe w'' ⟨u,e1,e2⟩=>⟨u,e1,keep u,by rw[←Act.put_comm a v u h2];exact e2⟩
   | halt x w2=>simp only[JaD]at h
 . rename_i hw
   simp only[hw]at h;exact⟨keep _,by rw[←Act.put_comm a v undef h2];exact h⟩
theorem Jln(hZ:∀{w w':World},Z w->Bw w w'->Z w'){i:Nat}{oi:Oper}{v:Value}(hi:ops[i]?=some oi)(him:i<m)(hsel:∀(j:Nat)(o:Oper) cs b,ops[j]?=some o->o.op≠.select cs b)(hlate:JeJ md ops m=true) :
    ∀ (fuel:Nat) (listed:Array Bool) (a:Act) (w:World),Z w ->
     (∀j oj,ops[j]?=some oj->j≠i->listed.getD j true=false->(∀e∈oj.after,Region.binds md e=true->e.on≠i)->oi.apart ops oj=true) ->
     i∈Region.ready md ops listed->Jcg Z P ops oi v a ->
     anyZ Z P md ops m Q fuel (listed.setIfInBounds i true) (a.put oi.dst v) w->anyZ Z P md ops m Q (fuel+1) listed a w:=by
 intro fuel
 induction fuel with
 | zero =>
  intro listed a w hC _ hr hy H;refine⟨λh=>(by rw[h]at hr;cases hr),λj hj w' hb=>?_⟩
  by_cases hji:j=i
  . subst hji;exact Jgv hi hy (hZ hC hb) λw'' hb'=>⟨λ_ h=>hZ h hb',Jlm H (hb.trans (hb'.mono hb.size))⟩
  . have:=ready_mono hj hji
    rw[H.1]at this
    cases this
 | succ fuel ih =>
  intro listed a w hC hfree hr hy H;refine⟨λh=>(by rw[h]at hr;cases hr),λj hj w' hb=>?_⟩;have hC':=hZ hC hb
  by_cases hji:j=i
  . subst hji;exact Jgv hi hy hC' λw'' hb'=>⟨λ_ h=>hZ h hb',Jlm H (hb.trans (hb'.mono hb.size))⟩
  . have h1:=H.2 j (ready_mono hj hji) w' hb
    obtain⟨hjun,oj,hoj,hall⟩:=mem_ready.1 hj;have hnot:∀e∈oj.after,Region.binds md e=true->e.on≠i:=λe he hb heq=>by
     have h1:=hall e he hb;have h0:=(mem_ready.1 hr).1;rw[heq]at h1
     rcases Nat.lt_or_ge i listed.size with h' | h'
     . simp[h']at h0 h1;rw[h0]at h1;cases h1
     . simp[Array.getElem?_eq_none h']at h1
    have hjm:j<m:=by
     by_cases hjm:j<m
     . exact hjm
     . obtain⟨e,he,hb,hon⟩:=Jfq hlate hoj hjm him
       exact absurd hon (hnot e he hb)
    have h2:=JuC hoj (hfree j oj hoj hji hjun hnot) (λcs b=>hsel i oi cs b hi) (λcs b=>hsel j oj cs b hoj) hy h1
    have hfree':∀k ok,ops[k]?=some ok->k≠i->(listed.setIfInBounds j true).getD k true=false ->
        (∀e∈ok.after,Region.binds md e=true->e.on≠i)->oi.apart ops ok=true:=λk ok hk hki hun hno=>by
     refine hfree k ok hk hki ?_ hno
     by_cases hjk:j=k
     . subst hjk;exact hjun
     . rw[getD_set_ne true hjk]at hun;exact hun
    refine Je2 (λa' w'' h3=>?_) h2;obtain⟨h3y,h3g,h3a⟩:=h3;refine⟨λ_=>h3g hjm,ih (listed.setIfInBounds j true) a' w'' (h3g hjm hC') hfree' (ready_mono hr (Ne.symm hji)) h3y ?_⟩;rw[Array.setIfInBounds_comm _ _ hji];exact h3a
theorem JnT{i fuel:Nat}{o:Oper}{listed:Array Bool}{a:Act}{w:World}{G:World->World}(hG:GrowZ Z G)(hw0:Z w)(hi:ops[i]?=some o)(him:decide (i<m)=true)(hs:(Region.noSelect ops && JeJ md ops m)=true)
    (hf:(Region.free md ops listed i && (Region.ready md ops listed).contains i)=true)
    (h:∀K:Act->Prop,(∀a,anyZ Z P md ops m Q fuel (listed.setIfInBounds i true) a w->K a)->if Region.wanted o (yielded ops a.tmps) then ∃v,(∀x,Jaj P (G x) v ((execOp a.eval o).run P (G x)))/\K (a.put o.dst v) else K (a.put o.dst undef)) :
    anyZ Z P md ops m Q (fuel+1) listed a w:=by
 have h1:=h _ λ_ h=>h;have him':i<m:=of_decide_eq_true him;rw[Bool.and_eq_true]at hs hf
 split at h1
 . rename_i hw
   obtain⟨v,h2,h3⟩:=h1;refine Jln hG.grow hi him' (Region.noSelect_spec hs.1) hs.2 fuel listed a w hw0 (Region.free_spec hi hf.1) (by simpa using hf.2) ?_ h3;unfold Jcg;rw[if_pos hw];intro w' hb;have:=h2 w';rw[hG.onto w' hb]at this;exact this
 . rename_i hw
   refine Jln hG.grow hi him' (Region.noSelect_spec hs.1) hs.2 fuel listed a w hw0 (Region.free_spec hi hf.1) (by simpa using hf.2) ?_ h1;unfold Jcg;rw[if_neg hw]
theorem az{fuel:Nat}{o:Oper}{listed:Array Bool}{a:Act}{w:World}{G:World->World}(hG:GrowZ Z G)(hw0:Z w)(i:Nat)
    (h:∀K:Act->Prop,(∀a,anyZ Z P md ops m Q fuel (listed.setIfInBounds i true) a w->K a)->if Region.wanted o (yielded ops a.tmps) then ∃v,(∀x,Jaj P (G x) v ((execOp a.eval o).run P (G x)))/\K (a.put o.dst v) else K (a.put o.dst undef)) (hi:ops[i]?=some o:=by rfl) (him:decide (i<m)=true:=by kernel_rfl) (hs:(Region.noSelect ops && JeJ md ops m)=true:=by kernel_rfl) (hf:(Region.free md ops listed i && (Region.ready md ops listed).contains i)=true:=by kernel_rfl):anyZ Z P md ops m Q (fuel+1) listed a w :=
 JnT (i:=i) hG hw0 hi him hs hf h
theorem ay{fuel:Nat}{o:Oper}{listed:Array Bool}{a:Act}{w:World}{G:World->World}(hG:GrowZ Z G)(hw0:Z w)
    (h:∀K:Act->Prop,(∀a,anyZ Z P md ops m Q fuel (listed.setIfInBounds (m - (fuel+1)) true) a w->K a)->if Region.wanted o (yielded ops a.tmps) then ∃v,(∀x,Jaj P (G x) v ((execOp a.eval o).run P (G x)))/\K (a.put o.dst v) else K (a.put o.dst undef)) (hi:ops[(m - (fuel+1))]?=some o:=by rfl) (him:decide ((m - (fuel+1))<m)=true:=by kernel_rfl) (hs:(Region.noSelect ops && JeJ md ops m)=true:=by kernel_rfl) (hf:(Region.free md ops listed (m - (fuel+1)) && (Region.ready md ops listed).contains (m - (fuel+1)))=true:=by kernel_rfl):anyZ Z P md ops m Q (fuel+1) listed a w :=
 JnT (i:=m - (fuel+1)) hG hw0 hi him hs hf h
def askZ (Z:World->Prop) (P:Program) (md:Region.Mode) (ops:Array Oper) (m:Nat) (Q:Exit->Act->World->Prop) (fuel:Nat) (listed:Array Bool) (a:Act) (w:World) (i:Nat):Prop :=
 ∃o,ops[i]?=some o/\∀w',Bw w w'->∀K:Act->World->Prop,(∀a' w'',(Z w'->Z w'')->anyZ Z P md ops m Q fuel (listed.setIfInBounds i true) a' w''->K a' w'')->if Region.wanted o (yielded ops a.tmps) then JaD P o a K ((execOp a.eval o).run P w') else K (a.put o.dst undef) w'
theorem JvI{i fuel:Nat}{listed:Array Bool}{a:Act}{w:World}(hr:Region.ready md ops listed=[i])(h:askZ Z P md ops m Q fuel listed a w i):anyZ Z P md ops m Q (fuel+1) listed a w:=by
 obtain⟨o,hi,h⟩:=h;refine⟨λh0=>absurd (hr.symm.trans h0) (by simp),λj hj w' hb=>?_⟩;rw[hr,List.mem_singleton]at hj;subst hj;unfold opG;simp only[hi];exact h w' hb _ λa' w'' hb' ha=>⟨λ_=>hb',ha⟩
theorem JvJ{fuel:Nat}{listed:Array Bool}{a:Act}{w:World}(hr:Region.ready md ops listed=[])(h:∀w',Bw w w'->Q .normal a w'):anyZ Z P md ops m Q fuel listed a w:=by
 cases fuel with
 | zero=>exact⟨hr,h⟩
 | succ n=>exact⟨λ_=>h,λi hi=>(by rw[hr]at hi;cases hi)⟩
theorem Jch{id:Nat}{a:Act}{w:World}{l:List Oper}(Z:World->Prop)(m n:Nat)(hm:P.follows .mixedOrders=true)(hn:l.length=n)
    (h:∀w',Bw w w'->anyZ Z P .any l.toArray m Q n (Array.replicate n false) a w'):(Code.region id l.toArray true).wp P Q a w :=
 wp_region_any hm (JjI (Z:=Z) _ _ _ _ (by subst hn;simpa using h { w with drawn:=w.drawn+1 } (Below.drew (brf _ w))))
theorem aO{fuel:Nat}{listed:Array Bool}{a:Act}{w:World}(i:Nat)(h:askZ Z P md ops m Q fuel listed a w i)(hr:Region.ready md ops listed=[i]:=by kernel_rfl):anyZ Z P md ops m Q (fuel+1) listed a w:=JvI hr h
theorem ae{fuel:Nat}{listed:Array Bool}{a:Act}{w:World}(h:∀w',Bw w w'->Q .normal a w')(hr:Region.ready md ops listed=[]:=by kernel_rfl):anyZ Z P md ops m Q fuel listed a w:=JvJ hr h
theorem wzb{β:Nat}{o:Obj}{w w':World}(h:w.heap[β]?=some o)(hb:Bw w w'):w'.heap[β]?=some o:=(hb.block β (alt h)).trans h
theorem wz{id:Nat}{a:Act}{w:World}{l:List Oper}(Z:World->Prop)(n:Nat)(hW:Z w)(hg:∀{w w':World},Z w->Bw w w'->Z w')
    (h:∀w',Bw w w'->Z w'->∀G,GrowZ Z G->anyZ Z P .any l.toArray n Q n (Array.replicate n false) a w') (hm:P.follows .mixedOrders=true:=by kernel_rfl) (hn:l.length=n:=by first | rfl | kernel_rfl):(Code.region id l.toArray true).wp P Q a w :=
 Jch Z n n hm hn λw' hb=>by
  obtain⟨G,hG⟩:=Jb6 (hg hW hb) hg;exact h w' hb (hg hW hb) G hG
end
section
attribute [local go_sem] Oper.semAt_some Jaj JaD
variable {w w' : World}{b lo : Nat}{who u : Int}{S : Cl}{vm vm' v : Value}{o : List Pt}{ms : List (List Pt)}{vs : List Value}
theorem Jay(h3:w.heap[b]?=some (Oc (Jb7 who u S vm) 90)) :
    w.cell? (Ad b 0)=some (I6 who)/\w.cell? (Ad b 1)=some (I6 u)/\w.cell? (Ad b 2)=some (I6 S.rev)/\w.cell? (Ad b 3)=some (Sx S.seen)/\w.cell? (Ad b 4)=some vm/\w.cell? (Ad b 5)=some (Sx S.doc)/\w.cell? (Ad b 6)=some (I6 S.id)/\w.cell? (Ad b 7)=some (I6 S.drops)/\∀o,w.frozen? (Ad b o)=false :=
 ⟨chp h3 0,chp h3 1,chp h3 2,chp h3 3,chp h3 4,chp h3 5,chp h3 6,chp h3 7,λo=>JaP h3⟩
theorem Jvc(h4:w.cell? (Ad b 4)=some vm)(h4':w'.cell? (Ad b 4)=some vm')(hs:sameBut w w' λk=>k=b\/vm.ownBlock=some k)(hn:∀k,vm'.ownBlock=some k->vm.ownBlock=some k\/w.heap.size<=k):keptC w w' b:=by
 refine⟨hs.mono λk _ hk=>hk.imp id λe=>⟨vm,h4,e⟩,λk hk=>?_⟩
 rcases hk with rfl|⟨v,e,hk⟩
 . exact .inl (.inl rfl)
 . rw[h4']at e
   obtain rfl:=osi e;exact(hn k hk).imp (λe=>.inr ⟨vm,h4,e⟩) id
theorem JeA{S':Cl}(hlo:lo<=b)(h3:w.heap[b]?=some (Oc (Jb7 who u S vm) 90))(h3':w'.heap[b]?=some (Oc (Jb7 who u S' vm') 90))(hm:Jdc lo w' vm' S'.mine)
    (hs:sameBut w w' λk=>k=b\/vm.ownBlock=some k) (hn:∀k,vm'.ownBlock=some k->vm.ownBlock=some k\/w.heap.size<=k):isCl lo w' b who u S'/\keptC w w' b :=
 ⟨⟨hlo,vm',h3',hm⟩,Jvc (Jay h3).2.2.2.2.1 (Jay h3').2.2.2.2.1 hs hn⟩
theorem JvD(h:isCl lo w b who u S)(hm:S.mine=[])(v:Value)(o:List Pt)(hx:opX lo w v o)(hid:0<=S.id/\S.id<=1000000) :
    Cg 102 #[Pd b 0,v] w λe w'=>e=.returned (.tuple #[])/\isCl lo w' b who u { S with mine:=[o],id:=S.id+1 }/\keptC w w' b:=by
 have hlt:=Jcq h;obtain⟨hlo,vm,h3,h4⟩:=h;obtain⟨p,c,rfl⟩:=Jcf h4;have hl0:S.mine.length=0:=by rw[hm];rfl
 rw[hl0]at h3 h4;obtain⟨_,_,_,_,x4,_,x6,_,xf⟩:=Jay h3;have f4:=xf 4;have f6:=xf 6;obtain⟨pv,cv,rfl⟩:∃p c,v=.slice p o.length c:=by obtain⟨⟨p,c,e,_⟩,_⟩:=hx;exact⟨p,c,e⟩
 have H3:=hdz h3;have HX:=hdz hx;have hid1:wrap64 (S.id+1)=S.id+1:=Jar (by omega) (by omega);obtain⟨i0,i1⟩:=hid;generalize hon:o.length=on at *;have hne:b≠w.heap.size:=by omega
 clear h3 h4 hm hl0 hx xf
 go_enter func102,ntmps102
 go_wp2;go_end0;refine⟨rfl,?_⟩;have b1:=heap_setCell_same w b 4 _ _ (Sl w.heap.size 1 1) H3.out;have b2:=heap_setCell_same _ b 6 _ _ (I6 (S.id+1)) b1;have hs1:sameBut w ((w.setCell (Ad b 4) (Sl w.heap.size 1 1)).setCell (Ad b 6) (I6 (S.id+1))) (λk=>k=b):=(Jat (S:=λk=>k=b) rfl).trans (Jat (S:=λk=>k=b) rfl);have hz1:((w.setCell (Ad b 4) (Sl w.heap.size 1 1)).setCell (Ad b 6) (I6 (S.id+1))).heap.size=w.heap.size:=by rw[World.size_setCell,World.size_setCell]
 generalize (w.setCell (Ad b 4) (Sl w.heap.size 1 1)).setCell (Ad b 6) (I6 (S.id+1))=W at *;have hs2:sameBut w (W.alloc (Oc #[.slice pv on cv] 94)) (λk=>k=b):=hs1.trans (Jai (zA _ _) _);have hrow:=World.ownsRow_lit (e:=94) (base:=lo) (size:=1) W #[.slice pv on cv] 1 (by omega) (by unfold maxLen;omega) rfl;rw[hz1]at hrow;refine JeA hlo H3.out (Jfy b2) ⟨[.slice pv on cv],rfl,hrow,λi m x hi hx=>?_⟩ (hs2.mono λk _ hk=>.inl hk) λk hk=>.inr (Nat.le_of_eq (osi hk))
 cases i with
 | succ i=>simp at hi
 | zero =>
  obtain rfl:o=m:=by simpa using hi
  obtain rfl:Value.slice pv on cv=x:=by simpa using hx
  exact JbI HX.out hs2 λk _ hk=>by obtain rfl:=hk;exact⟨hlo,Ja8 H3.out (by decide)⟩
theorem info_op:(prog.info? 94).map (λi=>(i.zero,i.size,i.bytes))=some (some (.slice none 0 0),1,24):=by kernel_rfl
theorem JaO(h:opX lo w v o):∃p c,v=.slice p o.length c:=by
 obtain⟨⟨p,c,e,_⟩,_⟩:=h;exact⟨p,c,e⟩
theorem Jrb(p:Option Addr)(n c:Nat):∀x∈[Value.slice p n c],x.oneCell'=true:=by
 intro x hx;simp only[List.mem_singleton]at hx;subst hx;rfl
theorem JsV{w6:World}{v1 v2 x:Value}(h1:vs.length=ms.length)(h2:w.ownsRow lo 94 1 v1 ms.length vs)(h3:∀(i:Nat)(m:List Pt)(y:Value),ms[i]?=some m->vs[i]?=some y->opX lo w y m)(hx:opX lo w x o)
    (hg:w.grownBy w6 v1.ownBlock) (hnew:w6.ownsRow lo 94 1 v2 (ms.length+1) (vs++[x])):Jdc lo w6 v2 (ms++[o]):=by
 have hs:sameBut w w6 λk=>v1.ownBlock=some k:=Jbb hg λk e=>e;have hS:∀k,k<w.heap.size->v1.ownBlock=some k->lo<=k/\Jdb w k:=λk _ hk=>by
  obtain⟨a,b,cs,c⟩:=Jci ⟨vs,h1,h2,h3⟩ hk;exact⟨a,Ja8 c (by decide)⟩
 refine⟨vs++[x],by simp[h1],by rw[List.length_append,List.length_singleton];exact hnew,λi m y hm hy=>?_⟩
 rcases Nat.lt_or_ge i ms.length with hi|hi
 . rw[List.getElem?_append_left hi]at hm
   rw[List.getElem?_append_left (by omega)]at hy;exact JbI (h3 i m y hm hy) hs hS
 . have : i=ms.length:=by
     rcases Nat.lt_or_ge ms.length i with h|h
     . rw[List.getElem?_append_right hi]at hm
       obtain⟨j,hj⟩:∃j,i - ms.length=j+1:=⟨i - ms.length - 1,by omega⟩;rw[hj]at hm;simp at hm
     . omega
   subst this;rw[List.getElem?_append_right (nlr _),Nat.sub_self]at hm;rw[List.getElem?_append_right (by omega),h1,Nat.sub_self]at hy;obtain rfl:o=m:=by simpa using hm
   obtain rfl:x=y:=by simpa using hy
   exact JbI hx hs hS
theorem JpP{g n c:Nat}(h1:vs.length=ms.length)(h2:w.ownsRow lo 94 1 (Sl g n c) ms.length vs)(h3:∀(i:Nat)(m:List Pt)(y:Value),ms[i]?=some m->vs[i]?=some y->opX lo w y m){x:Value}{o:List Pt}(hx:opX lo w x o)(j:Nat) :
    Jdc lo (w.setCell (Ad g j) x) (Sl g n c) (ms.set j o)/\sameBut w (w.setCell (Ad g j) x) λk=>(Sl g n c).ownBlock=some k:=by
 have hn:n=ms.length:=by
  rcases h2.2 with ⟨e,_⟩|⟨g',cap,cur,e,_⟩
  . cases e
  . injection e
 subst hn;obtain⟨r1,r2⟩:=World.ownsRow.stored h2 j x;have hs:sameBut w (w.setCell (Ad g j) x) λk=>(Sl g ms.length c).ownBlock=some k:=Jbb r2 λk e=>e;have hS:∀k,k<w.heap.size->(Sl g ms.length c).ownBlock=some k->lo<=k/\Jdb w k:=λk _ hk=>by
  obtain⟨a,b,cs,c⟩:=Jci ⟨vs,h1,h2,h3⟩ hk;exact⟨a,Ja8 c (by decide)⟩
 refine⟨⟨vs.set j x,by simp[h1],by rw[List.length_set];exact r1,λi m y hm hy=>?_⟩,hs⟩
 by_cases hij:j=i
 . subst hij
   rw[List.getElem?_set]at hm hy;simp only[if_true]at hm hy
   split at hm
   . split at hy
     . obtain rfl:=osi hm
       obtain rfl:=osi hy;exact JbI hx hs hS
     . cases hy
   . cases hm
 . rw[List.getElem?_set_ne hij]at hm hy
   exact JbI (h3 i m y hm hy) hs hS
theorem JvC(h:isCl lo w b who u S)(hm:S.mine.length=1)(v:Value)(o:List Pt)(hx:opX lo w v o) :
    Cg 102 #[Pd b 0,v] w λe w'=>e=.returned (.tuple #[])/\isCl lo w' b who u { S with mine:=S.mine++[o] }/\keptC w w' b:=by
 have hlt:=Jcq h;obtain⟨hlo,vm,h3,h4⟩:=h;obtain⟨p,c,rfl⟩:=Jcf h4;rw[hm]at h3 h4;obtain⟨_,_,_,_,x4,_,_,_,xf⟩:=Jay h3;obtain⟨pv,cv,rfl⟩:=JaO hx;have H3:=hdz h3;have HX:=hdz hx;have HM:=hdz hm;have hbw:Bw w (w.alloc (Oc #[.slice pv o.length cv] 94)):=zA _ _;obtain⟨vs,m1,m2,m3⟩:=JbR h4 hbw;rw[hm]at m2;have M1:=hdz m1;have M2:=hdz m2;have M3:=hdz m3;have HMO:Hid (∀k,(Value.slice p 1 c).ownBlock=some k->lo<=k/\k<w.heap.size/\∃cs,w.heap[k]?=some (Oc cs 94)):=λk hk=>Jci h4 hk;have HBW:=hdz hbw;obtain⟨i0,hi,hz0,hz1,hz2⟩:=info_parts info_op;have HI:=hdz hi;have HZ0:=hdz hz0;have HZ1:=hdz hz1;have HZ2:=hdz hz2;generalize hon:o.length=on at *;have hne:b≠w.heap.size:=by omega
 have HLO:=hdz hlo;clear h3 h4 hm hx xf m1 m2 m3 hbw hi hz0 hz1 hz2 hlo
 go_enter func102,ntmps102
 go_wp2_with (at_builtin;refine JeD _ rfl _ _ 88 rfl lo 94 i0 (.slice none 0 0) 1 24 underlying88 HI.out HZ0.out HZ1.out HZ2.out rfl (by decide) _ _ _ rfl M2.out (Ad w.heap.size 0) 1 1 [.slice pv on cv] rfl rfl (JeW _ _ (by first | rfl | simp) _ _) (Jrb _ _ _) (by unfold maxLen;omega) (by omega) (by have:=HLO.out;simp;omega) (by decide) ?_)
 all_goals
  intro v2 w6 hown' hg' hnew';obtain⟨p7,c7,rfl⟩:=Jak hown';have hnb:some b≠(Value.slice p 1 c).ownBlock:=λe=>by
   obtain⟨_,_,cs,hc⟩:=HMO.out b e.symm;have:=JaB H3.out hc;revert this;decide
  have hb6:=(hg'.block b (by rw[wsa];omega) hnb).trans (Jfy (o':=Oc #[.slice pv on cv] 94) H3.out);have HB6:=hdz hb6;obtain⟨_,_,_,_,y4,_,_,_,yf⟩:=Jay hb6;have z4:=yf 4;have HMN:Hid (Jdc lo w6 (.slice p7 (1+1) c7) (S.mine++[o])):=JsV M1.out (by rw[HM.out];exact M2.out) M3.out (Ja1 HX.out HBW.out) hg' (by rw[HM.out];exact hown');have HS6:Hid (sameBut w w6 λk=>k=b\/(Value.slice p 1 c).ownBlock=some k):=(Jai HBW.out _).comp (Jbb (S:=λk=>(Value.slice p 1 c).ownBlock=some k) hg' λk e=>e) λk _ e=>.inr e;have HNW:Hid (∀k,(Value.slice p7 (1+1) c7).ownBlock=some k->(Value.slice p 1 c).ownBlock=some k\/w.heap.size<=k):=λk hk=>(hnew' k hk).imp id λe=>by omega
  clear hown' hg' hnew' hnb hb6 yf;go_wp2;go_end0;refine⟨rfl,?_⟩;have b1:=heap_setCell_same w6 b 4 _ _ (.slice p7 (1+1) c7) HB6.out;have hs1:sameBut w6 (w6.setCell (Ad b 4) (.slice p7 (1+1) c7)) (λk=>k=b):=Jat (S:=λk=>k=b) rfl;refine JeA HLO.out H3.out b1 (Jds HMN.out hs1 (λk _ hk=>by obtain rfl:=hk;exact⟨HLO.out,Ja8 HB6.out (by decide)⟩) λk hk e=>?_) (HS6.out.comp hs1 λk _ e=>.inl e) HNW.out;obtain⟨_,_,cs,hc⟩:=Jci HMN.out hk;subst e;have:=JaB HB6.out hc;revert this;decide
theorem kCompN(v1 v2:Value)(a b:List Pt)(t:List UInt8)(w:World)(hT:Lib.Utf8Tabs 3 4 w)(r1:opAt w v1 a)(r2:opAt w v2 b)(ha:good a t)(hb:good b (Jae a t))(h1:t.length+Jaq a<1000000)(h2:(Jae a t).length+Jaq b<1000000) :
    Cg 160 #[v1,v2] w λe w'=>∃v',e=.returned (.tuple #[v',.nilIface])/\opN w.heap.size w' v' (JaG (Jj7 a b))/\Bw w w':=by
 have f1:=ha.fine h1;have f2:=hb.fine h2;have e:JtH a b=0:=by unfold JtH;rw[ha.both hb h1 h2,if_pos rfl,(ha.lens h1).2,(hb.lens h2).1,if_pos rfl]
 have:=JtG v1 v2 a b w hT r1 r2 (ha.wf h1) (hb.wf h2) f1.len f2.len λ_=>⟨f1,f2⟩;rw[e,if_pos rfl]at this;exact this
theorem Jtg(v1 v2:Value)(F:Bool)(a b:List Pt)(t:List UInt8)(w:World)(hT:Lib.Utf8Tabs 3 4 w)(r1:opAt w v1 a)(r2:opAt w v2 b)(ha:good a t)(hb:good b t)(h1:t.length+Jaq a<1000000)(h2:t.length+Jaq b<1000000) :
    Cg 259 #[v1,v2,.bool F] w λe w'=>∃v',e=.returned (.tuple #[v',.nilIface])/\opN w.heap.size w' v' (JaG (Jbj F a b))/\Bw w w':=by
 have f1:=ha.fine h1;have f2:=hb.fine h2;have e:Jom a b=0:=by unfold Jom;rw[ha.both hb h1 h2,if_pos rfl,(ha.lens h1).1,(hb.lens h2).1,if_pos rfl]
 have:=Jkn v1 v2 F a b w hT r1 r2 (ha.wf h1) (hb.wf h2) f1.len f2.len λ_=>⟨f1,f2⟩;rw[e,if_pos rfl]at this;exact this
theorem Jei{B:Nat}(h:opN B w v o):∃p c,v=.slice p o.length c:=by
 obtain⟨⟨p,c,e,_⟩,_⟩:=h;exact⟨p,c,e⟩
theorem JvB(h:isCl lo w b who u S){m1 m2:List Pt}(hm:S.mine=[m1,m2])(v:Value)(o:List Pt)(hx:opX lo w v o)(hT:Lib.Utf8Tabs 3 4 w){t:List UInt8}(ha:good m2 t)(hb:good o (Jae m2 t))(h1:t.length+Jaq m2<1000000)(h2:(Jae m2 t).length+Jaq o<1000000) :
    Cg 102 #[Pd b 0,v] w λe w'=>e=.returned (.tuple #[])/\isCl lo w' b who u { S with mine:=[m1,JaG (Jj7 m2 o)] }/\keptC w w' b:=by
 have hlt:=Jcq h;obtain⟨hlo,vm,h3,h4⟩:=h;have h4':=h4;obtain⟨vs,q1,q2,q3⟩:=h4';obtain ⟨g,c,rfl⟩:∃g c,vm=Sl g 2 c:=by
  rw[hm]at q2
  rcases q2.2 with ⟨_,e⟩|⟨g,cap,cur,e,_⟩
  . cases e
  . exact⟨g,cap,e⟩
 have hl2:S.mine.length=2:=by rw[hm];rfl
 have hvl:vs.length=2:=by rw[q1,hl2]
 obtain⟨x1,hx1⟩:∃x1,vs[1]?=some x1:=⟨vs[1],lgg (by omega)⟩;have ho1:opX lo w x1 m2:=q3 1 m2 x1 (by rw[hm];rfl) hx1;have hr1:w.cell? (Ad g 1)=some x1:=by rw[hl2]at q2;rw[World.ownsRow.cellAt q2 1 (by omega)];exact hx1
 obtain⟨_,_,_,_,x4,_,_,_,xf⟩:=Jay h3;have hg:=Jci h4 (k:=g) rfl;have hgb:g≠b:=λe=>by
  obtain⟨_,_,cs,hc⟩:=hg;subst e;have:=JaB h3 hc;revert this;decide
 have hc2:2<=c/\c<=maxLen:=by
  rw[hl2]at q2
  rcases q2.2 with ⟨e,_⟩|⟨g',cap,cur,e,_,_,e5,e6,_⟩
  . cases e
  . injection e with _ _ e;subst e;exact⟨e5,e6⟩
 obtain⟨hc2,hc3⟩:=hc2;unfold maxLen at hc3;have CC:=hdz λwx (hb':Bw w wx)=>kCompN x1 v m2 o t wx (Go.Proofs.Utf8Tabs_below hT hb') (Ja1 ho1 hb').1 (Ja1 hx hb').1 ha hb h1 h2;obtain⟨p1,c1,rfl⟩:=JaO ho1;obtain⟨pv,cv,rfl⟩:=JaO hx;have H3:=hdz h3;have H4:=hdz h4;have HLO:=hdz hlo;have HM:=hdz hm;have HG:Hid (lo<=g/\g<w.heap.size):=⟨hg.1,hg.2.1⟩;generalize hO:JaG (Jj7 m2 o)=O at *;generalize m2.length=n2 at *;generalize o.length=on at *;clear h3 h4 hm hx ho1 q1 q2 q3 hvl hx1 hl2 xf hT ha hb h1 h2 hg hlo hO
 go_enter func102,ntmps102
 go_wp2;refine wz (λwx:World=>wx.heap[b]?=some (Oc (Jb7 who u S (Sl g 2 c)) 90)) 17 H3.out wzb λw30 hb30 hz0 G hG=>?_;have y4:∀x,(G x).cell? (Ad b 4)=some (Sl g 2 c):=λx=>(Jay (hG.but x)).2.2.2.2.1;(iterate 9 (refine ay hG hz0 λ_ k=>?_;go_simp;apply k;clear k));refine az hG hz0 10 λ_ k=>?_;go_simp;apply k;clear k;clear y4;refine aO 9 ⟨_,rfl,?_⟩;intro w29 hb29 K hK;have yr:=(zC hb29 g 1 (Nat.lt_of_lt_of_le HG.out.2 hb30.size)).trans ((zC hb30 g 1 HG.out.2).trans hr1)
 go_simp
 refine hK _ _ (λh=>h) ?_;clear hK K yr;refine aO 11 ⟨_,rfl,?_⟩;intro w31 hb31 K hK
 go_simp
 have hb39:=hb30.trans (hb29.mono hb30.size);have hb38:=hb39.trans (hb31.mono hb39.size);refine(CC.out w31 hb38).mono ?_;rintro e w32 ⟨v',rfl,hn,hb32⟩;obtain⟨p9,c9,rfl⟩:=Jei hn;have HN:=hdz hn;have hz2:w32.heap[b]?=some (Oc (Jb7 who u S (Sl g 2 c)) 90):=((hb38.trans (hb32.mono hb38.size)).block b hlt).trans H3.out;refine⟨_,rfl,hK _ _ (λ_=>hz2) ?_⟩;clear hK K hn hz0;refine az hG hz2 12 λ_ k=>?_;go_simp;apply k;clear k;refine az hG hz2 13 λ_ k=>?_;go_simp;apply k;clear k;refine az hG hz2 14 λ_ k=>?_;go_simp;apply k;clear k;refine az hG hz2 15 λ_ k=>?_;go_simp;apply k;clear k;clear hG hz2;refine aO 16 ⟨_,rfl,?_⟩;intro w33 hb33 K hK;have hb37:=hb38.trans (hb32.mono hb38.size);have hbA:Bw w w33:=hb37.trans (hb33.mono hb37.size);have hA3:=(hbA.block b hlt).trans H3.out;have HA4:Hid _:=JbR H4.out hbA;have hgr:∃cs,w33.heap[g]?=some (Oc cs 94):=by obtain⟨_,_,e⟩:=Jci HA4.out (k:=g) rfl;exact e
 obtain⟨cs,hcs⟩:=hgr;have zr:=(zC hbA g 1 HG.out.2).trans hr1;have zf:=fZ hcs 1;have HN33:Hid (opX lo w33 (.slice p9 O.length c9) O):=Ja1 (JbY HN.out) hb33;have HA3:=hdz hA3;have HBA:=hdz hbA;clear hbA hA3 hb30 hb31 hb32 hb33 hcs hb29 hb39 hb38 hb37
 go_simp
 refine hK _ _ (λ_=>?_) ?_
 . exact(Below.heap_setCell w33 (Ad g 1) _ b (λe=>hgb e.symm)).trans HA3.out
 clear hK K;refine ae ?_;intro w34 hb34;go_wp2;go_end0;refine⟨rfl,?_⟩;obtain⟨vs,q1,q2,q3⟩:=HA4.out;obtain⟨r1,r2⟩:=JpP q1 q2 q3 HN33.out 1;rw[HM.out]at r1;have hbn:(w33.setCell (Ad g 1) (.slice p9 O.length c9)).heap[b]?=some (Oc (Jb7 who u S (Sl g 2 c)) 90):=(r2.2 b (alt HA3.out) λe=>hgb (osi e)).trans HA3.out;have hb3:=(hb34.block b (alt hbn)).trans hbn;refine JeA HLO.out H3.out hb3 (JbR r1 hb34) (((Jai HBA.out _).comp r2 λk _ e=>.inr e).trans (Jai hb34 _)) λk hk=>.inl hk
end
section
attribute [local go_sem] Oper.semAt_some
variable {lo r bx bmx : Nat}{w : World}{bs : List Nat}{R : Rm}
def pkV (p:Pk) (v:Value):Value:=.agg #[I6 p.kind,I6 (p.c:Int),I6 p.rev,I6 p.id,I6 p.x.c,I6 p.x.i,v]
theorem box7{w w1:World}{β:Nat}{a0 a1 a2 a3 a4 a5 a6:Value}{T:TypeId}(h:w.heap.size=β)(hb:Below (w.alloc (Oc #[a0,a1,a2,a3,a4,a5,a6] T)).heap.size (w.alloc (Oc #[a0,a1,a2,a3,a4,a5,a6] T)) w1) :
    w1.cell? (Ad β 0)=some a0/\w1.cell? (Ad β 1)=some a1/\w1.cell? (Ad β 2)=some a2/\w1.cell? (Ad β 3)=some a3/\w1.cell? (Ad β 4)=some a4/\w1.cell? (Ad β 5)=some a5/\w1.cell? (Ad β 6)=some a6/\(∀o,w1.frozen? (Ad β o)=false)/\w1.heap[β]?=some (Oc #[a0,a1,a2,a3,a4,a5,a6] T):=by
 subst h;have hbox:=(hb.block _ (by rw[wsa];omega)).trans (heap_alloc_new w (Oc #[a0,a1,a2,a3,a4,a5,a6] T));exact⟨chp hbox 0,chp hbox 1,chp hbox 2,chp hbox 3,chp hbox 4,chp hbox 5,chp hbox 6,λo=>JaP hbox,hbox⟩
def set7 (w:World) (β:Nat) (a0 a1 a2 a3 a4 a5 a6:Value):World:=((((((w.setCell (Ad β 0) a0).setCell (Ad β 1) a1).setCell (Ad β 2) a2).setCell (Ad β 3) a3).setCell (Ad β 4) a4).setCell (Ad β 5) a5).setCell (Ad β 6) a6
theorem JmS{w:World}{β:Nat}{T:TypeId}{c0 c1 c2 c3 c4 c5 c6:Value}(a0 a1 a2 a3 a4 a5 a6:Value)(h:w.heap[β]?=some (Oc #[c0,c1,c2,c3,c4,c5,c6] T)){lo:Nat}{w0:World}(hb:Below lo w0 w)(hl:lo<=β) :
    (set7 w β a0 a1 a2 a3 a4 a5 a6).heap[β]?=some (Oc #[a0,a1,a2,a3,a4,a5,a6] T)/\Below lo w0 (set7 w β a0 a1 a2 a3 a4 a5 a6):=by
 have h1:(w.setCell (Ad β 0) a0).heap[β]?=some (Oc #[a0,c1,c2,c3,c4,c5,c6] T):=heap_setCell_same w β 0 _ T a0 h;have b1:Below lo w0 (w.setCell (Ad β 0) a0):=hb.setCell (p:=(Ad β 0)) hl a0;unfold set7;generalize w.setCell (Ad β 0) a0=w1 at *;have h2:(w1.setCell (Ad β 1) a1).heap[β]?=some (Oc #[a0,a1,c2,c3,c4,c5,c6] T):=heap_setCell_same w1 β 1 _ T a1 h1;have b2:Below lo w0 (w1.setCell (Ad β 1) a1):=b1.setCell (p:=(Ad β 1)) hl a1;generalize w1.setCell (Ad β 1) a1=w2 at *;have h3:(w2.setCell (Ad β 2) a2).heap[β]?=some (Oc #[a0,a1,a2,c3,c4,c5,c6] T):=heap_setCell_same w2 β 2 _ T a2 h2;have b3:Below lo w0 (w2.setCell (Ad β 2) a2):=b2.setCell (p:=(Ad β 2)) hl a2;generalize w2.setCell (Ad β 2) a2=w3 at *;have h4:(w3.setCell (Ad β 3) a3).heap[β]?=some (Oc #[a0,a1,a2,a3,c4,c5,c6] T):=heap_setCell_same w3 β 3 _ T a3 h3;have b4:Below lo w0 (w3.setCell (Ad β 3) a3):=b3.setCell (p:=(Ad β 3)) hl a3;generalize w3.setCell (Ad β 3) a3=w4 at *;have h5:(w4.setCell (Ad β 4) a4).heap[β]?=some (Oc #[a0,a1,a2,a3,a4,c5,c6] T):=heap_setCell_same w4 β 4 _ T a4 h4;have b5:Below lo w0 (w4.setCell (Ad β 4) a4):=b4.setCell (p:=(Ad β 4)) hl a4;generalize w4.setCell (Ad β 4) a4=w5 at *;have h6:(w5.setCell (Ad β 5) a5).heap[β]?=some (Oc #[a0,a1,a2,a3,a4,a5,c6] T):=heap_setCell_same w5 β 5 _ T a5 h5;have b6:Below lo w0 (w5.setCell (Ad β 5) a5):=b5.setCell (p:=(Ad β 5)) hl a5;generalize w5.setCell (Ad β 5) a5=w6 at *;exact⟨heap_setCell_same w6 β 6 _ T a6 h6,b6.setCell (p:=(Ad β 6)) hl a6⟩
theorem JfC(h:isRoom lo w r bx bmx bs R)(k:Int)(hk:k<0\/(R.fl.length:Int)<=k) :
    Cg 107 #[Pd r 0,I6 k] w (Rt w (.tuple #[.agg #[I6 0,I6 0,I6 0,I6 0,I6 0,I6 0,.slice none 0 0],.iface 25 (I6 2)])):=by
 have C:=hdz λwx (hb:Bw w wx)=>Jga (Jal h hb);clear h
 by_cases hk0:k<0
 . clear hk
   go_enter func107,ntmps107
   go_wp2;refine bodyPost_ret (v:=.tuple #[.agg #[I6 0,I6 0,I6 0,I6 0,I6 0,I6 0,.slice none 0 0],.iface 25 (I6 2)]) (by simp[results,results107,go_sem]) rfl ⟨rfl,?_⟩;exact zA _ _
 . have hk1:(R.fl.length:Int)<=k:=by omega
   obtain⟨β,hβ⟩:∃β,w.heap.size=β:=⟨_,rfl⟩;have HBT:=hdz hβ;clear hk
   go_enter func107,ntmps107
   go_wp2_with (go_at_call 63;refine(C.out _ (zA _ _)).mono ?_;rintro e w1 ⟨rfl,hb1⟩;have HB1:Hid (Bw w w1):=(zA _ _).trans (hb1.mono (by rw[wsa];omega));obtain⟨b0,b1,b2,b3,b4,b5,b6,bf,bh⟩:=box7 HBT.out hb1;have BH:=hdz bh;have f0:=bf 0;have f1:=bf 1;have f2:=bf 2;have f3:=bf 3;have f4:=bf 4;have f5:=bf 5;have f6:=bf 6;clear hb1 bf bh)
   obtain⟨W,hW⟩:∃W,W=set7 w1 β (I6 0) (I6 0) (I6 0) (I6 0) (I6 0) (I6 0) (.slice none 0 0):=⟨_,rfl⟩;have hs:=JmS (I6 0) (I6 0) (I6 0) (I6 0) (I6 0) (I6 0) (.slice none 0 0) BH.out HB1.out (Nat.le_of_eq HBT.out);rw[←hW]at hs;have HW:=hdz hs.2;have d0:=cQ hs.1 0 rfl;have d1:=cQ hs.1 1 rfl;have d2:=cQ hs.1 2 rfl;have d3:=cQ hs.1 3 rfl;have d4:=cQ hs.1 4 rfl;have d5:=cQ hs.1 5 rfl;have d6:=cQ hs.1 6 rfl;unfold set7 at hW;rw[←hW];clear b0 b1 b2 b3 b4 b5 b6 f0 f1 f2 f3 f4 f5 f6 hs hW;refine bodyPost_ret (v:=.tuple #[.agg #[I6 0,I6 0,I6 0,I6 0,I6 0,I6 0,.slice none 0 0],.iface 25 (I6 2)]) (by simp[results,results107,go_sem,d0,d1,d2,d3,d4,d5,d6]) rfl ⟨rfl,HW.out⟩
theorem Jg4(h:isRoom lo w r bx bmx bs R)(k:Nat){p:Pk}(hp:R.fl[k]?=some p)(hfl:R.fl.length<=400) :
    Cg 107 #[Pd r 0,I6 (k:Int)] w λe w'=>∃v,e=.returned (.tuple #[pkV p v,.nilIface])/\opX lo w' v p.x.op/\Bw w w':=by
 have C:=hdz λwx (hb:Bw w wx)=>Jga (Jal h hb);obtain⟨pc,cc,pf,cf,h2,h3,h4⟩:=Jb5 h;have hk:k<R.fl.length:=(llt hp);have hne:R.fl≠[]:=λe=>by rw[e]at hk;exact absurd hk (Nat.not_lt_zero _)
 obtain⟨g,rfl,hgl,_,_,_,hat⟩:=JpU h4 hne;obtain⟨vp,a0,a1,a2,a3,a4,a5,a6,hop⟩:=hat k p hp;obtain⟨pv,cv,rfl⟩:=JaO hop;have HOP:=hdz hop;have HRL:=hdz (Jbs h);have HGL:=hdz hgl;have HX:Hid (w.cell? (Ad r 2)=some (Sl g R.fl.length cf)):=chp h2 2;have A0:=hdz a0;have A1:=hdz a1;have A2:=hdz a2;have A3:=hdz a3;have A4:=hdz a4;have A5:=hdz a5;have A6:=hdz a6;have hk1:¬(R.fl.length:Int)<=(k:Int):=by omega
 have hk2:¬(k:Int)<0:=by omega
 have hk3:(k:Int)<(R.fl.length:Int):=by omega
 have hk4:(R.fl.length:Int)<=400:=by omega
 obtain⟨β,hβ⟩:∃β,w.heap.size=β:=⟨_,rfl⟩;have HBT:=hdz hβ;clear h h2 h3 h4 hat hop hgl a0 a1 a2 a3 a4 a5 a6 hp hfl hne
 go_enter func107,ntmps107
 go_wp2_with (go_at_call 63;refine(C.out _ (zA _ _)).mono ?_;rintro e w1 ⟨rfl,hb1⟩;have HB1:Hid (Bw w w1):=(zA _ _).trans (hb1.mono (by rw[wsa];omega));obtain⟨b0,b1,b2,b3,b4,b5,b6,bf,bh⟩:=box7 HBT.out hb1;have BH:=hdz bh;have f0:=bf 0;have f1:=bf 1;have f2:=bf 2;have f3:=bf 3;have f4:=bf 4;have f5:=bf 5;have f6:=bf 6;have x2:=(zC HB1.out r 2 HRL.out).trans HX.out;have c0:=(zC HB1.out g (k*7) HGL.out).trans A0.out;have c1:=(zC HB1.out g (k*7+1) HGL.out).trans A1.out;have c2:=(zC HB1.out g (k*7+2) HGL.out).trans A2.out;have c3:=(zC HB1.out g (k*7+3) HGL.out).trans A3.out;have c4:=(zC HB1.out g (k*7+4) HGL.out).trans A4.out;have c5:=(zC HB1.out g (k*7+5) HGL.out).trans A5.out;have c6:=(zC HB1.out g (k*7+6) HGL.out).trans A6.out;clear hb1 bf bh)
 obtain⟨W,hW⟩:∃W,W=set7 w1 β (I6 p.kind) (I6 (p.c:Int)) (I6 p.rev) (I6 p.id) (I6 p.x.c) (I6 p.x.i) (.slice pv p.x.op.length cv):=⟨_,rfl⟩;have hs:=JmS (I6 p.kind) (I6 (p.c:Int)) (I6 p.rev) (I6 p.id) (I6 p.x.c) (I6 p.x.i) (.slice pv p.x.op.length cv) BH.out HB1.out (Nat.le_of_eq HBT.out);rw[←hW]at hs;have HW:=hdz hs.2;have d0:=cQ hs.1 0 rfl;have d1:=cQ hs.1 1 rfl;have d2:=cQ hs.1 2 rfl;have d3:=cQ hs.1 3 rfl;have d4:=cQ hs.1 4 rfl;have d5:=cQ hs.1 5 rfl;have d6:=cQ hs.1 6 rfl;unfold set7 at hW;rw[←hW];clear b0 b1 b2 b3 b4 b5 b6 f0 f1 f2 f3 f4 f5 f6 hs hW;refine bodyPost_ret (v:=.tuple #[.agg #[I6 p.kind,I6 (p.c:Int),I6 p.rev,I6 p.id,I6 p.x.c,I6 p.x.i,.slice pv p.x.op.length cv],.nilIface]) (by simp[results,results107,go_sem,d0,d1,d2,d3,d4,d5,d6]) rfl ⟨_,rfl,Ja1 HOP.out HW.out,HW.out⟩
end
end Go.Proofs.YtbkeomcicobohaaGreatDoor
