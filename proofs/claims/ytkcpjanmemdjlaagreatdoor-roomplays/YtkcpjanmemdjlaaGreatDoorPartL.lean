/-
  A part of the texts that the proof uses.
-/
import Derived.Test.YtkcpjanmemdjlaaGreatDoorPartK
set_option maxRecDepth 100000
set_option maxHeartbeats 40000000
set_option linter.all false
namespace Go.Proofs.YtkcpjanmemdjlaaGreatDoor
open Go.Proofs.Tryz Go.RowKit Go.Maps
section
attribute [local go_sem] Oper.semAt_some Dz Dl
theorem kn{lo:Nat}{w:World}{r s bmx:Nat}{z:List Nat}{D:List (List UInt8)}{R:Rm}{l0 n:Int}{D0:List (List UInt8)}(h:Ay lo w r s bmx z D R)(hi:Inv l0 n D0 R)(p:Pk)(hp:okPk R.E D0 R.cl.length p)(Q:p.kind=2)(v:Value)(Z:Ar lo w v p.x.op)(hbl:z.length<=1000)(S:Ap R<=10000000000) :
    Cg 15 #[Pd r 0,pkV p v] w λe w'=>e=.returned (.tuple #[])/\Ay lo w' r s bmx z D (tellR R p.c p.rev)/\sameBut w w' (Fd lo w bmx):=by
 obtain⟨pv,cv,rfl⟩:=C7 Z;obtain⟨b,F,_⟩:=L4 h hp.c;obtain⟨pc,cc,pf,cf,J,h3,h4⟩:=Ht h;obtain⟨g,rfl,hgc⟩:=N6 h3 F;obtain⟨k1,k2,k3⟩:=hi.counts S;obtain⟨m,hm⟩:∃m:Nat,p.rev=(m:Int):=⟨p.rev.toNat,by have:=hp.rev.1;omega⟩;have hml:m<=R.E.length:=by have:=hp.rev.2;omega
 have HM:=Aa hml;have HEN:=Aa hi.few;have HLOST:=Aa k1;have HFL:=Aa k3;obtain⟨R2,Y⟩:∃R2,tellR R p.c p.rev=R2:=⟨_,rfl⟩;have H2R:Hid (tellL p.c (m:Int) (R.E.drop m) R=R2):=by
  show _=_;rw[←Y];unfold tellR;rw[if_neg (by omega),hm,EC]
 rw[Y];have I:Bw w (w.alloc (Oc #[I6 p.kind,I6 (p.c:Int),I6 p.rev,I6 p.id,I6 p.x.c,I6 p.x.i,.slice pv p.x.op.length cv] 60)):=zA _ _;have X:=heap_alloc_new w (Oc #[I6 p.kind,I6 (p.c:Int),I6 p.rev,I6 p.id,I6 p.x.c,I6 p.x.i,.slice pv p.x.op.length cv] 60);obtain⟨t,hβ⟩:∃t,w.heap.size=t:=⟨_,rfl⟩;have HBT:=Aa hβ;have hkb:p.c<z.length:=(De F);have hki:(p.c:Int)<(z.length:Int):=by omega
 have hbi:(z.length:Int)<=1000:=by omega
 have x1:=cQ J 1 rfl;have x1':=(zC I r 1 (Fu h)).trans x1;have xg':=(zC I g p.c (Ca w _ hgc)).trans hgc;have HB:=Aa I;have HN:=Aa X;have HOWN:Hid (∀k,(Value.slice pf R.fl.length cf).ownBlock=some k->k<w.heap.size):=λk Q=>(Kd h4 Q).2.1;have HRL:=Aa (Fu h);have H0:=Aa h;have HV0:Hid (w.cell? (Ad r 2)=some (.slice pf R.fl.length cf)):=Az J 2;unfold pkV;rw[Q,hm]at *;rw[hβ]at HN;generalize p.c=a1 at *;generalize p.id=a3 at *;generalize p.x.c=a4 at *;generalize p.x.i=a5 at *;generalize p.x.op.length=a6 at *;generalize z.length=N at *;obtain⟨a2,ha2⟩:∃a2:Int,a2=(m:Int):=⟨_,rfl⟩;have HZ:Hid (ZK [(((Ad r 1):Addr),Sl g N cc),(((Ad g a1):Addr),Pd b 0),(((Ad t 1):Addr),I6 (a1:Int))] (w.alloc (Oc #[I6 2,I6 (a1:Int),I6 (m:Int),I6 a3,I6 a4,I6 a5,.slice pv a6 cv] 60))):=.cons x1' (.cons xg' (.cons (Az HN.out 1) (.nil _)));clear h hi hp Z I X J h3 h4 hgc F hβ x1 x1' xg' k1 k2 k3 hm Y S hml
 go_enter func15,ntmps15
 go_wp2;rw[HBT.out];refine wz (λu:World=>ZK [(((Ad r 1):Addr),Sl g N cc),(((Ad g a1):Addr),Pd b 0),(((Ad t 1):Addr),I6 (a1:Int))] u) 9 HZ.out ZK.grow λw30 l A G y=>?_;have q0:∀d,(G d).cell? ((Ad r 1):Addr)=some (Sl g N cc):=λd=>y.but d (((Ad r 1):Addr),Sl g N cc) (by simp);have q1:∀d,(G d).cell? ((Ad g a1):Addr)=some (Pd b 0):=λd=>y.but d (((Ad g a1):Addr),Pd b 0) (by simp);have q2:∀d,(G d).cell? ((Ad t 1):Addr)=some (I6 (a1:Int)):=λd=>y.but d (((Ad t 1):Addr),I6 (a1:Int)) (by simp);(iterate 9 (refine ay y A λ_ k=>?_;go_simp;apply k;clear k));clear q0 q1 q2 y;refine ae ?_;intro H hb4;have hbA:=l.trans (hb4.mono l.size);have C:Hid (H.heap[t]?=some (Oc #[I6 2,I6 (a1:Int),I6 (m:Int),I6 a3,I6 a4,I6 a5,.slice pv a6 cv] 60)):=(hbA.block t (As HN.out)).trans HN.out;have HB4:Hid (Bw w H):=HB.out.trans (hbA.mono HB.out.size);have H4:=Aa (Ii H0.out HB4.out);have HV4:Hid (H.cell? (Ad r 2)=some (.slice pf R.fl.length cf)):=(zC HB4.out r 2 HRL.out).trans HV0.out
 have KB:Hid (∀u,keptF H u r->u.heap[t]?=some (Oc #[I6 2,I6 (a1:Int),I6 (m:Int),I6 a3,I6 a4,I6 a5,.slice pv a6 cv] 60)):=λu hf=>by
  refine(hf.1.2 t (As C.out) λe=>?_).trans C.out;have h1:=HBT.out;have J:=HRL.out
  rcases e with e|⟨v,e,Q⟩
  . omega
  . rw[HV4.out]at e
    obtain rfl:=Bq e;have:=HOWN.out t Q;omega
 have j:=C.out;have c0:=cQ j 0 rfl;have c2:=cQ j 2 rfl;have HE4:Hid (∀u R',Ay lo u r s bmx z D R'->keptF H u r->sameBut w u (Fd lo w bmx)):=λu R' a c=>SJ HB4.out (NA (c.touchW H4.out));clear hbA l hb4 A j HZ HN HB;clear H0
 go_upto_region 11 with (fail)
 go_loopw [6] (λi wr=>∃q:Nat,i=.int .i64 (q:Int)/\m<=q/\q<=R.E.length/\∃R',tellL a1 (q:Int) (R.E.drop q) R'=R2/\Ay lo wr r s bmx z D R'/\keptF H wr r/\R'.lost<=R.lost+(q - m)/\R'.fl.length<=400/\R'.E=R.E) (λi _=>R.E.length - (intOf i).toNat)
 case atStart=>exact⟨m,rfl,Ai _,HM.out,R,H2R.out,H4.out,Ip (Fu H4.out) (A9 _ _),by omega,HFL.out,rfl⟩
 case round =>
  as_aux_lemma =>
  obtain⟨q,rfl,hmq,hq,R',e1,e2,e3,e4,e5,e6⟩:=hrel;have E1:=Aa e1;have E2:=Aa e2;have E3:=Aa e3;have P:Hid (R'.lost<=R.lost+(q - m)/\R'.fl.length<=400):=⟨e4,e5⟩;have hEN:=HEN.out;have hqi:(q:Int)<=300:=by omega
  have hq0:(0:Int)<=(q:Int):=by omega
  have hq0':¬(q:Int)<0:=by omega
  obtain⟨pc,cc,pf,cf,g2,_,_⟩:=Ht e2;have x0:=cQ g2 0 rfl;obtain⟨_,_,⟨v0,v1,g3,g30,g4⟩,_⟩:=id e2.srv;rw[e6]at g4;obtain⟨pl,cl,rfl⟩:=Io g4;have s1:=cQ g3 1 rfl;have j:=KB.out wr e3;have b1:=cQ j 1 rfl;have b3:=cQ j 3 rfl;have hEi:(R.E.length:Int)<=300:=by omega
  by_cases B:q<R.E.length
  case pos =>
   as_aux_lemma =>
   obtain⟨x,Z⟩:∃x,R.E[q]?=some x:=⟨_,B7 B⟩;have hne:R.E≠[]:=λe=>by rw[e]at B;exact absurd B (AP _)
   obtain⟨f,rfl,hgl,_,_,_,hat⟩:=Qg g4 hne;obtain⟨vx,k0,k1,k2,hop⟩:=hat q x Z;obtain⟨U,W,rfl⟩:=C7 hop;have hq1:(q:Int)<(R.E.length:Int):=by omega
   have HZ:Hid (ZK [(((Ad t 1):Addr),I6 (a1:Int)),(((Ad r 0):Addr),Pd s 0),(((Ad s 1):Addr),Sl f R.E.length cl),(((Ad f (q*3)):Addr),I6 x.c),(((Ad f (q*3+1)):Addr),I6 x.i),(((Ad f (q*3+2)):Addr),.slice U x.op.length W)] wr):=.cons b1 (.cons x0 (.cons s1 (.cons k0 (.cons k1 (.cons k2 (.nil wr))))));have L:∃cs,wr.heap[f]?=some (Oc cs 58):=by
    obtain⟨_,_,cs,hc⟩:=J5 g4 (k:=f) rfl;exact⟨cs,hc⟩
   have CS:Hid (∀u,Bw wr u->Cg 49 #[Pd r 0,pkV ⟨3,a1,(q:Int),0,x⟩ (.slice U x.op.length W)] u λe w'=>e=.returned (.tuple #[])/\Ay lo w' r s bmx z D (Cm R' ⟨3,a1,(q:Int),0,x⟩)/\keptF H w' r/\ZK [(((Ad t 1):Addr),I6 (a1:Int)),(((Ad r 0):Addr),Pd s 0),(((Ad s 1):Addr),Sl f R.E.length cl),(((Ad f (q*3)):Addr),I6 x.c),(((Ad f (q*3+1)):Addr),I6 x.i),(((Ad f (q*3+2)):Addr),.slice U x.op.length W)] w'):=λu F=>by
    have hr:=Ii E2.out F;refine(OH hr ⟨3,a1,(q:Int),0,x⟩ _ (Bt hop F) (by have:=P.out.1;have:=HLOST.out;omega) P.out.2).mono ?_;rintro e w' ⟨rfl,a,c⟩;have Q:keptF wr w' r:=(Ip (Fu E2.out) F).trans c;have h4':=E3.out.trans Q;obtain⟨_,_,_,_,z2,_,_⟩:=Ht a;have hbx':=KB.out w' h4';have hno:∀(k:Nat) (cs:Array Value) (T:TypeId),wr.heap[k]?=some (Oc cs T)->T≠45->T≠60->w'.heap[k]?=wr.heap[k]?:=λk cs T hc t1 t2=>(Q.touchW E2.out).2 k (As hc) λe=>by
     obtain⟨_,cs',T',hc',hT⟩:=e;have:=Cx hc hc';subst this
     rcases hT with e|e
     . exact t1 e
     . exact t2 e
    obtain⟨csl,hcl⟩:=L;have c1:=hno s _ _ g3 (by decide) (by decide);have c2:=hno f _ _ hcl (by decide) (by decide);have ce:∀b o v,w'.heap[b]?=wr.heap[b]?->wr.cell? (Ad b o)=some v->w'.cell? (Ad b o)=some v:=λb o v h1 J=>(AE (w:=wr) (a:=(Ad b o)) h1).trans J;exact⟨rfl,a,h4',.cons (Az hbx' 1) (.cons (Az z2 0) (.cons (ce _ _ _ c1 s1) (.cons (ce _ _ _ c2 k0) (.cons (ce _ _ _ c2 k1) (.cons (ce _ _ _ c2 k2) (.nil w'))))))⟩
   have HNX:Hid (∀w3 w',Ay lo w3 r s bmx z D (Cm R' ⟨3,a1,(q:Int),0,x⟩)->keptF H w3 r->Bw w3 w'->∃R',tellL a1 ((q+1:Nat):Int) (R.E.drop (q+1)) R'=R2/\Ay lo w' r s bmx z D R'/\keptF H w' r/\R'.lost<=R.lost+(q+1 - m)/\R'.fl.length<=400/\R'.E=R.E):=λw3 w' a c F=>by
    obtain⟨s1',s2'⟩:=So R' ⟨3,a1,(q:Int),0,x⟩ P.out.2;refine⟨_,?_,Ii a F,c.trans (Ip (Fu a) F),by have:=P.out.1;omega,s2',(JP _ _).2.1.trans e6⟩;have e:=E1.out;rw[BK B]at e;have hxx:R.E[q]=x:=by rw[B7 B]at Z;exact Bq Z
    rw[hxx]at e;exact e
   unfold pkV at CS;simp only at CS;generalize Cm R' ⟨3,a1,(q:Int),0,x⟩=R'' at *;generalize x.c=xc at *;generalize x.i=xi at *;generalize x.op.length=nw at *;generalize hNE:R.E.length=NE at *;clear e1 e2 e3 e4 e5 e6 g2 g3 g30 g4 j Z hne hat hop hgl L E1 E2 E3 P k0 k1 k2 b1 b3 hNE;go_wp2;refine wz (λu:World=>ZK [(((Ad t 1):Addr),I6 (a1:Int)),(((Ad r 0):Addr),Pd s 0),(((Ad s 1):Addr),Sl f NE cl),(((Ad f (q*3)):Addr),I6 xc),(((Ad f (q*3+1)):Addr),I6 xi),(((Ad f (q*3+2)):Addr),.slice U nw W)] u) 16 HZ.out ZK.grow λw30 l A G y=>?_;have q0:∀d,(G d).cell? ((Ad t 1):Addr)=some (I6 (a1:Int)):=λd=>y.but d (((Ad t 1):Addr),I6 (a1:Int)) (by simp);have q1:∀d,(G d).cell? ((Ad r 0):Addr)=some (Pd s 0):=λd=>y.but d (((Ad r 0):Addr),Pd s 0) (by simp);have q2:∀d,(G d).cell? ((Ad s 1):Addr)=some (Sl f NE cl):=λd=>y.but d (((Ad s 1):Addr),Sl f NE cl) (by simp);have q3:∀d,(G d).cell? ((Ad f (q*3)):Addr)=some (I6 xc):=λd=>y.but d (((Ad f (q*3)):Addr),I6 xc) (by simp);have q4:∀d,(G d).cell? ((Ad f (q*3+1)):Addr)=some (I6 xi):=λd=>y.but d (((Ad f (q*3+1)):Addr),I6 xi) (by simp);have q5:∀d,(G d).cell? ((Ad f (q*3+2)):Addr)=some (.slice U nw W):=λd=>y.but d (((Ad f (q*3+2)):Addr),.slice U nw W) (by simp);(iterate 14 (refine ay y A λ_ k=>?_;go_simp;apply k;clear k));refine Yq y A 14 #[(0,I6 3),(1,I6 (a1:Int)),(2,I6 (q:Int)),(3,I6 0),(4,.agg #[I6 xc,I6 xi,.slice U nw W])] #[I6 3,I6 (a1:Int),I6 (q:Int),I6 0,I6 xc,I6 xi,.slice U nw W] ?_;clear q0 q1 q2 q3 q4 q5 y;refine aO 15 ⟨_,rfl,?_⟩;intro w31 O K hK
   go_simp
   refine(CS.out w31 (l.trans (O.mono l.size))).mono ?_;rintro e w2 ⟨rfl,J,hs2,hz2⟩;have H2':=Aa J;have HS2':=Aa hs2;refine⟨_,rfl,hK _ _ (λ_=>hz2) ?_⟩;clear hK K J hs2 A hz2 l O;refine ae ?_;intro w3 hb3;have HFF:Hid _:=HNX.out _ _ H2'.out HS2'.out hb3;clear hb3;go_wp2
   go_roundw
   case rel =>
    obtain⟨R3,t1⟩:=HFF.out;exact⟨q+1,by go_num,by omega,by omega,R3,t1⟩
   case measure=>simp[intOf];omega
  case neg =>
   as_aux_lemma =>
   obtain rfl:q=R.E.length:=by omega
   have hq1:¬((R.E.length:Int)<(R.E.length:Int)):=by omega
   have e:=E1.out;rw[List.drop_length]at e;have e:R'=R2:=e;subst e;have E:Hid (Ay lo wr r s bmx z D R'/\keptF H wr r):=⟨E2.out,E3.out⟩;have HLF:Hid (R'.lost<=R.lost+300/\R'.fl.length<=400):=⟨by have:=P.out.1;omega,P.out.2⟩;clear e1 e2 e3 e4 e5 e6 g2 g3 g30 g4 E1 E2 E3 P;go_wp2;go_end0;exact⟨rfl,E.out.1,HE4.out _ _ E.out.1 E.out.2⟩
variable {lo r bx bmx : Nat}{w : World}{bs : List Nat}{R : Rm}{l0 n : Int}{D0 : List (List UInt8)}
theorem ja{D:List (List UInt8)}(h:Ay lo w r bx bmx bs D R)(hD:Hx l0 R.t R.E D)(hi:Inv l0 n D0 R)(p:Pk)(hp:okPk R.E D0 R.cl.length p)(hk:p.kind=1)(hid:1<=p.id)(v:Value)(hx:Ar lo w v p.x.op)(hbl:bs.length<=1000)(hpot:Ap R<=100000000) :
    Cg 15 #[Pd r 0,pkV p v] w λe w'=>e=.returned (.tuple #[])/\(∃D',Ay lo w' r bx bmx bs D' (E9 l0 R p)/\Hx l0 (E9 l0 R p).t (E9 l0 R p).E D')/\sameBut w w' (Fd lo w bmx):=by
 obtain⟨L,O,rfl⟩:=C7 hx;obtain⟨b,hb,_⟩:=L4 h hp.c;obtain⟨pc,cc,pf,cf,Q,h3,h4⟩:=Ht h;obtain⟨g,rfl,hgc⟩:=N6 h3 hb;obtain⟨k1,k2,k3⟩:=hi.counts (by omega);have hkn:R.n<1000000000:=by unfold Ap at hpot;omega
 obtain⟨xc,xi,d,hd,hgd,hpu⟩:=hp.ask hk;have hdl:=(hi.lk.fair d (BI hd)).2;obtain⟨hwf,hxl⟩:=Qu hgd (by omega) (by omega);obtain⟨D0',hi',_,hEx,_⟩:=hi.srvK hp hk;obtain⟨m,hm⟩:∃m:Nat,p.rev=(m:Int):=⟨p.rev.toNat,by have:=hp.rev.1;omega⟩
 have hml:m<=(srvR l0 R p).E.length:=by
  have h1:=hp.rev.2
  rcases Nat.eq_zero_or_pos R.E.length with h0|h0
  . omega
  . have:=(List.getElem?_eq_some_iff.1 (hEx (R.E.length - 1) R.E[R.E.length - 1] (B7 (by omega)))).1
    omega
 have hcr:IW (p.c:Int):=by
  have:=hp.c;have:=h.cls.len;constructor<;>omega
 obtain⟨J,hD1⟩:∃J,MY l0 R.t R.E D R.M (p.c:Int) p.id p.rev p.x.op=J:=⟨_,rfl⟩;have HOK:Hid (Hx l0 (srvR l0 R p).t (srvR l0 R p).E J):=by
  have:=(V1 (M:=R.M) (c:=(p.c:Int)) (i:=p.id) (rev:=p.rev) hi.srv hD (by omega:Al p.x.op<=40000)).2.1;rw[hD1]at this;exact this
 have HM:=Aa hml;have HEN:=Aa hi'.few;have HLOST:Hid ((srvR l0 R p).lost<=10000000000):=by show R.lost<=_;omega
 have HFL:Hid ((srvR l0 R p).fl.length<=400):=k3;obtain⟨C,hR2⟩:∃C,tellR (srvR l0 R p) p.c p.rev=C:=⟨_,rfl⟩;have H2R:Hid (tellL p.c (m:Int) ((srvR l0 R p).E.drop m) (srvR l0 R p)=C):=by
  show _=_;rw[←hR2];unfold tellR;rw[if_neg (by omega),hm,EC]
 have S:Hid (C.t=(srvR l0 R p).t/\C.E=(srvR l0 R p).E):=by
  obtain⟨a,b,_⟩:=OQ (srvR l0 R p) p.c p.rev;rw[hR2]at a b;exact⟨a,b⟩
 have B:Bw w (w.alloc (Oc #[I6 p.kind,I6 (p.c:Int),I6 p.rev,I6 p.id,I6 p.x.c,I6 p.x.i,.slice L p.x.op.length O] 60)):=zA _ _;have hnew:=heap_alloc_new w (Oc #[I6 p.kind,I6 (p.c:Int),I6 p.rev,I6 p.id,I6 p.x.c,I6 p.x.i,.slice L p.x.op.length O] 60);obtain⟨l,hβ⟩:∃l,w.heap.size=l:=⟨_,rfl⟩;have HBT:=Aa hβ;have hkb:p.c<bs.length:=(De hb);have hki:(p.c:Int)<(bs.length:Int):=by omega
 have hbi:(bs.length:Int)<=1000:=by omega
 have x1:=cQ Q 1 rfl;have x1':=(zC B r 1 (Fu h)).trans x1;have xg':=(zC B g p.c (Ca w _ hgc)).trans hgc;have HB:=Aa B;have HN:=Aa hnew;have HOWN:Hid (∀k,(Value.slice pf R.fl.length cf).ownBlock=some k->k<w.heap.size):=λk hk=>(Kd h4 hk).2.1;have HRL:=Aa (Fu h);have z0:=cQ Q 0 rfl;have z0':=(zC B r 0 (Fu h)).trans z0
 have CT:Hid (∀t,Bw w t->Cg 54 #[Pd bx 0,I6 (p.c:Int),I6 p.id,I6 p.rev,.slice L p.x.op.length O] t λe w'=>e=.returned (I6 (srvE l0 R p))/\Ay lo w' r bx bmx bs J (srvR l0 R p)/\sameBut w w' (Fd lo w bmx)/\(∀(k:Nat) (cs:Array Value) (T:TypeId),t.heap[k]?=some (Oc cs T)->(T=45\/T=60)->w'.heap[k]?=t.heap[k]?)):=λt B=>by
  have hr:=Ii h B;refine(jO hr.srv hi.srv hD (p.c:Int) p.id p.rev hcr hid (.slice L p.x.op.length O) p.x.op (Bt hx B) hwf (λq hq=>by have:=Gh q _ hq;omega) (by omega) (by omega) hi.few hkn).mono ?_;rintro e w' ⟨rfl,a,c⟩;rw[hD1]at a;obtain⟨i1,i2⟩:=dg (R':=srvR l0 R p) hr a c rfl rfl rfl;refine⟨rfl,i1,SJ B i2,λk cs T hc hT=>c.2 k (As hc) λe=>?_⟩
  rcases e.2 with rfl|⟨cs',T',hc',hT'⟩
  . exact F9 hr.srv.2.2.2 _ _ _ hc
  . have:=Cx hc hc'
    subst this
    rcases hT with rfl|rfl<;>revert hT'<;>decide
 have CS2:=Aa λt (hr:Ay lo t r bx bmx bs J C) (a:C.lost<=(srvR l0 R p).lost+300) (b:C.fl.length<=400)=>OH hr (Jy p) (.slice none 0 0) (Ev (Ik 0 t)) (by have:(srvR l0 R p).lost=R.lost:=rfl;omega) b;have hask:E9 l0 R p=if srvE l0 R p≠0/\srvE l0 R p≠8 then Cm C (Jy p) else C:=by unfold E9;rw[hR2]
 rw[hask];unfold pkV at CS2 ⊢;unfold Jy Gp at *;rw[hk,hm]at *;rw[hβ]at HN;have HH2:=Aa Q;have HTS:Hid ((Cm C ⟨4,p.c,0,p.id,⟨0,0,[]⟩⟩).t=(srvR l0 R p).t/\(Cm C ⟨4,p.c,0,p.id,⟨0,0,[]⟩⟩).E=(srvR l0 R p).E):=by
  obtain⟨a,b,_⟩:=JP C ⟨4,p.c,0,p.id,⟨0,0,[]⟩⟩;exact⟨a.trans S.out.1,b.trans S.out.2⟩
 generalize Cm C ⟨4,p.c,0,p.id,⟨0,0,[]⟩⟩=R3 at *;generalize srvR l0 R p=R1 at *;generalize srvE l0 R p=EE at *;generalize p.c=a1 at *;generalize p.id=a3 at *;generalize p.x.c=a4 at *;generalize p.x.i=a5 at *;generalize p.x.op.length=a6 at *;generalize bs.length=N at *;obtain⟨RX,hRX⟩:∃RX,(if EE≠0/\EE≠8 then R3 else C)=RX:=⟨_,rfl⟩;rw[hRX];have HRX:=Aa hRX;have HZ:Hid (ZK [(((Ad r 1):Addr),Sl g N cc),(((Ad g a1):Addr),Pd b 0),(((Ad l 1):Addr),I6 (a1:Int))] (w.alloc (Oc #[I6 1,I6 (a1:Int),I6 (m:Int),I6 a3,I6 a4,I6 a5,.slice L a6 O] 60))):=.cons x1' (.cons xg' (.cons (Az HN.out 1) (.nil _)));have HZ0:Hid _:=z0';clear h hi hp hx B hnew Q h3 h4 hgc hb hβ x1 x1' xg' k1 k2 k3 hm hR2 hpot hml hRX hask hkn xc xi hd hgd hpu hdl hwf hxl hi' hEx hcr hD1 hD z0 z0' hid
 go_enter func15,ntmps15
 go_wp2;rw[HBT.out];refine wz (λt:World=>ZK [(((Ad r 1):Addr),Sl g N cc),(((Ad g a1):Addr),Pd b 0),(((Ad l 1):Addr),I6 (a1:Int))] t) 9 HZ.out ZK.grow λw30 s A G y=>?_;have q0:∀f,(G f).cell? ((Ad r 1):Addr)=some (Sl g N cc):=λf=>y.but f (((Ad r 1):Addr),Sl g N cc) (by simp);have q1:∀f,(G f).cell? ((Ad g a1):Addr)=some (Pd b 0):=λf=>y.but f (((Ad g a1):Addr),Pd b 0) (by simp);have q2:∀f,(G f).cell? ((Ad l 1):Addr)=some (I6 (a1:Int)):=λf=>y.but f (((Ad l 1):Addr),I6 (a1:Int)) (by simp);(iterate 9 (refine ay y A λ_ k=>?_;go_simp;apply k;clear k));clear q0 q1 q2 y;refine ae ?_;intro w3 W;have hbA:=s.trans (W.mono s.size);have I:Hid (w3.heap[l]?=some (Oc #[I6 1,I6 (a1:Int),I6 (m:Int),I6 a3,I6 a4,I6 a5,.slice L a6 O] 60)):=(hbA.block l (As HN.out)).trans HN.out;have HB3:Hid (Bw w w3):=HB.out.trans (hbA.mono HB.out.size);have j:=I.out;have c0:=cQ j 0 rfl;have HZ9:Hid (ZK [(((Ad r 0):Addr),Pd bx 0),(((Ad l 1):Addr),I6 (a1:Int)),(((Ad l 2):Addr),I6 (m:Int)),(((Ad l 3):Addr),I6 a3),(((Ad l 6):Addr),.slice L a6 O)] w3):=.cons ((zC HB3.out r 0 HRL.out).trans (Az HH2.out 0)) (.cons (Az j 1) (.cons (Az j 2) (.cons (Az j 3) (.cons (Az j 6) (.nil _)))));clear hbA s W A j HZ HN HB G;go_wp2;refine wz (λt:World=>ZK [(((Ad r 0):Addr),Pd bx 0),(((Ad l 1):Addr),I6 (a1:Int)),(((Ad l 2):Addr),I6 (m:Int)),(((Ad l 3):Addr),I6 a3),(((Ad l 6):Addr),.slice L a6 O)] t) 15 HZ9.out ZK.grow λw30 s A G y=>?_;have q0:∀f,(G f).cell? ((Ad r 0):Addr)=some (Pd bx 0):=λf=>y.but f (((Ad r 0):Addr),Pd bx 0) (by simp);have q1:∀f,(G f).cell? ((Ad l 1):Addr)=some (I6 (a1:Int)):=λf=>y.but f (((Ad l 1):Addr),I6 (a1:Int)) (by simp);have q2:∀f,(G f).cell? ((Ad l 2):Addr)=some (I6 (m:Int)):=λf=>y.but f (((Ad l 2):Addr),I6 (m:Int)) (by simp);have q3:∀f,(G f).cell? ((Ad l 3):Addr)=some (I6 a3):=λf=>y.but f (((Ad l 3):Addr),I6 a3) (by simp);have q4:∀f,(G f).cell? ((Ad l 6):Addr)=some (.slice L a6 O):=λf=>y.but f (((Ad l 6):Addr),.slice L a6 O) (by simp);(iterate 13 (refine ay y A λ_ k=>?_;go_simp;apply k;clear k));clear q0 q1 q2 q3 q4 y;refine aO 13 ⟨_,rfl,?_⟩;intro w31 E K hK;have hbB:Bw w3 w31:=s.trans (E.mono s.size);have HB31:Hid (Bw w w31):=HB3.out.trans (hbB.mono HB3.out.size);have Z:=(hbB.block l (As I.out)).trans I.out;have hr31:=(HB31.out.block r HRL.out).trans HH2.out
 go_simp
 refine(CT.out w31 HB31.out).mono ?_;rintro e w2 ⟨rfl,Q,U,hkk⟩;have P:=(hkk l _ _ Z (.inr rfl)).trans Z;have hr2:=(hkk r _ _ hr31 (.inl rfl)).trans hr31;have hz2:ZK [(((Ad r 0):Addr),Pd bx 0),(((Ad l 1):Addr),I6 (a1:Int)),(((Ad l 2):Addr),I6 (m:Int)),(((Ad l 3):Addr),I6 a3),(((Ad l 6):Addr),.slice L a6 O)] w2:=.cons (Az hr2 0) (.cons (Az P 1) (.cons (Az P 2) (.cons (Az P 3) (.cons (Az P 6) (.nil _)))));have H2:=Aa Q;have HS2:=Aa U;have HX2:=Aa P;have HR2:=Aa hr2;refine⟨_,rfl,hK _ _ (λ_=>hz2) ?_⟩;clear hK K Q U hkk Z hr31 A hbB s E P hr2 hz2;refine aO 14 ⟨_,rfl,?_⟩;intro w33 hb33 K hK
 go_simp
 refine hK _ _ (λhz=>hz) ?_;clear hK K;refine ae ?_;intro w4 hb4;have F:=hb33.trans (hb4.mono hb33.size);have Y:Hid (w4.heap[l]?=some (Oc #[I6 1,I6 (a1:Int),I6 (m:Int),I6 a3,I6 a4,I6 a5,.slice L a6 O] 60)):=(F.block l (As HX2.out)).trans HX2.out;have H4:=Aa (Ii H2.out F);have HV4:Hid (w4.cell? (Ad r 2)=some (.slice pf R.fl.length cf)):=Az ((F.block r (As HR2.out)).trans HR2.out) 2;have HS4:=Aa (SI HS2.out F)
 have KB:Hid (∀t,keptF w4 t r->t.heap[l]?=some (Oc #[I6 1,I6 (a1:Int),I6 (m:Int),I6 a3,I6 a4,I6 a5,.slice L a6 O] 60)):=λt hf=>by
  refine(hf.1.2 l (As Y.out) λe=>?_).trans Y.out;have h1:=HBT.out;have Q:=HRL.out
  rcases e with e|⟨v,e,hk⟩
  . omega
  . rw[HV4.out]at e
    obtain rfl:=Bq e;have:=HOWN.out l hk;omega
 have j:=Y.out;have d2:=cQ j 2 rfl;have HE4:Hid (∀t R',Ay lo t r bx bmx bs J R'->keptF w4 t r->sameBut w t (Fd lo w bmx)):=λt R' a c=>SK HS4.out (NA (c.touchW H4.out));clear hb33 hb4 F j HZ9 HH2 HX2 HR2 H2 HS2 HB31 c0 CT I HB3 HZ0
 go_upto_region 11 with (fail)
 go_loopw [6] (λi wr=>∃q:Nat,i=.int .i64 (q:Int)/\m<=q/\q<=R1.E.length/\∃R',tellL a1 (q:Int) (R1.E.drop q) R'=C/\Ay lo wr r bx bmx bs J R'/\keptF w4 wr r/\R'.lost<=R1.lost+(q - m)/\R'.fl.length<=400/\R'.E=R1.E) (λi _=>R1.E.length - (intOf i).toNat)
 case atStart=>exact⟨m,rfl,Ai _,HM.out,R1,H2R.out,H4.out,Ip (Fu H4.out) (A9 _ _),by omega,HFL.out,rfl⟩
 case round =>
  as_aux_lemma =>
  obtain⟨q,rfl,hmq,hq,R',e1,e2,e3,e4,e5,e6⟩:=hrel;have E1:=Aa e1;have E2:=Aa e2;have E3:=Aa e3;have E4:Hid (R'.lost<=R1.lost+(q - m)/\R'.fl.length<=400):=⟨e4,e5⟩;have hEN:=HEN.out;have hqi:(q:Int)<=300:=by omega
  have hq0:(0:Int)<=(q:Int):=by omega
  have hq0':¬(q:Int)<0:=by omega
  obtain⟨pc,cc,pf,cf,g2,_,_⟩:=Ht e2;have x0:=cQ g2 0 rfl;obtain⟨_,_,⟨v0,v1,g3,g30,g4⟩,_⟩:=id e2.srv;rw[e6]at g4;obtain⟨pl,cl,rfl⟩:=Io g4;have s1:=cQ g3 1 rfl;have j:=KB.out wr e3;have b1:=cQ j 1 rfl;have b3:=cQ j 3 rfl;have hEi:(R1.E.length:Int)<=300:=by omega
  by_cases X:q<R1.E.length
  case pos =>
   as_aux_lemma =>
   obtain⟨x,hx⟩:∃x,R1.E[q]?=some x:=⟨_,B7 X⟩;have hne:R1.E≠[]:=λe=>by rw[e]at X;exact absurd X (AP _)
   obtain⟨z,rfl,hgl,_,_,_,hat⟩:=Qg g4 hne;obtain⟨vx,k0,k1,k2,hop⟩:=hat q x hx;obtain⟨pw,cw,rfl⟩:=C7 hop;have hq1:(q:Int)<(R1.E.length:Int):=by omega
   have HZ:Hid (ZK [(((Ad l 1):Addr),I6 (a1:Int)),(((Ad r 0):Addr),Pd bx 0),(((Ad bx 1):Addr),Sl z R1.E.length cl),(((Ad z (q*3)):Addr),I6 x.c),(((Ad z (q*3+1)):Addr),I6 x.i),(((Ad z (q*3+2)):Addr),.slice pw x.op.length cw)] wr):=.cons b1 (.cons x0 (.cons s1 (.cons k0 (.cons k1 (.cons k2 (.nil wr))))));have hglT:∃cs,wr.heap[z]?=some (Oc cs 58):=by
    obtain⟨_,_,cs,hc⟩:=J5 g4 (k:=z) rfl;exact⟨cs,hc⟩
   have CS:Hid (∀t,Bw wr t->Cg 49 #[Pd r 0,pkV ⟨3,a1,(q:Int),0,x⟩ (.slice pw x.op.length cw)] t λe w'=>e=.returned (.tuple #[])/\Ay lo w' r bx bmx bs J (Cm R' ⟨3,a1,(q:Int),0,x⟩)/\keptF w4 w' r/\ZK [(((Ad l 1):Addr),I6 (a1:Int)),(((Ad r 0):Addr),Pd bx 0),(((Ad bx 1):Addr),Sl z R1.E.length cl),(((Ad z (q*3)):Addr),I6 x.c),(((Ad z (q*3+1)):Addr),I6 x.i),(((Ad z (q*3+2)):Addr),.slice pw x.op.length cw)] w'):=λt hb=>by
    have hr:=Ii E2.out hb;refine(OH hr ⟨3,a1,(q:Int),0,x⟩ _ (Bt hop hb) (by have:=E4.out.1;have:=HLOST.out;omega) E4.out.2).mono ?_;rintro e w' ⟨rfl,a,c⟩;have hk:keptF wr w' r:=(Ip (Fu E2.out) hb).trans c;have h4':=E3.out.trans hk;obtain⟨_,_,_,_,z2,_,_⟩:=Ht a;have hbx':=KB.out w' h4';have hno:∀(k:Nat) (cs:Array Value) (T:TypeId),wr.heap[k]?=some (Oc cs T)->T≠45->T≠60->w'.heap[k]?=wr.heap[k]?:=λk cs T hc t1 t2=>(hk.touchW E2.out).2 k (As hc) λe=>by
     obtain⟨_,cs',T',hc',hT⟩:=e;have:=Cx hc hc';subst this
     rcases hT with e|e
     . exact t1 e
     . exact t2 e
    obtain⟨csl,hcl⟩:=hglT;have c1:=hno bx _ _ g3 (by decide) (by decide);have c2:=hno z _ _ hcl (by decide) (by decide);have ce:∀b o v,w'.heap[b]?=wr.heap[b]?->wr.cell? (Ad b o)=some v->w'.cell? (Ad b o)=some v:=λb o v h1 Q=>(AE (w:=wr) (a:=(Ad b o)) h1).trans Q;exact⟨rfl,a,h4',.cons (Az hbx' 1) (.cons (Az z2 0) (.cons (ce _ _ _ c1 s1) (.cons (ce _ _ _ c2 k0) (.cons (ce _ _ _ c2 k1) (.cons (ce _ _ _ c2 k2) (.nil w'))))))⟩
   have HNX:Hid (∀w3 w',Ay lo w3 r bx bmx bs J (Cm R' ⟨3,a1,(q:Int),0,x⟩)->keptF w4 w3 r->Bw w3 w'->∃R',tellL a1 ((q+1:Nat):Int) (R1.E.drop (q+1)) R'=C/\Ay lo w' r bx bmx bs J R'/\keptF w4 w' r/\R'.lost<=R1.lost+(q+1 - m)/\R'.fl.length<=400/\R'.E=R1.E):=λw3 w' a c hb=>by
    obtain⟨s1',s2'⟩:=So R' ⟨3,a1,(q:Int),0,x⟩ E4.out.2;refine⟨_,?_,Ii a hb,c.trans (Ip (Fu a) hb),by have:=E4.out.1;omega,s2',(JP _ _).2.1.trans e6⟩;have e:=E1.out;rw[BK X]at e;have hxx:R1.E[q]=x:=by rw[B7 X]at hx;exact Bq hx
    rw[hxx]at e;exact e
   unfold pkV at CS;simp only at CS;generalize Cm R' ⟨3,a1,(q:Int),0,x⟩=R'' at *;generalize x.c=xc at *;generalize x.i=xi at *;generalize x.op.length=nw at *;generalize hNE:R1.E.length=NE at *;clear e1 e2 e3 e4 e5 e6 g2 g3 g30 g4 j hx hne hat hop hgl hglT E1 E2 E3 E4 k0 k1 k2 b1 b3 hNE;go_wp2;refine wz (λt:World=>ZK [(((Ad l 1):Addr),I6 (a1:Int)),(((Ad r 0):Addr),Pd bx 0),(((Ad bx 1):Addr),Sl z NE cl),(((Ad z (q*3)):Addr),I6 xc),(((Ad z (q*3+1)):Addr),I6 xi),(((Ad z (q*3+2)):Addr),.slice pw nw cw)] t) 16 HZ.out ZK.grow λw30 s A G y=>?_;have q0:∀f,(G f).cell? ((Ad l 1):Addr)=some (I6 (a1:Int)):=λf=>y.but f (((Ad l 1):Addr),I6 (a1:Int)) (by simp);have q1:∀f,(G f).cell? ((Ad r 0):Addr)=some (Pd bx 0):=λf=>y.but f (((Ad r 0):Addr),Pd bx 0) (by simp);have q2:∀f,(G f).cell? ((Ad bx 1):Addr)=some (Sl z NE cl):=λf=>y.but f (((Ad bx 1):Addr),Sl z NE cl) (by simp);have q3:∀f,(G f).cell? ((Ad z (q*3)):Addr)=some (I6 xc):=λf=>y.but f (((Ad z (q*3)):Addr),I6 xc) (by simp);have q4:∀f,(G f).cell? ((Ad z (q*3+1)):Addr)=some (I6 xi):=λf=>y.but f (((Ad z (q*3+1)):Addr),I6 xi) (by simp);have q5:∀f,(G f).cell? ((Ad z (q*3+2)):Addr)=some (.slice pw nw cw):=λf=>y.but f (((Ad z (q*3+2)):Addr),.slice pw nw cw) (by simp);(iterate 14 (refine ay y A λ_ k=>?_;go_simp;apply k;clear k));refine Yq y A 14 #[(0,I6 3),(1,I6 (a1:Int)),(2,I6 (q:Int)),(3,I6 0),(4,.agg #[I6 xc,I6 xi,.slice pw nw cw])] #[I6 3,I6 (a1:Int),I6 (q:Int),I6 0,I6 xc,I6 xi,.slice pw nw cw] ?_;clear q0 q1 q2 q3 q4 q5 y;refine aO 15 ⟨_,rfl,?_⟩;intro w31 E K hK
   go_simp
   refine(CS.out w31 (s.trans (E.mono s.size))).mono ?_;rintro e w2 ⟨rfl,Q,U,hz2⟩;have H2':=Aa Q;have HS2':=Aa U;refine⟨_,rfl,hK _ _ (λ_=>hz2) ?_⟩;clear hK K Q U A hz2 s E;refine ae ?_;intro w3 W;have HFF:Hid _:=HNX.out _ _ H2'.out HS2'.out W;clear W;go_wp2
   go_roundw
   case rel =>
    obtain⟨R3,t1⟩:=HFF.out;exact⟨q+1,by go_num,by omega,by omega,R3,t1⟩
   case measure=>simp[intOf];omega
  case neg =>
   as_aux_lemma =>
   obtain rfl:q=R1.E.length:=by omega
   have hq1:¬((R1.E.length:Int)<(R1.E.length:Int)):=by omega
   have e:=E1.out;rw[List.drop_length]at e;have e:R'=C:=e;subst e;have u:Hid (Ay lo wr r bx bmx bs J R'/\keptF w4 wr r):=⟨E2.out,E3.out⟩;have HLF:Hid (R'.lost<=R1.lost+300/\R'.fl.length<=400):=⟨by have:=E4.out.1;omega,E4.out.2⟩;clear e1 e2 e3 e4 e5 e6 g2 g3 g30 g4 E1 E2 E3 E4
   by_cases hz0:EE=0
   . subst hz0
     have H:Hid (R'=RX):=(if_neg (λe=>e.1 rfl)).symm.trans HRX.out;go_wp2;go_end0;refine⟨rfl,⟨J,?_,?_⟩,HE4.out _ _ u.out.1 u.out.2⟩
     . rw[←H.out];exact u.out.1
     . rw[←H.out,S.out.1,S.out.2];exact HOK.out
   . by_cases hz8:EE=8
     . subst hz8
       have H:Hid (R'=RX):=(if_neg (λe=>e.2 rfl)).symm.trans HRX.out;go_wp2;go_end0;refine⟨rfl,⟨J,?_,?_⟩,HE4.out _ _ u.out.1 u.out.2⟩
       . rw[←H.out];exact u.out.1
       . rw[←H.out,S.out.1,S.out.2];exact HOK.out
     . have H:Hid (R3=RX):=(if_pos ⟨hz0,hz8⟩).symm.trans HRX.out
       have e0:(EE != 0)=true:=by simpa using hz0
       have e8:(EE != 8)=true:=by simpa using hz8
       have CSE:Hid _:=CS2.out wr u.out.1 HLF.out.1 HLF.out.2
       go_wp2_with (go_at_call 49;refine AC CSE.out ?_;rintro e w6 ⟨rfl,h6,hs6⟩;have H6:=Aa h6;have HS6:=Aa hs6;clear h6 hs6)
       go_end0;refine⟨rfl,⟨J,?_,?_⟩,HE4.out _ _ H6.out (u.out.2.trans HS6.out)⟩
       . rw[←H.out];exact H6.out
       . rw[←H.out,HTS.out.1,HTS.out.2];exact HOK.out
theorem i8(h:isFd l0 lo w r bx bmx bs R)(g:Inv l0 n D0 R)(o:n<=100000)(p:Pk)(f:okPk R.E D0 R.cl.length p)(m:p.kind=1->1<=p.id)(v:Value)(i:Ar lo w v p.x.op)(b:bs.length<=1000)(d:Ap R<=100000000) :
    Cg 15 #[Pd r 0,pkV p v] w λe w'=>e=.returned (.tuple #[])/\isFd l0 lo w' r bx bmx bs (Fz l0 R p)/\sameBut w w' (Fd lo w bmx):=by
 obtain⟨D,j,l⟩:=h;unfold Fz
 rcases f.kind with k|k|k|k
 . rw[if_pos k]
   exact ja j l g p f k (m k) v i b d
 . rw[if_neg (by rw[k];decide),if_pos k]
   refine(kn j g p f k v i b (by omega)).mono ?_;rintro e w' ⟨rfl,a,c⟩;exact⟨rfl,⟨D,a,bA l _ _⟩,c⟩
 . rw[if_neg (by rw[k];decide),if_neg (by rw[k];decide),if_pos k]
   refine(ko j g o p f k v i b).mono ?_;rintro e w' ⟨rfl,a,c⟩;exact⟨rfl,⟨D,a,l⟩,c⟩
 . rw[if_neg (by rw[k];decide),if_neg (by rw[k];decide),if_neg (by rw[k];decide),if_pos k]
   refine(lj j g o p f k v i b).mono ?_;rintro e w' ⟨rfl,a,c⟩;exact⟨rfl,⟨D,a,l⟩,c⟩
end
section
attribute [local go_sem] Oper.semAt_some Dz Dl
section
variable {lo : Nat} {w : World} {r bx bmx : Nat} {bs : List Nat} {R : Rm} {l0 n : Int} {D : List (List UInt8)}
structure Fk (lo:Nat) (w:World) (r bx bmx:Nat) (bs:List Nat) (l0 n:Int) (D:List (List UInt8)) (R:Rm):Prop where
 fr:isFd l0 lo w r bx bmx bs R
 inv:Inv l0 n D R
 ask:askOk R
theorem WT{i:Nat}{p:Pk}(b:R.fl[i]?=some p):Ap (outR R i)+wP p=Ap R:=by
 have h:∀(a:List Pk) (i:Nat),a[i]?=some p->Cr (a.eraseIdx i)+wP p=Cr a:=λa=>by
  induction a with
  | nil=>intro i h;simp at h
  | cons q a ih =>
   intro i h
   cases i with
   | zero=>obtain rfl:=Bq h;simp[Cr];omega
   | succ i=>have:=ih i h;simp[Cr]at this ⊢;omega
 have:=h R.fl i b;show R.n+R.lost+Cr (R.fl.eraseIdx i)+wP p=R.n+R.lost+Cr R.fl;omega
theorem Zo(e:Inv l0 n D R){i:Nat}{p:Pk}(d:R.fl[i]?=some p):Ap (Er l0 R i)<=Ap R:=by
 obtain⟨h,f,_⟩:=e.deliv i;have c:=f.few;have g:Er l0 R i=Fz l0 (outR R i) p:=by unfold Er;rw[d]
 rw[g]at c ⊢;have a:=(RW l0 (outR R i) p c).1;have b:=WT d
 split at a<;>omega
theorem VT(h:Fk lo w r bx bmx bs l0 n D R)(C:n<=100000){i:Nat}{p:Pk}(g:R.fl[i]?=some p)(k:bs.length<=1000)(l:Ap R<=100000000) :
    Cg 16 #[Pd r 0,I6 (i:Int)] w λe m=>∃v,e=.returned (pkV p v) /\
     ∀j,Bw m j->Cg 15 #[Pd r 0,pkV p v] j λe w'=>e=.returned (.tuple #[])/\(∃f,Fk lo w' r bx bmx bs l0 n f (Er l0 R i)/\Ext D f)/\sameBut w w' (Fd lo w bmx):=by
 obtain⟨E,x,B⟩:=h.fr;have d:=h.inv;have o:=BI g;have q:Er l0 R i=Fz l0 (outR R i) p:=by unfold Er;rw[g]
 refine(XQ x g d.room).mono ?_;rintro e m ⟨v,rfl,y,t,z⟩;have u:=NA (smx:=bmx) z;refine⟨v,rfl,λj b=>(i8 (isFd.below ⟨E,t,B⟩ b) (d.out i) C p (d.pks p o) (h.ask p o) v (Bt y b) k (by have:=WT g;omega)).mono ?_⟩;rintro e w' ⟨rfl,a,c⟩;obtain⟨f,s,A,_⟩:=d.deliv i;exact⟨rfl,⟨f,⟨by rw[q];exact a,s,by rw[q];exact(h.ask.out i).comes l0 p⟩,A⟩,SK (SI u b) c⟩
theorem jb(h:Fk lo w r bx bmx bs l0 n D R)(hn:n<=100000)(hbl:bs.length<=1000)(B:Ap R<=90000000) :
    Cg 22 #[Pd r 0] w λe w'=>e=.returned (.tuple #[])/\(∃J,Fk lo w' r bx bmx bs l0 n J (Hs l0 R))/\sameBut w w' (Fd lo w bmx):=by
 obtain⟨N,hN⟩:∃N,bs.length=N:=⟨_,rfl⟩;have I:R.cl.length=N:=by obtain⟨_,u,_⟩:=h.fr;rw[←hN];exact u.cls.len.symm
 have HQ:Hid (Hs l0 R=Gl l0 N 0 (Em l0 R)):=by show Hs l0 R=_;unfold Hs;rw[I]
 have HN:=Aa hN;have S:Hid (Fk lo w r bx bmx bs l0 n D R/\R.cl.length=N/\Ap R<=90000000):=⟨h,I,B⟩;have hNi:(N:Int)<=1000:=by omega
 rw[HQ.out];clear h I B hN hbl
 go_enter func22,ntmps22
 go_wp2
 go_loopg [2] (N+1) (λg i wr=>∃m:Nat,g+m=N+1/\i=.int .i64 ((m:Int) - 1)/\∃R' J,Fk lo wr r bx bmx bs l0 n J R'/\R'.cl.length=N/\Ap R'<=90000000+400*m/\(m=0/\R'=R\/1<=m/\Gl l0 (N+1 - m) (m - 1) R'=Gl l0 N 0 (Em l0 R))/\sameBut w wr (Fd lo w bmx))
 case atStart=>exact⟨0,rfl,rfl,R,D,S.out.1,S.out.2.1,S.out.2.2,.inl ⟨rfl,rfl⟩,OT _ _⟩
 case round =>
  obtain⟨m,hm,rfl,R',J,t,O,F,L,G⟩:=hrel;have HG:=Aa hm;have z:=Aa t;have b:Hid (R'.cl.length=N/\Ap R'<=90000000+400*m/\(m=0/\R'=R\/1<=m/\Gl l0 (N+1 - m) (m - 1) R'=Gl l0 N 0 (Em l0 R))):=⟨O,F,L⟩;have X:=Aa G;obtain⟨D1,u,E⟩:=t.fr;obtain⟨pc,cc,pf,cf,H,g3,_⟩:=Ht u;rw[HN.out]at H;have x1:=cQ H 1 rfl;clear t O F L G u E H g3
  by_cases C:m<=N
  case neg =>
   obtain rfl:m=N+1:=by omega
   have e1:¬((N+1:Nat):Int) - 1<(N:Int):=by omega
   clear C;go_wp2;go_end0;have e:=b.out.2.2.resolve_left (by omega);rw[BP]at e;exact⟨rfl,⟨J,by rw[←e.2];exact z.out⟩,X.out⟩
  case pos =>
   have e1:(m:Int) - 1<(N:Int):=by omega
   have HM:=Aa C;obtain⟨Y,rfl⟩:∃Y,gk=Y+1:=⟨gk - 1,by omega⟩;clear C hm
   rcases m with _|k
   case' zero =>
    have e2:¬(0:Int)<=((0:Nat):Int) - 1:=by decide
    obtain⟨l,s⟩:∃l,l=0:=⟨_,rfl⟩;have x:Hid (l=0/\Y+1+l=N+1):=⟨s,by have:=HG.out;omega⟩;obtain⟨f,j⟩:∃f,f=R':=⟨_,rfl⟩;have K:Hid (Fk lo wr r bx bmx bs l0 n J f/\f.cl.length=N/\Ap f<=90000000+400*(l+1)/\sameBut w wr (Fd lo w bmx)):=⟨by rw[j];exact z.out,by rw[j];exact b.out.1,by rw[j];have:=b.out.2.1;omega,X.out⟩;have W:Hid (Gl l0 (N - l) l (Em l0 f)=Gl l0 N 0 (Em l0 R)):=by
     show _=_;rw[s,j,(b.out.2.2.resolve_right (by omega)).2,GM]
    clear j z b X S s HG;go_wp2
   case' succ =>
    have e2:(0:Int)<=((k+1:Nat):Int) - 1:=by omega
    obtain⟨l,s⟩:∃l,l=k+1:=⟨_,rfl⟩;have x:Hid (l=k+1/\Y+1+l=N+1):=⟨s,by have:=HG.out;omega⟩;have e3:((k+1:Nat):Int) - 1=(k:Int):=by omega
    have y:k<R'.cl.length:=by have:=HM.out;have:=b.out.1;omega
    obtain⟨D1,u,E⟩:=z.out.fr;have U:=z.out.inv;obtain⟨k1,k2,k3⟩:=U.counts (by have:=b.out.2.1;have:=HM.out;omega);obtain⟨f,j⟩:∃f,f=sendC R' k:=⟨_,rfl⟩;have CS:Hid (Cg 13 #[Pd r 0,I6 (k:Int)] wr λe w'=>e=.returned (.tuple #[])/\Fk lo w' r bx bmx bs l0 n J f/\f.cl.length=N/\Ap f<=90000000+400*(l+1)/\sameBut w w' (Fd lo w bmx)):=by
     refine(XO u U y (by omega) (by rw[HN.out];omega)).mono ?_;rintro e w' ⟨rfl,a,c⟩;have hp:=QN R' (Et R' k);have hcs:(sendC R' k).cl.length=R'.cl.length:=by unfold sendC;rw[(JP _ _).2.2.2.2]
     rw[j];exact⟨rfl,⟨⟨D1,a,TY E _⟩,U.sendK y,z.out.ask.sendC U y⟩,hcs.trans b.out.1,by have:=b.out.2.1;have e:Ap (sendC R' k)=Ap (Cm R' (Et R' k)):=rfl;omega,SK X.out (NA (c.touchW u))⟩
    have W:Hid (Gl l0 (N - l) l (Em l0 f)=Gl l0 N 0 (Em l0 R)):=by
     show _=_;rw[s];have e:=(b.out.2.2.resolve_left (by omega)).2;rw[←e,j,show N+1 - (k+1)=(N - (k+1))+1 by have:=HM.out;omega];rfl
    rw[e3]at e1 e2 ⊢;clear j z b X S u E U k1 k2 k3 y e3 s HG
    go_wp2_with (go_at_call 13;refine AC CS.out ?_;rintro e w3 ⟨rfl,hk⟩;have K:=Aa hk;clear hk)
   all_goals as_aux_lemma =>
    obtain⟨P,hP⟩:∃P,Ap f=P:=⟨_,rfl⟩
    go_loopg [] (Cr f.fl) (λg wx=>∃d D2,Fk lo wx r bx bmx bs l0 n D2 d/\d.cl.length=N/\Em l0 d=Em l0 f/\Ap d<=Ap f/\Cr d.fl=g/\sameBut w wx (Fd lo w bmx))
    case atStart=>exact⟨f,_,K.out.1,K.out.2.1,rfl,Ai _,rfl,K.out.2.2.2⟩
    case round =>
     obtain⟨d,D2,t,O,F,L,G,h6⟩:=hrel;have z:=Aa t;have Q:Hid (d.cl.length=N/\Em l0 d=Em l0 f/\Ap d<=Ap f/\Cr d.fl=gk):=⟨O,F,L,G⟩;have H6:=Aa h6;obtain⟨D1,u,E⟩:=t.fr;obtain⟨pc,cc,pf,cf,H,_,_⟩:=Ht u;have x2:=cQ H 2 rfl;have hfl:=t.inv.room
     by_cases o:d.fl=[]
     . have hz:¬(0:Int)<(d.fl.length:Int):=by rw[o];decide
       have hR:d=Em l0 f:=by rw[←F,aj o]
       have HR:=Aa hR;have HGK:Hid (gk=0):=by show gk=0;rw[←G,o];rfl
       clear t O F L G h6 o u E H hR hP x1;go_wp2
       go_roundg Y
       case measure=>omega
       case rel =>
        refine⟨l+1,by have:=x.out.2;omega,by rw[x.out.1];go_num,d,D2,z.out,Q.out.1,AF Q.out.2.2.1 K.out.2.2.1,.inr ⟨by omega,?_⟩,H6.out⟩;rw[←W.out,←HR.out,Nat.add_sub_add_right,Nat.add_sub_cancel]
     . have A:0<d.fl.length:=List.length_pos_iff.2 o
       have hz:(0:Int)<(d.fl.length:Int):=by omega
       obtain⟨p,hp⟩:∃p,d.fl[0]?=some p:=⟨_,B7 A⟩;have CD:Hid _:=VT t hn hp (by rw[HN.out];omega) (by have:=K.out.2.2.1;have:=x.out.2;omega);have Z:Hid _:=t.inv.stepM o;have HPD:Hid (Ap (Er l0 d 0)<=Ap d/\(Er l0 d 0).cl.length=d.cl.length):=by
        obtain⟨_,_,_,q,_⟩:=t.inv.deliv 0;exact⟨Zo t.inv hp,q⟩
       clear t O F L G h6 o u E H hP x1 hp A
       go_wp2_with (first
        | (go_at_call 16;refine AC CD.out ?_;rintro e w1 ⟨v,rfl,hc⟩;have HC:=Aa hc;clear hc)
        | (go_at_call 15;refine(HC.out _ (A9 _ _)).mono ?_;rintro e w2 ⟨rfl,⟨D3,hd,_⟩,hs⟩;have HD:=Aa hd;have HS:Hid _:=SK H6.out hs;clear hd hs))
       go_roundg (Cr (Er l0 d 0).fl)
       case measure=>rw[←Q.out.2.2.2];exact Z.out.2
       case rel=>exact⟨_,D3,HD.out,HPD.out.2.trans Q.out.1,Z.out.1.trans Q.out.2.1,AF HPD.out.1 Q.out.2.2.1,rfl,HS.out⟩
end
end
section
attribute [local go_sem] Oper.semAt_some Dz Dl
variable {lo r bx bmx : Nat}{w : World}{bs : List Nat}{R : Rm}{l0 n : Int}{D : List (List UInt8)}
theorem jT(F:Env lo w)(h:Ac lo w r bx bmx bs R)(hi:Inv l0 n D R)(p:Pk)(hp:okPk R.E D R.cl.length p)(W:p.kind=1)(v:Value)(hx:Ar lo w v p.x.op)(hbl:bs.length<=1000)(X:Ap R<=100000000) :
    Cg 57 #[Pd r 0,pkV p v] w λe w'=>e=.returned (.tuple #[])/\Ac lo w' r bx bmx bs (E9 l0 R p)/\sameBut w w' (El lo w bmx):=by
 obtain⟨H,I,rfl⟩:=C7 hx;obtain⟨g1,g2,g3,g4⟩:=Q8 h p hx;obtain⟨k1,k2,k3⟩:=hi.counts (by omega);have hkn:R.n<1000000000:=by unfold Ap at X;omega
 obtain⟨pc,cc,C,o,O,h3,h4⟩:=Kj h;obtain⟨vc,hvc⟩:∃vc,vc=Value.slice pc bs.length cc:=⟨_,rfl⟩;rw[←hvc]at O;obtain⟨xc,xi,d,hd,hgd,hpu⟩:=hp.ask W;have hdl:=(hi.lk.fair d (BI hd)).2;obtain⟨hwf,hxl⟩:=Qu hgd (by omega) (by omega);obtain⟨D',P,_,hEx,_⟩:=hi.srvK hp W;obtain⟨m,hm⟩:∃m:Nat,p.rev=(m:Int):=⟨p.rev.toNat,by have:=hp.rev.1;omega⟩
 have hml:m<=(srvR l0 R p).E.length:=by
  have h1:=hp.rev.2
  rcases Nat.eq_zero_or_pos R.E.length with h0|h0
  . omega
  . have:=(List.getElem?_eq_some_iff.1 (hEx (R.E.length - 1) R.E[R.E.length - 1] (B7 (by omega)))).1
    omega
 have hcr:IW (p.c:Int):=by
  have:=hp.c;have:=h.cls.len;constructor<;>omega
 have S:=λk=>Kd (k:=k) h4;have HOWN:Hid (∀k,(Value.slice C R.fl.length o).ownBlock=some k->k<w.heap.size):=λk W=>(S k W).2.1
 have CT:Hid (∀f,Bw w f->Cg 89 #[Pd bx 0,I6 (p.c:Int),I6 p.id,I6 p.rev,.slice H p.x.op.length I] f λe w'=>e=.returned (Ao (srvE l0 R p))/\Ac lo w' r bx bmx bs (srvR l0 R p)/\Env lo w'/\sameBut w w' (El lo w bmx)/\∀l,ZB r l r (Oc #[Pd bx 0,vc,.slice C R.fl.length o,I6 (R.lost:Int)] 78) (Oc #[I6 p.kind,I6 (p.c:Int),I6 p.rev,I6 p.id,I6 p.x.c,I6 p.x.i,.slice H p.x.op.length I] 111) (Oc #[Pd bx 0,vc,.slice C R.fl.length o,I6 (R.lost:Int)] 78) f->ZB r l r (Oc #[Pd bx 0,vc,.slice C R.fl.length o,I6 (R.lost:Int)] 78) (Oc #[I6 p.kind,I6 (p.c:Int),I6 p.rev,I6 p.id,I6 p.x.c,I6 p.x.i,.slice H p.x.op.length I] 111) (Oc #[Pd bx 0,vc,.slice C R.fl.length o,I6 (R.lost:Int)] 78) w'):=λf L=>by
  have hr:=Gg h L;have F:=F.below L;refine(jp hr.srv hi.srv (p.c:Int) p.id p.rev hcr (.slice H p.x.op.length I) p.x.op F.lay F.g1 F.tabs (Bt hx L).1 hwf (by omega) (by omega) hi.few hkn).mono ?_;rintro e w' ⟨rfl,a,c⟩;obtain⟨i1,i2⟩:=fY (R':=srvR l0 R p) hr a c rfl rfl rfl
  have no:∀x cs T fz,f.heap[x]?=some (.cells cs T fz)->T≠125->T≠109->¬IK lo f bmx x:=λx cs T fz hx t1 t2 e=>by
   rcases e.2 with rfl|⟨cs',T',hc',hT⟩
   . exact F9 hr.srv.2.2.2 _ _ _ hx
   . have:=Cx hx hc'
     subst this
     rcases hT with e|e
     . exact t1 e
     . exact t2 e
  exact⟨rfl,i1,F.room i2,Md L i2,λl E=>E.same c (no _ _ _ _ E.b1 (by decide) (by decide)) (no _ _ _ _ E.b2 (by decide) (by decide)) (no _ _ _ _ E.b3 (by decide) (by decide))⟩
 have CTL:Hid (∀f,Ac lo f r bx bmx bs (srvR l0 R p)->Cg 90 #[Pd r 0,I6 (p.c:Int),I6 p.rev] f λe w'=>e=.returned (.tuple #[])/\Ac lo w' r bx bmx bs (tellR (srvR l0 R p) p.c p.rev)/\keptF f w' r):=λf hr=>by
  rw[hm];exact XW hr P.srv P.few p.c m hml (by show R.lost<=_;omega) k3
 have hls:(tellR (srvR l0 R p) p.c p.rev).lost<=R.lost+300/\(tellR (srvR l0 R p) p.c p.rev).fl.length<=400:=by
  have hf:=P.few;unfold tellR
  split
  . exact⟨Nat.le_add_right _ _,k3⟩
  . obtain⟨a,b⟩:=YG p.c ((srvR l0 R p).E.drop p.rev.toNat) p.rev (srvR l0 R p) k3
    rw[AM]at a;exact⟨AF a (by show R.lost+_<=R.lost+300;omega),b⟩
 have CS:Hid (∀f,Ac lo f r bx bmx bs (tellR (srvR l0 R p) p.c p.rev)->Cg 51 #[Pd r 0,pkV (Jy p) (.slice none 0 0)] f λe w'=>e=.returned (.tuple #[])/\Ac lo w' r bx bmx bs (Cm (tellR (srvR l0 R p) p.c p.rev) (Jy p))/\keptF f w' r):=λf hr =>
  Qv hr (Jy p) (.slice none 0 0) (Ev (Ik 0 f)) (by omega) hls.2
 have CTE:Hid (∀f,Env lo f->Cg 66 #[Ao (srvE l0 R p)] f (Rt f (I6 (srvE l0 R p)))):=λf F=>ao _ f F.lay;have HB:=Aa g3
 have HZ:Hid (ZB r w.heap.size r (Oc #[Pd bx 0,vc,.slice C R.fl.length o,I6 (R.lost:Int)] 78) (Oc #[I6 p.kind,I6 (p.c:Int),I6 p.rev,I6 p.id,I6 p.x.c,I6 p.x.i,.slice H p.x.op.length I] 111) (Oc #[Pd bx 0,vc,.slice C R.fl.length o,I6 (R.lost:Int)] 78) (w.alloc (Oc #[I6 p.kind,I6 (p.c:Int),I6 p.rev,I6 p.id,I6 p.x.c,I6 p.x.i,.slice H p.x.op.length I] 111))) :=
  ⟨(g3.block r (Ig h)).trans O,g4,(g3.block r (Ig h)).trans O⟩
 have U:E9 l0 R p=if srvE l0 R p≠0/\srvE l0 R p≠8 then Cm (tellR (srvR l0 R p) p.c p.rev) (Jy p) else tellR (srvR l0 R p) p.c p.rev:=rfl
 rw[U];unfold pkV at CS ⊢;unfold Jy Gp at *;rw[W]at *;obtain⟨l,hβ⟩:∃l,w.heap.size=l:=⟨_,rfl⟩;have HBT:=Aa hβ;rw[hβ]at HZ;have HRL:=Aa (Ig h);generalize tellR (srvR l0 R p) p.c p.rev=R2 at *;generalize Cm R2 _=R3 at *;generalize srvR l0 R p=R1 at *;generalize srvE l0 R p=EE at *;generalize p.c=a1 at *;generalize p.rev=a2 at *;generalize p.id=a3 at *;generalize p.x.c=a4 at *;generalize p.x.i=a5 at *;generalize p.x.op.length=a6 at *;generalize R.fl.length=a7 at *;generalize (R.lost:Int)=a8 at *;clear h hi hp hx g1 g2 g3 g4 O h3 h4 hvc hd hgd hpu hdl hwf hxl P hEx hm hml hcr S hls F hβ U k1 k2 k3 hkn X xc xi W hbl;obtain⟨RX,hRX⟩:∃RX,(if EE≠0/\EE≠8 then R3 else R2)=RX:=⟨_,rfl⟩;rw[hRX];have HRX:=Aa hRX;clear hRX;have hEV:∃u,Ao EE=u:=⟨_,rfl⟩;obtain⟨u,hu⟩:=hEV;rw[hu]at CT CTE;clear hu
 go_enter func57,ntmps57
 go_wp2;refine Kh (λf:World=>ZB r l r (Oc #[Pd bx 0,vc,.slice C a7 o,I6 a8] 78) (Oc #[I6 1,I6 (a1:Int),I6 a2,I6 a3,I6 a4,I6 a5,.slice H a6 I] 111) (Oc #[Pd bx 0,vc,.slice C a7 o,I6 a8] 78) f) 16 16 (by kernel_rfl) rfl ?_;intro w30 t;have J:=HZ.out.grow t;have hbA:=HB.out.trans (t.mono HB.out.size);obtain⟨G,hG⟩:=JC (Z:=λf:World=>ZB r l r (Oc #[Pd bx 0,vc,.slice C a7 o,I6 a8] 78) (Oc #[I6 1,I6 (a1:Int),I6 a2,I6 a3,I6 a4,I6 a5,.slice H a6 I] 111) (Oc #[Pd bx 0,vc,.slice C a7 o,I6 a8] 78) f) J (λ{w w'} h hb=>ZB.grow h hb);have y0:=λy=>cQ (hG.but y).b1 0 rfl;have c1:=λy=>cQ (hG.but y).b2 1 rfl;have c2:=λy=>cQ (hG.but y).b2 2 rfl;have c3:=λy=>cQ (hG.but y).b2 3 rfl;have c6:=λy=>cQ (hG.but y).b2 6 rfl;rw[HBT.out];(iterate 13 (refine ay hG J λ_ k=>?_;go_simp;apply k;clear k));clear y0 c1 c2 c3 c6 hG;refine aO 13 ⟨_,rfl,?_⟩;intro w31 q K hK;have hz2:=J.grow q;have hbB:=hbA.trans (q.mono hbA.size)
 go_simp
 refine(CT.out w31 hbB).mono ?_;rintro e w2 ⟨rfl,O,he2,hs2,hzz⟩;refine⟨_,rfl,hK _ _ (λE=>hzz l E) ?_⟩;have HZ2:=Aa (hzz l hz2);have H2:=Aa O;have HE2:=Aa he2;have HS2:=Aa hs2;clear hK K J hz2 hbA hbB t q O hs2 hzz he2;refine aO 14 ⟨_,rfl,?_⟩;intro w32 i K hK
 go_simp
 refine(CTE.out w32 (HE2.out.below i)).mono ?_;rintro e w3 ⟨rfl,hb3⟩;refine⟨_,rfl,hK _ _ (λE=>ZB.grow E hb3) ?_⟩;have s:=i.trans (hb3.mono i.size);clear hK K;refine aO 15 ⟨_,rfl,?_⟩;intro w33 B K hK
 go_simp
 refine hK _ _ (λE=>E) ?_;clear hK K;refine ae ?_;intro w4 hb4;have Y:=B.trans (hb4.mono B.size);have j:=s.trans (Y.mono s.size);have N:=HZ2.out.grow j;have HZ4:=Aa N;have d1:=cQ N.b2 1 rfl;have d2:=cQ N.b2 2 rfl;have H4:Hid _:=Gg H2.out j;have HS4:Hid _:=OU HS2.out j;clear i hb3 s B hb4 Y j N
 have KB:Hid (∀w5,keptF w4 w5 r->w5.heap[l]?=some (Oc #[I6 1,I6 (a1:Int),I6 a2,I6 a3,I6 a4,I6 a5,.slice H a6 I] 111)):=λw5 hf=>by
  refine(hf.1.2 l (As HZ4.out.b2) λe=>?_).trans HZ4.out.b2
  rcases e with e|⟨v,e,W⟩
  . have h1:=HRL.out;have O:=HBT.out;omega
  . have x2:=cQ HZ4.out.b1 2 rfl
    rw[x2]at e;obtain rfl:=Bq e;have h1:=HOWN.out l W;have O:=HBT.out;omega
 by_cases hz0:EE=0
 . subst hz0
   have z:Hid (R2=RX):=(if_neg (λe=>e.1 rfl)).symm.trans HRX.out
   go_wp2_with (go_at_call 90;refine(CTL.out _ H4.out).mono ?_;rintro e w5 ⟨rfl,Q,g⟩;have H5:=Aa Q;have A:Hid _:=MS HS4.out (Ku (g.touch H4.out));clear Q g)
   go_end0;rw[←z.out];exact⟨rfl,H5.out,A.out⟩
 . by_cases hz8:EE=8
   . subst hz8
     have z:Hid (R2=RX):=(if_neg (λe=>e.2 rfl)).symm.trans HRX.out
     go_wp2_with (go_at_call 90;refine(CTL.out _ H4.out).mono ?_;rintro e w5 ⟨rfl,Q,g⟩;have H5:=Aa Q;have A:Hid _:=MS HS4.out (Ku (g.touch H4.out));clear Q g)
     go_end0;rw[←z.out];exact⟨rfl,H5.out,A.out⟩
   . have z:Hid (R3=RX):=(if_pos ⟨hz0,hz8⟩).symm.trans HRX.out
     have e0:(EE != 0)=true:=by simpa using hz0
     have e8:(EE != 8)=true:=by simpa using hz8
     go_wp2_with (first
      | (go_at_call 90;refine(CTL.out _ H4.out).mono ?_;rintro e w5 ⟨rfl,Q,g⟩;have H5:=Aa Q;have hbx:=KB.out w5 g;have q1:=cQ hbx 1 rfl;have q3:=cQ hbx 3 rfl;have A:Hid _:=MS HS4.out (Ku (g.touch H4.out));clear Q g hbx)
      | (go_at_call 51;refine(CS.out _ H5.out).mono ?_;rintro e w6 ⟨rfl,h6,hs6⟩;have H6:=Aa h6;have HS6:Hid _:=MS A.out (Ku (hs6.touch H5.out));clear h6 hs6))
     go_end0;rw[←z.out];exact⟨rfl,H6.out,HS6.out⟩
theorem jS(g:Env lo w)(h:Ac lo w r bx bmx bs R)(d:Inv l0 n D R)(i:n<=100000)(p:Pk)(c:okPk R.E D R.cl.length p)(v:Value)(f:Ar lo w v p.x.op)(a:bs.length<=1000)(b:Ap R<=100000000) :
    Cg 57 #[Pd r 0,pkV p v] w λe w'=>e=.returned (.tuple #[])/\Ac lo w' r bx bmx bs (Fz l0 R p)/\sameBut w w' (El lo w bmx):=by
 unfold Fz
 rcases c.kind with k|k|k|k
 . rw[if_pos k]
   exact jT g h d p c k v f a b
 . rw[if_neg (by rw[k];decide),if_pos k]
   exact kF h d p c k v f (by omega)
 . rw[if_neg (by rw[k];decide),if_neg (by rw[k];decide),if_pos k]
   exact kG g h d i p c k v f a
 . rw[if_neg (by rw[k];decide),if_neg (by rw[k];decide),if_neg (by rw[k];decide),if_pos k]
   exact ls g h d i p c k v f a
end
section
attribute [local go_sem] Oper.semAt_some Dz Dl
variable {lo r bx bmx : Nat}{w : World}{bs : List Nat}{R : Rm}
theorem We(R:Rm)(i:Nat):Ap (outR R i)<=Ap R:=by
 unfold Ap outR
 have h:∀(a:List Pk) (i:Nat),Cr (a.eraseIdx i)<=Cr a:=λa=>by
  induction a with
  | nil=>intro i;simp
  | cons p a ih =>
   intro i
   cases i with
   | zero=>simp[Cr]
   | succ i=>have:=ih i;simp[Cr]at this ⊢;omega
 have:=h R.fl i;simp only;omega
theorem Pl{w':World}{v:Value}{q:List Pt}(h:Ar lo w v q)(c:Ac lo w r bx bmx bs R)(b:keptF w w' r):Ar lo w' v q :=
 Eu h b.1 λk _ b=>by
  obtain⟨a,_,f,T,e,d⟩:=Tr c b;exact⟨a,C6 e (by rcases d with rfl|rfl<;>decide)⟩
theorem ac{l0 n:Int}{D:List (List UInt8)}(C:Env lo w)(h:Ac lo w r bx bmx bs R)(F:Inv l0 n D R)(hn:n<=100000){i:Nat}{p:Pk}(B:R.fl[i]?=some p)(A:bs.length<=1000)(j:Ap R<=100000000) :
    Cg 17 #[Pd r 0,I6 (i:Int)] w λe w'=>e=.returned .nilIface/\Ac lo w' r bx bmx bs (Er l0 R i)/\sameBut w w' (El lo w bmx):=by
 have y:i<R.fl.length:=(De B);have l:=F.room;have Q:Hid _:=UZ h i B l;have HD:Hid (Er l0 R i=Fz l0 (outR R i) p):=by show Er l0 R i=_;unfold Er;rw[B]
 have W:Hid (∀d,Bw w d->Cg 56 #[Pd r 0,I6 (i:Int)] d λe w'=>e=.returned (.tuple #[])/\Ac lo w' r bx bmx bs (outR R i)/\Env lo w'/\sameBut w w' (El lo w bmx)/\(∀v,Ar lo d v p.x.op->Ar lo w' v p.x.op)/\∀f,w.heap.size<=f->f<d.heap.size->w'.heap[f]?=d.heap[f]?):=λd G=>by
  have q:=Gg h G;refine(Zr q y l).mono ?_;rintro e w' ⟨rfl,a,c⟩;have X:=Md (bmx:=bmx) G (Ku (c.touch q));refine⟨rfl,a,C.room X,X,λv hv=>Pl hv q c,λf h1 E=>c.1.2 f E λe=>?_⟩;have:=(Tr h (Zm (Ig h) G e)).2.1;omega
 have I:Hid (∀d v,Ac lo d r bx bmx bs (outR R i)->Env lo d->Ar lo d v p.x.op->Cg 57 #[Pd r 0,pkV p v] d λe w'=>e=.returned (.tuple #[])/\Ac lo w' r bx bmx bs (Er l0 R i)/\sameBut d w' (El lo d bmx)):=λd v q C hx=>by
  rw[HD.out];exact jS C q (F.out i) hn p (F.pks p (BI B)) v hx A (AF (We R i) j)
 unfold pkV at Q I;generalize Er l0 R i=RD at *;generalize outR R i=RO at *;obtain⟨a,c,rv,id,x⟩:=p;simp only at Q W I;generalize x.op.length=xl at *;clear C h F B y l A j
 go_enter func17,ntmps17
 go_wp2_with (first
  | (go_at_call 55;refine AC Q.out ?_;rintro e H ⟨v,rfl,U,g⟩;obtain⟨pv,cv,rfl⟩:=C7 U;have O:=Aa g;have N:Hid (∀o,Bw w (H.alloc o)):=λo=>g.alloc g.size o;have HO:=Aa U;obtain⟨f,J⟩:∃f,H.heap.size=f:=⟨_,rfl⟩;have k:=Aa J;clear U g)
  | (go_at_call 56;refine(W.out _ (N.out _)).mono ?_;rintro e w2 ⟨rfl,E,z,m,t,u⟩;have Z:=Aa E;have K:=Aa z;have P:=Aa m;have b:=(u f (by rw[←k.out];exact O.out.size) (by rw[Bb,k.out];omega)).trans (k.out ▸ heap_alloc_new H _);have L:Hid _:=t _ (Bt HO.out (zA _ _));have y0:=Az b 0;have y1:=Az b 1;have y2:=Az b 2;have y3:=Az b 3;have y4:=Az b 4;have y5:=Az b 5;have y6:=Az b 6;simp only[List.getElem?_toArray,List.getElem?_cons_zero,List.getElem?_cons_succ]at y0 y1 y2 y3 y4 y5 y6;clear E z m t u b)
  | (go_at_call 57;refine(I.out w2 _ Z.out K.out L.out).mono ?_;rintro e w3 ⟨rfl,Y,s⟩;have H3:=Aa Y;have S:Hid _:=MS P.out s;clear Y s))
 go_ret;exact⟨rfl,H3.out,S.out⟩
theorem lf(h:Ac lo w r bx bmx bs R)(k:Int)(c:k<0\/(R.fl.length:Int)<=k) :
    Cg 17 #[Pd r 0,I6 k] w (Rt w (.iface 30 (I6 2))):=by
 have d:Hid _:=Va h k c;clear h c
 go_enter func17,ntmps17
 go_wp2_with (go_at_call 55;refine AC d.out ?_;rintro e f ⟨rfl,a⟩;have g:=Aa a;have b:Hid (∀o,Bw w (f.alloc o)):=λo=>a.alloc a.size o;clear a)
 go_ret;exact⟨rfl,b.out _⟩
end
section
attribute [local go_sem] Oper.semAt_some Dz Dl
variable {lo r bx bmx : Nat}{w : World}{bs : List Nat}{R : Rm}
def Q2 (w:World) (g i:Nat):Nat:=match w.cell? (Ad g (i*7)) with
 | some (.int _ k)=>if k=1\/k=2 then 400 else 1
 | _=>1
def Tn (w:World) (r:Nat):Nat:=match w.cell? (Ad r 2) with
 | some (.slice (some a) n _)=>((List.range n).map (Q2 w a.block)).sum
 | _=>0
theorem YP(h:Ac lo w r bx bmx bs R):Tn w r=Cr R.fl:=by
 obtain⟨o,p,l,q,c,m,j⟩:=Kj h;have k:=cQ c 2 rfl;unfold Tn;rw[k]
 by_cases a:R.fl=[]
 . rw[a]
   cases l<;>simp[Cr]
 . obtain ⟨g,rfl,_,_,_,_,b⟩:=Rv j a
   show((List.range R.fl.length).map (Q2 w g)).sum=_
   have e:(List.range R.fl.length).map (Q2 w g)=R.fl.map wP:=by
    apply List.ext_getElem
    . simp
    . intro i s c
      rw[List.getElem_map,List.getElem_map,List.getElem_range];have d:i<R.fl.length:=by simpa using c
      obtain⟨v,f,_⟩:=b i _ (B7 d);unfold Q2 wP;rw[f]
   rw[e];rfl
theorem af{l0 n:Int}{D:List (List UInt8)}(G:Env lo w)(h:Ac lo w r bx bmx bs R)(J:Inv l0 n D R)(hn:n<=100000)(E:bs.length<=1000)(d:Ap R<=100000000) :
    Cg 58 #[Pd r 0] w λe w'=>e=.returned (.tuple #[])/\Ac lo w' r bx bmx bs (Em l0 R)/\sameBut w w' (El lo w bmx):=by
 have S:=Aa G;have t:=Aa d;have y:Hid (∃R' x,Ac lo w r bx bmx bs R'/\Inv l0 n x R'/\Em l0 R'=Em l0 R/\Ap R'<=Ap R/\sameBut w w (El lo w bmx)):=⟨R,D,h,J,rfl,Ai _,OT _ _⟩;clear G h J d
 go_enter func58,ntmps58
 go_wp2
 go_loopw [] (λwr=>∃R' x,Ac lo wr r bx bmx bs R'/\Inv l0 n x R'/\Em l0 R'=Em l0 R/\Ap R'<=Ap R/\sameBut w wr (El lo w bmx)) (λwr=>Tn wr r)
 case atStart=>exact y.out
 case round =>
  obtain⟨R',x,k,g,A,v,u⟩:=hrel;have K:Hid _:=Si k;have Y:=Aa k;have I:=Aa u;have j:Hid (Em l0 R'=Em l0 R/\Ap R'<=Ap R):=⟨A,v⟩;have HW:=Aa (YP k)
  by_cases a:R'.fl=[]
  . have U:¬(0:Int)<(R'.fl.length:Int):=by rw[a];decide
    have Z:=Aa a;clear k g A v u a y
    go_wp2_with (go_at_call 23;refine AC K.out ?_;rintro e P ⟨rfl,b⟩;have c:=Aa b;clear b)
    go_end0;rw[←j.out.1,aj Z.out];exact⟨rfl,Gg Y.out c.out,OU I.out c.out⟩
  . have f:0<R'.fl.length:=List.length_pos_iff.2 a
    have U:(0:Int)<(R'.fl.length:Int):=by omega
    obtain⟨p,N⟩:∃p,R'.fl[0]?=some p:=⟨_,B7 f⟩;have q:Hid _:=g.stepM a;have C:Hid _:=g.deliv 0
    have X:Hid (∀s,Inv l0 n s (Er l0 R' 0)->Ap (Er l0 R' 0)<=Ap R'):=λs B=>by
     cases hfl:R'.fl with
     | nil=>exact absurd hfl a
     | cons p fl =>
      have e:=YZ (l0:=l0) hfl;have H:=B.few;rw[e]at H ⊢;obtain⟨W,q2⟩:=RW l0 { R' with fl:=fl } p H;have e1:Ap ({ R' with fl:=fl }:Rm)+wP p=Ap R':=by
       unfold Ap;show R'.n+R'.lost+Cr fl+wP p=R'.n+R'.lost+Cr R'.fl;rw[hfl];simp[Cr];omega
      split at W<;>omega
    have Q:Hid (∀m,Bw wr m->Cg 17 #[Pd r 0,I6 0] m λe w'=>e=.returned .nilIface/\Ac lo w' r bx bmx bs (Er l0 R' 0)/\sameBut m w' (El lo m bmx)):=λm F=>by
     have O:=u;have:=ac (i:=0) ((S.out.room O).below F) (Gg k F) g hn N E (AF v t.out);exact this
    clear k g A v u a y f N
    go_wp2_with (first
     | (go_at_call 23;refine AC K.out ?_;rintro e P ⟨rfl,b⟩;have c:=Aa b;clear b)
     | (go_at_call 17;refine(Q.out _ c.out).mono ?_;rintro e w2 ⟨rfl,g,l⟩;have o:=Aa g;have z:Hid _:=MS (OU I.out c.out) l;clear g l))
    go_roundw
    case rel =>
     obtain⟨s,L,_,_,_⟩:=C.out;exact⟨_,s,o.out,L,q.out.1.trans j.out.1,AF (X.out s L) j.out.2,z.out⟩
    case measure =>
     rw[YP o.out,HW.out];exact q.out.2
end
section
attribute [local go_sem] Oper.semAt_some Dz Dl Pg Pf Pe Pc
variable {lo r bx bmx : Nat}{w : World}{bs : List Nat}{R : Rm}{l0 n : Int}{D : List (List UInt8)}
theorem Zs(h:Ac lo w r bx bmx bs R)(A:Inv l0 n D R){k:Nat}(F:k<R.cl.length)(x:bs.length<=1000)(p:Ap R<=100000000) :
    Cg 14 #[Pd r 0,I6 (k:Int)] w λe w'=>e=.returned .nilIface/\Ac lo w' r bx bmx bs (sendC R k)/\sameBut w w' (El lo w bmx):=by
 obtain⟨b,G,o⟩:=NG h F;obtain⟨_,m⟩:=A.clk F;obtain⟨Q,P,E⟩:=A.counts (by omega);have O:Hid _:=UY h G x
 by_cases s:(Bo R k).2.mine=[]
 . have ha:Et R k=⟨2,k,(Bo R k).2.rev,0,Gp⟩:=by unfold Et;rw[if_pos s]
   have K:Hid (∀d,Bw w d->_):=λd q=>iR (IP o q) s;have y:Hid (∀d,Bw w d->Cg 51 #[Pd r 0,pkV ⟨2,k,(Bo R k).2.rev,0,Gp⟩ (.slice none 0 0)] d λe w'=>e=.returned (.tuple #[])/\Ac lo w' r bx bmx bs (sendC R k)/\sameBut w w' (El lo w bmx)):=λd i=>by
    have z:=Gg h i;refine(Qv z ⟨2,k,(Bo R k).2.rev,0,Gp⟩ (.slice none 0 0) (Ev (Ik 0 d)) (by omega) E).mono ?_;rintro e w' ⟨rfl,a,c⟩;refine⟨rfl,?_,Md i (Ku (c.touch z))⟩;unfold sendC;rw[ha];exact a
   unfold pkV Gp at y;generalize (Bo R k).2.rev=rv at *;clear h A F G o m x p Q P E ha s
   go_enter func14,ntmps14
   go_wp2_with (first
    | (go_at_call 9;refine AC O.out ?_;rintro e U ⟨rfl,g⟩;have f:=Aa g;clear g)
    | (go_at_call 50;refine(K.out _ f.out).mono ?_;rintro e Y ⟨rfl,l⟩;have u:=Aa (f.out.trans (l.mono f.out.size));clear l)
    | (go_at_call 51;refine(y.out _ u.out).mono ?_;rintro e S ⟨rfl,C,j⟩;have L:=Aa C;have t:=Aa j;clear C j))
   go_ret;exact⟨rfl,L.out,t.out⟩
 . have ha:Et R k=⟨1,k,(Bo R k).2.rev,(Bo R k).2.id,⟨k,(Bo R k).2.id,Eb (Bo R k).2⟩⟩:=by unfold Et;rw[if_neg s]
   obtain⟨B,I⟩:=NM m.ok s;have J:=m.small A.lk;obtain⟨_,H⟩:=Qu B (by omega) (by omega);have K:Hid (∀d,Bw w d->_):=λd q=>iS (IP o q) s (by omega);have y:Hid (∀d v,Bw w d->Ar lo d v (Eb (Bo R k).2)->Cg 51 #[Pd r 0,pkV ⟨1,k,(Bo R k).2.rev,(Bo R k).2.id,⟨k,(Bo R k).2.id,Eb (Bo R k).2⟩⟩ v] d λe w'=>e=.returned (.tuple #[])/\Ac lo w' r bx bmx bs (sendC R k)/\sameBut w w' (El lo w bmx)):=λd v i W=>by
    have z:=Gg h i;refine(Qv z ⟨1,k,(Bo R k).2.rev,(Bo R k).2.id,⟨k,(Bo R k).2.id,Eb (Bo R k).2⟩⟩ v W (by omega) E).mono ?_;rintro e w' ⟨rfl,a,c⟩;refine⟨rfl,?_,Md i (Ku (c.touch z))⟩;unfold sendC;rw[ha];exact a
   unfold pkV at y;simp only at y;generalize (Bo R k).2.rev=rv at *;generalize (Bo R k).2.id=ii at *;generalize Eb (Bo R k).2=hd at *;clear h A F G o m x p Q P E ha s B I J H
   go_enter func14,ntmps14
   go_wp2_with (first
    | (go_at_call 9;refine AC O.out ?_;rintro e U ⟨rfl,g⟩;have f:=Aa g;clear g)
    | (go_at_call 50;refine(K.out _ f.out).mono ?_;rintro e Y ⟨Z,rfl,N,l⟩;have X:Hid _:=N lo;obtain⟨pv,cv,rfl⟩:=C7 (N lo);have u:=Aa (f.out.trans (l.mono f.out.size));clear l N)
    | (go_at_call 51;refine(y.out _ _ u.out X.out).mono ?_;rintro e S ⟨rfl,C,j⟩;have L:=Aa C;have t:=Aa j;clear C j))
   go_ret;exact⟨rfl,L.out,t.out⟩
theorem jV(h:Ac lo w r bx bmx bs R)(k:Int)(c:k<0\/(bs.length:Int)<=k) :
    Cg 14 #[Pd r 0,I6 k] w (Rt w (.iface 30 (I6 2))):=by
 have d:Hid _:=ab h k c;clear h c
 go_enter func14,ntmps14
 go_wp2_with (go_at_call 9;refine AC d.out ?_;rintro e f ⟨rfl,a⟩;have b:=Aa a;clear a)
 go_ret;exact⟨rfl,b.out⟩
theorem jU(q:Env lo w)(h:Ac lo w r bx bmx bs R)(H:Inv l0 n D R)(hn:n<=100000)(p:bs.length<=1000)(m:Ap R<=90000000) :
    Cg 21 #[Pd r 0] w λe w'=>e=.returned (.tuple #[])/\Ac lo w' r bx bmx bs (Hs l0 R)/\sameBut w w' (El lo w bmx):=by
 have HE:=Aa q;have a:=h.cls.len;have K:Hid _:=af q h H hn p (by omega);obtain⟨D1,i1,_,Z,i4,i5⟩:=H.settle;have Q:Hid (Inv l0 n D1 (Em l0 R)/\(Em l0 R).cl.length=bs.length/\Ap (Em l0 R)<=90000000):=⟨i1,Z.trans a.symm,by omega⟩;have HQ:Hid (Hs l0 R=Gl l0 bs.length 0 (Em l0 R)):=by show Hs l0 R=_;unfold Hs;rw[a]
 have F:(bs.length:Int)<=1000:=by omega
 clear q h H m i1 Z i4 i5 a;rw[HQ.out];generalize Em l0 R=R1 at *;obtain⟨N,B⟩:∃N,bs.length=N:=⟨_,rfl⟩;have HN:=Aa B;rw[B]at F p
 go_enter func21,ntmps21
 go_wp2_with (first
  | (go_at_call 58;refine AC K.out ?_;rintro e w1 ⟨rfl,c,s⟩;have H1:=Aa c;have X:=Aa s;clear c s)
  | (go_at_call 38;refine(NF H1.out).mono ?_;rintro e w2 ⟨pc,cc,pf,cf,rfl,_,_,t⟩;have v:=Aa t;clear t))
 try rw[B]
 go_loopw [9] (λi wr=>∃k:Nat,i=.int .i64 k/\k<=N/\∃R' D',Ac lo wr r bx bmx bs R'/\Inv l0 n D' R'/\R'.cl.length=N/\Gl l0 (N - k) k R'=Gl l0 N 0 R1/\Ap R'<=90000000+400*k/\sameBut w wr (El lo w bmx)) (λi _=>N - (intOf i).toNat)
 case atStart=>exact⟨0,rfl,AV _,R1,D1,Gg H1.out v.out,Q.out.1,Q.out.2.1.trans HN.out,rfl,Q.out.2.2,OU X.out v.out⟩
 case round =>
  obtain⟨k,rfl,hk,R',D',c,y,l,d,E,z⟩:=hrel;have C:=Aa c;have W:Hid (R'.cl.length=N/\Gl l0 (N - k) k R'=Gl l0 N 0 R1/\Ap R'<=90000000+400*k):=⟨l,d,E⟩;have u:=Aa z;have hki:(k:Int)<=1000:=by omega
  by_cases hlt:k<N
  . have x:(k:Int)<(N:Int):=by omega
    have g:k<R'.cl.length:=by omega
    have U:Hid _:=Zs c y g (by omega) (by omega);have b:=y.sendK g;have j:=QN R' (Et R' k);have j:Ap (sendC R' k)<=Ap R'+400:=j;have I:(sendC R' k).cl.length=R'.cl.length:=by unfold sendC;rw[(JP _ _).2.2.2.2]
    obtain⟨D2,Y,j2,j3,j4,j5⟩:=b.settle;have J:Hid (Inv l0 n D2 (Em l0 (sendC R' k))/\(Em l0 (sendC R' k)).cl.length=N/\Ap (Em l0 (sendC R' k))<=90000000+400*(k+1)):=⟨Y,by omega,by omega⟩;have O:Hid (Gl l0 (N - (k+1)) (k+1) (Em l0 (sendC R' k))=Gl l0 N 0 R1):=by
     show _=_;rw[←d,show N - k=(N - (k+1))+1 by omega];rfl
    have P:=Aa λwx (hr:Ac lo wx r bx bmx bs (sendC R' k)) (q:Env lo wx)=>af q hr b hn (by omega) (by omega);have G:=Aa (HE.out.room z);clear c y l d E z g b j I Y j2 j3 j4 j5
    go_wp2_with (first
     | (go_at_call 14;refine AC U.out ?_;rintro e w3 ⟨rfl,l,f⟩;have H3:=Aa l;have S:Hid _:=MS u.out f;have A:=Aa (G.out.room f);clear l f)
     | (go_at_call 58;refine(P.out _ H3.out A.out).mono ?_;rintro e w4 ⟨rfl,d,o⟩;have H4:=Aa d;have L:Hid _:=MS S.out o;clear d o))
    go_roundw
    case rel=>exact⟨k+1,by go_num,by omega,_,D2,H4.out,J.out.1,J.out.2.1,O.out,J.out.2.2,L.out⟩
    case measure=>simp[intOf];omega
  . obtain rfl:k=N:=by omega
    have x:¬((k:Int)<(k:Int)):=by omega
    clear c y l d E z;go_wp2;go_end0;have e:=W.out.2.1;rw[BP]at e;rw[←e];exact⟨rfl,C.out,u.out⟩
end
section
attribute [local go_sem] Oper.semAt_some Dz Dl
variable {w w' : World}{us : List Int}{s : List UInt8}{lo r bx bmx k : Nat}{bs : List Nat}{vc : Value}
def Ja (w:World) (v:Value) (us:List Int):Prop:=∃p c,v=.slice p us.length c/\us.length<=c/\c<=maxLen/\(us≠[]->∃b o,p=some (Ad b o)/\b<w.heap.size/\∀(i:Nat) (u:Int),us[i]?=some u->w.cell? (Ad b (o+i))=some (I6 u))
theorem U9{v:Value}(h:Ja w v us)(d:Bw w w'):Ja w' v us:=by
 obtain⟨p,c,q,t,f,j⟩:=h;refine⟨p,c,q,t,f,λa=>?_⟩;obtain⟨b,o,m,e,g⟩:=j a;exact⟨b,o,m,AK e d.size,λi u l=>(zC d b (o+i) e).trans (g i u l)⟩
def Iz (s:List UInt8) (us:List Int):Rm:=⟨s,[],λ_=>none,0,us.map λu=>(u,Jb s),[],0⟩
theorem fK(f:V s)(m:s.length<=2000){us:List Int}(o:∀u∈us,Ck u):Inv (s.length:Int) 0 [s] (Iz s us)/\Vk (Iz s us)/\Ap (Iz s us)=0:=by
 have b:∀(k:Nat) (q:Int×Cl),(Iz s us).cl[k]?=some q->q.2=Jb s/\Ck q.1:=λk q a=>by
  have a:(us.map λu=>(u,Jb s))[k]?=some q:=a;rw[BD]at a
  cases h:us[k]? with
  | none=>rw[h]at a;cases a
  | some u =>
   rw[h]at a;obtain rfl:=Bq a;exact⟨rfl,o u (BI h)⟩
 refine⟨⟨⟨f,m,by omega,by omega,trivial,rfl⟩,⟨rfl,λk t=>?_,rfl⟩,⟨rfl,λi x d c=>?_,λd y=>?_⟩,AV _,λk q a=>?_,λp g=>?_,AV _⟩,⟨λk q a=>?_,λp g=>?_⟩,rfl⟩
 . obtain rfl:k=0:=Nat.le_zero.1 t
   exact⟨s,rfl,rfl⟩
 . simp[Iz]at c
 . rw[List.mem_singleton.1 y];exact⟨f,m⟩
 . obtain⟨e,l⟩:=b k q a
   obtain⟨u,S⟩:=q;obtain rfl:S=Jb s:=e;exact⟨l,fj f,BO _,rfl,⟨BO _,by simp[Jb]⟩,⟨BO _,by simp[Jb]⟩⟩
 . simp[Iz]at g
 . obtain⟨e,l⟩:=b k q a
   rw[e];refine⟨BO _,λ_=>rfl,λj x _ c=>?_,λv=>absurd rfl v,by show(0:Int)≠8;decide⟩;simp[Iz]at c
 . simp[Iz]at g
theorem fU{cl:List (Int×Cl)}(h:E8 lo w bs cl)(C:Bw w w'){b:Nat}{u:Int}{S:Cl}(a:Bf lo w' b (bs.length:Int) u S)(K:w.heap.size<=b)(e:∀x,Dv w' b x->x=b):E8 lo w' (bs++[b]) (cl++[(u,S)]):=by
 have F:=UQ h C;have m:∀(j c x:Nat),bs[j]?=some c->Dv w' c x->x<w.heap.size:=λj c x a i=>by
  have l:j<cl.length:=by rw[←h.len];exact(De a)
  have v:=h.each j c cl[j] a (B7 l);have:=QE (X:=λ_=>False) (Cf C _) (IA v) id i;exact(Kt v this).2.1
 have at_:∀(j c:Nat),(bs++[b])[j]?=some c->bs[j]?=some c\/j=bs.length/\c=b:=λj c a=>by
  rcases CQ j bs.length with l|l
  . rw[AX l]at a;exact .inl a
  . have:j<(bs++[b]).length:=(De a)
    have A:j=bs.length:=by simp at this;omega
    subst A;rw[AL (Ai _),BP]at a;exact .inr ⟨rfl,(Bq a).symm⟩
 refine⟨by simp[h.len],λk c q g z=>?_,λj k c y l g t x i d=>?_⟩
 . rcases at_ k c g with g | ⟨rfl,rfl⟩
   . have B:k<cl.length:=by rw[←h.len];exact(De g)
     rw[AX B]at z;exact F.each k c q g z
   . rw[h.len,AL (Ai _),BP]at z
     obtain rfl:(u,S)=q:=by simpa using z
     exact a
 . rcases at_ j c l with p | ⟨J,I⟩
   . rcases at_ k y g with f | ⟨E,o⟩
     . exact F.apart j k c y p f t x i d
     . have G:=m j c x p i
       rw[o]at d;have H:=e x d;omega
   . rcases at_ k y g with f | ⟨E,o⟩
     . have G:=m k y x f d
       rw[I]at i;have H:=e x i;omega
     . exact t (J.trans E.symm)
theorem de:(prog.info? 47).map (λi=>(i.zero,i.size,i.bytes))=some (some (.pointer none),1,8):=by kernel_rfl
theorem V6(w:World)(v:Value)(T:TypeId)(j:Nat)(u:Value)(b: [v][j]?=some u):(w.alloc (Oc #[v] T)).cell? (((Ad w.heap.size 0):Addr).add j)=some u:=by
 have a:j=0:=by have:=(De b);simp at this;exact this
 subst a;rw[DG];have:=Az (heap_alloc_new w (Oc #[v] T)) 0;obtain rfl:v=u:=by simpa using b
 exact this
structure NewI (lo:Nat) (s:List UInt8) (us:List Int) (r bx bmx:Nat) (vc:Value) (bs:List Nat) (k:Nat) (w:World):Prop where
 low:lo<=r
 len:bs.length=k
 blk:w.heap[r]?=some (Oc #[Pd bx 0,vc,.slice none 0 0,I6 0] 78)
 row:w.ownsRow lo 47 1 vc bs.length (Ef bs)
 cls:E8 lo w bs ((us.take k).map λu=>(u,Jb s))
 srv:Ex lo 0 w bx bmx s [] (λ_=>none)
theorem NewI.below(h:NewI lo s us r bx bmx vc bs k w)(a:Bw w w'):NewI lo s us r bx bmx vc bs k w' :=
 ⟨h.low,h.len,(a.block r (As h.blk)).trans h.blk,Fe h.row a,UQ h.cls a,MT h.srv a⟩
theorem NewI.push{B:World}(h:NewI lo s us r bx bmx vc bs k w)(C:Bw w B){b:Nat}{u:Int}(O:us[k]?=some u)(d:Bf lo B b (k:Int) u (Jb s))(Y:w.heap.size<=b)(v:∀x,Dv B b x->x=b)(q:World)(z:Bw B q) :
    q.ownsRow lo 47 1 vc bs.length (Ef bs)/\∀j t,j.ownsRow lo 47 1 t (bs.length+1) (Ef bs++[Pd b 0])->q.grownBy j vc.ownBlock ->
     j.cell? (Ad r 1)=some vc/\j.frozen? (Ad r 1)=false/\NewI lo s us r bx bmx t (bs++[b]) (k+1) (j.setCell (Ad r 1) t):=by
 have E:Bw w q:=C.trans (z.mono C.size);have o:=h.below E;have i:=UQ (fU h.cls C (b:=b) (u:=u) (S:=Jb s) (by rw[h.len];exact d) Y v) z;have l:=λk=>ID (k:=k) o.row;refine⟨o.row,λj t m P=>?_⟩;have K:some r≠vc.ownBlock:=λe=>by
  obtain⟨_,_,f,d⟩:=l r e.symm;have:=Cx o.blk d;revert this;decide
 have g:=(P.block r (As o.blk) K).trans o.blk;have A:=heap_setCell_same j r 1 _ _ t g;have Q:sameBut q (j.setCell (Ad r 1) t) (λk=>k=r\/vc.ownBlock=some k):=(IU (S:=λk=>k=r\/vc.ownBlock=some k) P λk e=>.inr e).comp (B6 (S:=λk=>k=r\/vc.ownBlock=some k) (.inl rfl)) λk _ h=>h
 have L:∀k,k<q.heap.size->(k=r\/vc.ownBlock=some k)->lo<=k/\∃f T,q.heap[k]?=some (Oc f T)/\(T=78\/T=47):=λk U e=>by
  rcases e with rfl|e
  . exact⟨h.low,_,_,o.blk,.inl rfl⟩
  . obtain⟨a,_,f,d⟩:=l k e
    exact⟨a,f,_,d,.inr rfl⟩
 have G:Ef (bs++[b])=Ef bs++[Pd b 0]:=by simp[Ef]
 have X:k<us.length:=(De O);have I:us.take (k+1)=us.take k++[u]:=by rw[List.take_add_one,O];rfl
 refine⟨Az g 1,Gf g,h.low,by simp[h.len],A,?_,?_,Sz o.srv Q λx y e=>?_⟩
 . rw[G,AA]
   refine GZ (S:=λk=>k=r) m (B6 rfl) λk U e=>?_;subst e;obtain⟨_,_,f,d⟩:=ID m U;have:=Cx g d;revert this;decide
 . rw [I,BM]
   refine QC i Q (λx y e=>?_) λc d x e y=>?_
   . obtain⟨a,f,T,d,p⟩:=L x y e
     exact⟨a,C6 d (by rcases p with rfl|rfl<;>decide)⟩
   . obtain⟨_,H,f,T,J,p⟩:=P9 i d y
     obtain⟨_,W,Z,F,N⟩:=L x H e;have:=Cx J F;subst this
     rcases p with rfl|rfl<;>rcases N with e|e<;>revert e<;>decide
 . obtain⟨a,f,T,d,p⟩:=L x y e
   exact⟨a,f,T,_,d,by rcases p with rfl|rfl<;>decide,by rcases p with rfl|rfl<;>decide,by rcases p with rfl|rfl<;>decide⟩
theorem XU(s:List UInt8)(hV:V s)(hs:s.length<=2000)(us:List Int)(hul:us.length<=6)(v:Value)(lo:Nat)(w:World)(he:Env lo w)(I:lo<=w.heap.size)(hus:Ja w v us) :
    Cg 4 #[Sx s,v] w λe w'=>Bw w w'/\((∀u∈us,Ck u)/\(∃r bx bmx bs,e=.returned (.tuple #[Pd r 0,.nilIface])/\Ac lo w' r bx bmx bs (Iz s us)/\w.heap.size<=r)\/(∃u∈us,¬Ck u)/\e=.returned (.tuple #[.pointer none,.iface 30 (I6 1)])):=by
 have hsc:=N4 hV;have CN:Hid _:=am lo s hs hsc w I he.tabs
 have CC:Hid (∀U (k:Int) (u:Int),Bw w U->Ck u->Cg 33 #[I6 k,I6 u,Sx s] U λe w'=>∃b,e=.returned (.tuple #[Pd b 0,.nilIface])/\Bf lo w' b k u (Jb s)/\U.heap.size<=b/\Bw U w'/\∀x,Dv w' b x->x=b):=λU k u hb Y=>by
  obtain⟨rs,hR,rfl⟩:=hV;obtain ⟨m,hm,hmu⟩:∃m:Nat,u=(m:Int)/\Q3 m:=by
   rcases Y with rfl|rfl|rfl
   . exact⟨1,rfl,.inl rfl⟩
   . exact⟨2,rfl,.inr (.inl rfl)⟩
   . exact⟨3,rfl,.inr (.inr rfl)⟩
  rw[hm];have hc1:(encs rs).length=C1 rs:=(Ie rs).symm;exact gR k lo m hmu rs hR (by omega) U (AF I hb.size) (Go.Proofs.Utf8Tabs_below he.tabs hb)
 obtain⟨p,c,rfl,q1,q2,q3⟩:=hus;have HUS:=Aa q3;have HLO:=Aa I;obtain⟨N,hN⟩:∃N,us.length=N:=⟨_,rfl⟩;have HN:=Aa hN;rw[hN]at q1 hul ⊢;unfold maxLen at q2;have hNi:(N:Int)<=6:=by omega
 have hNj:¬(6:Int)<(N:Int):=by omega
 obtain⟨i0,hi0,hq0,hq1,hq2⟩:=info_parts de;clear he I hV hs hsc q3 hN
 go_enter func4,ntmps4
 go_wp2_with (go_at_call 32;refine AC CN.out ?_;rintro e X ⟨bx,bmx,rfl,g,hm1,hb1⟩;have H1:=Aa g;have H:=Aa hb1;clear g hb1 hm1)
 have B:Bw X (X.alloc (.cells #[Pd bx 0,.slice none 0 0,.slice none 0 0,I6 0] 78)):=zA _ _
 have HI:Hid (NewI lo s us X.heap.size bx bmx (.slice none 0 0) [] 0 (X.alloc (.cells #[Pd bx 0,.slice none 0 0,.slice none 0 0,I6 0] 78))) :=
  ⟨AF HLO.out H.out.size,rfl,heap_alloc_new _ _,BL _ _ _ _,⟨rfl,λk b q hk=>by simp at hk,λj k b b' S=>by simp at S⟩,MT H1.out B⟩
 have HB2:Hid (Bw w (X.alloc (.cells #[Pd bx 0,.slice none 0 0,.slice none 0 0,I6 0] 78))):=H.out.trans (B.mono H.out.size);obtain⟨r,hr⟩:∃r,X.heap.size=r:=⟨_,rfl⟩;rw[hr]at HI ⊢;have HRW:Hid (w.heap.size<=r):=hr ▸ H.out.size;clear B hr
 go_loopw [30] (λi wr=>∃k:Nat,i=.int .i64 k/\k<=N/\(∀u∈us.take k,Ck u)/\∃vc bs,NewI lo s us r bx bmx vc bs k wr/\Bw w wr/\∀j,vc.ownBlock=some j->w.heap.size<=j) (λi _=>N - (intOf i).toNat)
 case atStart=>exact⟨0,rfl,AV _,λu Y=>(by cases Y),_,[],HI.out,HB2.out,λj S=>by cases S⟩
 case round =>
  obtain⟨k,rfl,hk,hok,vc,bs,g,W,h3⟩:=hrel;have HOK:=Aa hok;clear hok;have C:=Aa g;have t:=Aa W;have hki:(k:Int)<=6:=by omega
  clear HI HB2
  by_cases hlt:k<N
  . have hki2:(k:Int)<(N:Int):=by omega
    have l:k<us.length:=by rw[HN.out];exact hlt
    have G:us[k]?=some us[k]:=B7 l;have O:us≠[]:=λe=>by have:=HN.out;rw[e]at this;simp at this;omega
    obtain⟨b0,o,rfl,hb0,L⟩:=HUS.out O;have g0:=(zC W b0 (o+k) hb0).trans (L k _ G);have HTK:=Aa (AD l);have HME:=Aa (BE l);have HKU:=Aa G;generalize us[k]=u at *;obtain⟨pc,cc,evc⟩:=Bm g.row;subst evc
    by_cases f:Ck u
    case neg =>
     have CCB:Hid _:=gS (k:Int) u f ⟨s.toArray⟩ wr;have HNO:=Aa f;clear g W h3 L G O f
     go_wp2_with (go_at_call 33;refine AC CCB.out ?_;rintro e Q ⟨rfl,a⟩;have E:=Aa (t.out.trans (a.mono t.out.size));clear a)
     go_ret2
     exact⟨E.out,.inr ⟨⟨_,HME.out,HNO.out⟩,rfl⟩⟩
    have HOU:=Aa f;have CCK:Hid _:=CC.out wr (k:Int) u W f;have hrow:=g.row;have Z:=g.len;have hcm:bs.length<=6:=by omega
    have J:=Aa h3;clear g W h3 L G O f hrow Z
    go_wp2_with (first
     | (go_at_call 33;refine AC CCK.out ?_;rintro e Q ⟨b,rfl,hc3,hn3,a,ho3⟩;have z:=λw2 B=>NewI.push C.out a HKU.out hc3 hn3 ho3 w2 B;have HP:=Aa z;have E:Hid (Bw w Q):=t.out.trans (a.mono t.out.size);have x1:Q.cell? (Ad r 1)=some (.slice pc bs.length cc):=(zC a r 1 (As C.out.blk)).trans (Az C.out.blk 1);have hr3:r<Q.heap.size:=AK (As C.out.blk) a.size;clear z hc3 hn3 a ho3)
     | (at_builtin;obtain⟨y,A⟩:=HP.out _ ((A9 _ _).alloc (Ai _) (.cells #[Pd b 0] 47));have HF:=Aa A;have F:Hid (Bw w (Q.alloc (.cells #[Pd b 0] 47))):=E.out.alloc E.out.size _;refine Vj _ rfl _ _ 75 rfl lo 47 i0 (.pointer none) 1 8 underlying75 hi0 hq0 hq1 hq2 rfl (by decide) _ _ _ rfl y (Ad Q.heap.size 0) 1 1 [Pd b 0] rfl rfl (V6 _ _ _) (λu Y=>by rw[List.mem_singleton.1 Y];rfl) (by unfold maxLen;omega) (by omega) (by have g:=HLO.out;have W:=F.out.size;omega) (by omega) ?_;clear A y))
    intro v2 w6 d P hvn;obtain⟨y1,y2,y3⟩:=HF.out w6 v2 d P;have Y3:=Aa y3;have HB6:Hid (Bw w (w6.setCell (Ad r 1) v2)):=(F.out.grown P F.out.size λj S=>J.out j S).setCell (p:=(Ad r 1)) HRW.out v2;have HVN:Hid (∀j,v2.ownBlock=some j->w.heap.size<=j):=λj S=>(hvn j S).elim (J.out j) λh=>by have g:=F.out.size;rw[Bb]at g;have h:Q.heap.size+1<=j:=h;omega
    obtain⟨p6,c6,rfl⟩:=Bm d;clear d P y3 hvn;go_wp2
    go_roundw
    case rel=>exact⟨k+1,by go_num,by omega,λx K=>by rw[HTK.out]at K;rcases List.mem_append.1 K with K|K;exact HOK.out x K;rw[List.mem_singleton.1 K];exact HOU.out,_,_,Y3.out,HB6.out,HVN.out⟩
    case measure=>simp[intOf];omega
  . obtain rfl:k=N:=by omega
    have hki2:¬((k:Int)<(k:Int)):=by omega
    go_wp2
    go_ret2
    refine⟨t.out,.inl ⟨λx K=>HOK.out x (by rw[AQ (DZ HN.out)];exact K),r,rfl,⟨bx,bmx,bs,?_⟩,HRW.out⟩⟩;have h:=C.out;have hc:=h.cls;rw[AQ (DZ HN.out)]at hc;exact⟨h.low,⟨_,_,h.blk,h.row,XS _ _ _⟩,hc,h.srv⟩
theorem iu(s:List UInt8)(m:V s)(l:s.length<=2000)(us:List Int)(i:∀u∈us,Ck u)(a:us.length<=6)(v:Value)(lo:Nat)(w:World)(j:Env lo w)(c:lo<=w.heap.size)(b:Ja w v us) :
    Cg 4 #[Sx s,v] w λe w'=>∃r bx bmx bs,e=.returned (.tuple #[Pd r 0,.nilIface])/\Ac lo w' r bx bmx bs (Iz s us)/\Bw w w'/\w.heap.size<=r :=
 (XU s m l us a v lo w j c b).mono λe w' ⟨g,h⟩=>by
   rcases h with ⟨_,r,bx,bmx,bs,o,d,f⟩|⟨⟨u,d,f⟩,_⟩
   . exact⟨r,bx,bmx,bs,o,d,g,f⟩
   . exact absurd (i u d) f
theorem iv(s:List UInt8)(a:(scan s).2=true)(i:s.length<=2000)(us:List Int)(m:6<us.length)(v:Value)(lo:Nat)(w:World)(h:Env lo w)(b:lo<=w.heap.size)(g:Ja w v us) :
    Cg 4 #[Sx s,v] w (Rt w (.tuple #[.pointer none,.iface 30 (I6 4)])):=by
 have l:Hid _:=am lo s i a w b h.tabs;obtain⟨p,c,rfl,u,t,_⟩:=g;have j:(6:Int)<(us.length:Int):=by omega
 clear h b i a
 go_enter func4,ntmps4
 go_wp2_with (go_at_call 32;refine AC l.out ?_;rintro e q ⟨bx,bmx,rfl,o,f,d⟩;clear o f)
 go_ret2
 exact⟨rfl,d⟩
theorem ey(s:List UInt8)(a:(scan s).2=false)(m:s.length<=2000)(v:Value)(us:List Int)(w:World)(g:Lib.Utf8Tabs 1 2 w)(f:Ja w v us) :
    Cg 4 #[Sx s,v] w λe w'=>∃x d,e=.returned (.tuple #[.pointer none,x])/\Fi w d x (Gs s)/\Bw d w'/\Bw w w':=by
 have l:Hid _:=iH s (by omega) a w g;obtain⟨p,c,rfl,z,y,_⟩:=f;clear m a g
 go_enter func4,ntmps4
 go_wp2_with (go_at_call 32;refine AC l.out ?_;rintro e d ⟨x,u,rfl,q,i,b⟩;obtain⟨t,rfl,h⟩:=q;have o:=Aa h;have j:=Aa i;clear i h)
 go_ret2
 exact⟨_,u,rfl,⟨t,rfl,o.out⟩,j.out,b⟩
end
section
attribute [local go_sem] Oper.semAt_some Dz Dl
section
variable {w : World} {s : List UInt8} {us : List Int} {v : Value} {lo : Nat}
theorem Li(n a b:Int)(w:World):Cg 36 #[I6 n,I6 a,I6 b] w λe w'=>e=.returned (.bool (decide (a<=n/\n<=b)))/\w'=w:=by
 by_cases c:a<=n
 all_goals by_cases d:n<=b
 all_goals
  go_enter func36,ntmps36
  go_wp2;go_ret;simp[c,d]
theorem Wo(e:Int)(w:World):Cg 35 #[I6 e] w (Rt w (.agg #[I6 e,I6 (-1)])):=by
 go_enter func35,ntmps35
 go_wp2;refine bodyPost_ret (v:=.agg #[I6 e,I6 (-1)]) (by simp[results,results35,go_sem]) rfl ⟨rfl,zA _ _⟩
structure FI (lo:Nat) (s:List UInt8) (us:List Int) (r bx bmx:Nat) (vc:Value) (bs:List Nat) (k:Nat) (w:World):Prop where
 low:lo<=r
 len:bs.length=k
 blk:w.heap[r]?=some (Oc #[Pd bx 0,vc,.slice none 0 0,I6 0] 45)
 row:w.ownsRow lo 52 1 vc bs.length (Ef bs)
 cls:Fn lo w bs ((us.take k).map λu=>(u,Jb s))
 srv:Fq lo 0 w bx bmx [s] [] (λ_=>none)
theorem FI.below{r bx bmx:Nat}{vc:Value}{bs:List Nat}{k:Nat}{w':World}(h:FI lo s us r bx bmx vc bs k w)(a:Bw w w'):FI lo s us r bx bmx vc bs k w' :=
 ⟨h.low,h.len,(a.block r (As h.blk)).trans h.blk,Fe h.row a,NO (X:=λ_=>False) h.cls (Cf a _) (λ_ _ h=>h.elim) (λ_ _ h=>h),MK (X:=λ_=>False) h.srv (Cf a _) (λ_ _ h=>h.elim)⟩
theorem fW{w':World}{bs:List Nat}{cl:List (Int×Cl)}(h:Fn lo w bs cl)(o:Bw w w'){y:Nat}{u:Int}{S:Cl}(i:Cj lo w' y (bs.length:Int) u S)(x:w.heap.size<=y):Fn lo w' (bs++[y]) (cl++[(u,S)]):=by
 have m:=NO (X:=λ_=>False) h (Cf o _) (λ_ _ h=>h.elim) (λ_ _ h=>h);have f:∀(k c:Nat),bs[k]?=some c->c<w.heap.size:=λk c d=>by
  obtain⟨_,_,i⟩:=TT h d;exact Ks i
 have at_:∀(k c:Nat),(bs++[y])[k]?=some c->bs[k]?=some c\/k=bs.length/\c=y:=λk c d=>by
  rw[List.getElem?_append]at d
  split at d
  . exact .inl d
  . have p:=(De d)
    have e:k=bs.length:=by simp at p;omega
    subst e;rw[BP]at d;exact .inr ⟨rfl,by simpa using d.symm⟩
 refine⟨by simp[h.len],λk c q d g=>?_,λj k c t d=>?_⟩
 . rcases at_ k c d with d | ⟨rfl,rfl⟩
   . have l:k<cl.length:=by rw[←h.len];exact(De d)
     rw[AX l]at g;exact m.each k c q d g
   . rw[h.len,AL (Ai _),BP]at g
     obtain rfl:(u,S)=q:=by simpa using g
     exact i
 . rcases at_ j c t with a|⟨a,rfl⟩<;>rcases at_ k c d with b|⟨b,e⟩
   . exact h.apart j k c a b
   . have:=f j c a;omega
   . have:=f k c b;omega
   . exact a.trans b.symm
theorem FI.push{r bx bmx:Nat}{vc:Value}{bs:List Nat}{k:Nat}(h:FI lo s us r bx bmx vc bs k w){u:Int}(L:us[k]?=some u)(H:lo<=w.heap.size)(m:World)(q:Below (w.heap.size+1) (w.alloc (Oc #[I6 (k:Int),I6 u,Sx s,Sx s,I6 0,I6 0,.slice none 0 0,.slice none 0 0,.bool false,.bool false,I6 0] 69)) m) :
    m.ownsRow lo 52 1 vc bs.length (Ef bs)/\∀g o,g.ownsRow lo 52 1 o (bs.length+1) (Ef bs++[Pd w.heap.size 0])->m.grownBy g vc.ownBlock ->
     g.cell? (Ad r 1)=some vc/\g.frozen? (Ad r 1)=false/\FI lo s us r bx bmx o (bs++[w.heap.size]) (k+1) (g.setCell (Ad r 1) o):=by
 have ha:Bw w (w.alloc (Oc #[I6 (k:Int),I6 u,Sx s,Sx s,I6 0,I6 0,.slice none 0 0,.slice none 0 0,.bool false,.bool false,I6 0] 69)):=zA _ _;have p:=ha.trans (q.mono (BX _));have i:=h.below p;have E:=(q.block w.heap.size (DF _)).trans (heap_alloc_new w _);have b:Cj lo m w.heap.size (bs.length:Int) u (Jb s):=⟨H,_,_,by rw[h.len];exact E,Ev (Ik 0 _),Ev (Ik 0 _)⟩;have f:=fW h.cls p b (Ai _);have j:=λk=>ID (k:=k) i.row;refine⟨i.row,λg o l I=>?_⟩;have F:some r≠vc.ownBlock:=λe=>by
  obtain⟨_,_,d,b⟩:=j r e.symm;have:=Cx i.blk b;revert this;decide
 have c:=(I.block r (As i.blk) F).trans i.blk;have K:sameBut m (g.setCell (Ad r 1) o) (λk=>k=r\/vc.ownBlock=some k):=(IU (S:=λk=>k=r\/vc.ownBlock=some k) I λk e=>.inr e).comp (B6 (S:=λk=>k=r\/vc.ownBlock=some k) (.inl rfl)) λk _ h=>h
 have G:∀k,(k=r\/vc.ownBlock=some k)->lo<=k/\∃d T,m.heap[k]?=some (Oc d T)/\(T=45\/T=52):=λk e=>by
  rcases e with rfl|e
  . exact⟨h.low,_,_,i.blk,.inl rfl⟩
  . obtain⟨a,_,d,b⟩:=j k e
    exact⟨a,d,_,b,.inr rfl⟩
 have J:∀k,k<m.heap.size->(k=r\/vc.ownBlock=some k)->lo<=k/\F7 m k:=λk _ e=>by
  obtain⟨a,d,T,b,t⟩:=G k e;exact⟨a,C6 b (by rcases t with rfl|rfl<;>decide)⟩
 have A:Ef (bs++[w.heap.size])=Ef bs++[Pd w.heap.size 0]:=by simp[Ef]
 have B:us.take (k+1)=us.take k++[u]:=by rw[List.take_add_one,L];rfl
 refine⟨Az c 1,Gf c,h.low,by simp[h.len],heap_setCell_same g r 1 _ _ o c,?_,?_,MK i.srv K λx O e=>?_⟩
 . rw[A,AA]
   refine GZ (S:=λk=>k=r) l (B6 rfl) λk P e=>?_;subst e;obtain⟨_,_,d,b⟩:=ID l P;have:=Cx c b;revert this;decide
 . rw[B,BM]
   refine NO f K J λy E e=>?_;obtain⟨_,N,z⟩:=MJ f E;obtain⟨_,d,T,b,t⟩:=G y e;have:=Cx z b;subst this
   rcases t with e|e<;>revert e<;>decide
 . obtain⟨a,d,T,b,t⟩:=G x e
   refine⟨a,(J x O e).2,λe=>by subst e;exact F9 i.srv.2.2.2 _ _ _ b,λQ W U C=>?_⟩;have:=Cx b C;subst this
   rcases t with rfl|rfl<;>decide
theorem eS:(prog.info? 52).map (λi=>(i.zero,i.size,i.bytes))=some (some (.pointer none),1,8):=by kernel_rfl
theorem dG(C:s.length<=2000)(m:(scan s).2=false)(x:Ja w v us):Cg 5 #[Sx s,v] w (Rt w (.tuple #[.pointer none,.agg #[I6 3,I6 (Gs s)]])):=by
 have A:Hid (∀y,_):=λy=>im s (by omega) m y;obtain⟨p,c,rfl,K,J,_⟩:=x;generalize ((Gs s:Nat):Int)=PL at *;obtain⟨a,u⟩:∃a,w.heap.size=a:=⟨_,rfl⟩;have j:=Aa u;clear C m
 go_enter func5,ntmps5
 go_wp2_with (go_at_call 34;refine(A.out _).mono ?_;rintro e i ⟨rfl,h⟩;have g:i.heap[a]?=some (Oc #[I6 0,I6 0] 32):=(h.block a (by rw[Bb,j.out];omega)).trans (by have:=heap_alloc_new w (Oc #[I6 0,I6 0] 32);rwa[j.out]at this);have f:=Aa g;have q:Hid (Bw w i):=(zA _ _).trans (h.mono (by rw[Bb];omega));clear h g)
 have b:=Ft (o':=Oc #[I6 3,I6 PL] 32) f.out;have l:=heap_alloc_new i (Oc #[I6 3,I6 PL] 32);have B:=(As f.out);have t:=q.out.alloc q.out.size (Oc #[I6 3,I6 PL] 32);generalize i.alloc (Oc #[I6 3,I6 PL] 32)=W at *;have F:=cQ b 0 rfl;have G:=cQ b 1 rfl;have H:=fZ b 0;have I:=fZ b 1;have N:=cQ l 0 rfl;have L:=cQ l 1 rfl;have E:a≠i.heap.size:=by omega
 have z:¬(i.heap.size=a):=by omega
 have o:=Aa t;have d:w.heap.size<=a:=by have:=j.out;omega
 clear b l t;generalize i.heap.size=γ at *
 go_region
 all_goals
  go_wp2;refine bodyPost_ret (v:=.tuple #[.pointer none,.agg #[I6 3,I6 PL]]) (by simp[results,results5,go_sem,F,G]) rfl ?_;exact⟨rfl,by first | exact((o.out.setCell (p:=(Ad a 0)) d _).setCell (p:=(Ad a 1)) d _).drew | exact(o.out.drew.setCell (p:=(Ad a 0)) d _).setCell (p:=(Ad a 1)) d _⟩
theorem XP(hV:V s)(hs:s.length<=2000)(hlo:lo<=w.heap.size)(hus:Ja w v us):Cg 5 #[Sx s,v] w λe w'=>Bw w w'/\(6<us.length/\e=.returned (.tuple #[.pointer none,.agg #[I6 4,I6 (-1)]])\/us.length<=6/\((∃u∈us,¬Ck u)/\e=.returned (.tuple #[.pointer none,.agg #[I6 1,I6 (-1)]])\/(∀u∈us,Ck u)/\∃r G smx bs,e=.returned (.tuple #[Pd r 0,.agg #[I6 0,I6 (-1)]])/\Ay lo w' r G smx bs [s] (Iz s us)/\w.heap.size<=smx)):=by
 have CN:Hid _:=λwx (h:lo<=wx.heap.size)=>jN lo s hs (N4 hV) wx h;obtain⟨p,c,rfl,q1,q2,q3⟩:=hus;have HUS:=Aa q3;have Q:=Aa hlo;obtain⟨d,hβ⟩:∃d,w.heap.size=d:=⟨_,rfl⟩;have B:=Aa hβ;obtain⟨N,hN⟩:∃N,us.length=N:=⟨_,rfl⟩;have HN:=Aa hN;rw[hN]at q1 ⊢;unfold maxLen at q2;have hz:(ByteArray.mk s.toArray).size=s.length:=by simp[ByteArray.size]
 clear hV hs hlo q3 hN
 go_enter func5,ntmps5
 by_cases h6:6<N
 case pos =>
  have hNj:(6:Int)<(N:Int):=by omega
  go_wp2_with (first
   | (go_at_call 34;refine(CN.out _ (by rw[Bb];have:=Q.out;omega)).mono ?_;rintro e F ⟨G,smx,rfl,a,A,E⟩;have y:F.heap[d]?=some (Oc #[I6 0,I6 0] 32):=(E.block d (by rw[Bb,B.out];omega)).trans (by have:=heap_alloc_new w (Oc #[I6 0,I6 0] 32);rwa[B.out]at this);have t:=Aa y;have H1:=Aa a;have HM1:Hid (w.heap.size<=smx):=by rw[Bb]at A;exact Nat.le_of_succ_le A
      have l:Hid (Bw w F):=(zA _ _).trans (E.mono (by rw[Bb];omega));clear E y a A)
   | (go_at_call 35;refine(Wo 4 _).mono ?_;rintro e w2 ⟨rfl,m⟩;have g:=(m.block d (by rw[Bb];have:=(As t.out);omega)).trans (Ft t.out);have c0:=cQ g 0 rfl;have c1:=cQ g 1 rfl;have f0:=fZ g 0;have f1:=fZ g 1;have I:Hid _:=(l.out.alloc l.out.size _).trans (m.mono (l.out.alloc l.out.size _).size);clear m g))
  refine bodyPost_ret (v:=.tuple #[.pointer none,.agg #[I6 4,I6 (-1)]]) (by simp[results,results5,go_sem,c0,c1]) rfl ?_;have f:w.heap.size<=d:=by have:=B.out;omega
  exact⟨(I.out.setCell (p:=(Ad d 0)) f _).setCell (p:=(Ad d 1)) f _,.inl ⟨h6,rfl⟩⟩
 case neg =>
  have hNj:¬(6:Int)<(N:Int):=by omega
  have hNi:(N:Int)<=6:=by omega
  obtain⟨i0,hi0,hq0,hq1,hq2⟩:=info_parts eS
  go_wp2_with (first
   | (go_at_call 34;refine(CN.out _ (by rw[Bb];have:=Q.out;omega)).mono ?_;rintro e F ⟨G,smx,rfl,a,A,E⟩;have y:F.heap[d]?=some (Oc #[I6 0,I6 0] 32):=(E.block d (by rw[Bb,B.out];omega)).trans (by have:=heap_alloc_new w (Oc #[I6 0,I6 0] 32);rwa[B.out]at this);have t:=Aa y;have H1:=Aa a;have HM1:Hid (w.heap.size<=smx):=by rw[Bb]at A;exact Nat.le_of_succ_le A
      have l:Hid (Bw w F):=(zA _ _).trans (E.mono (by rw[Bb];omega));clear E y a A))
  have m:=((l.out.alloc l.out.size (Oc #[I6 0,I6 (-1)] 32)).alloc (AF l.out.size (by simp)) (Oc #[Pd G 0,.slice none 0 0,.slice none 0 0,I6 0] 45));have hI:FI lo s us (F.heap.size+1) G smx (.slice none 0 0) [] 0 ((F.alloc (Oc #[I6 0,I6 (-1)] 32)).alloc (Oc #[Pd G 0,.slice none 0 0,.slice none 0 0,I6 0] 45)):=by
   have e:=heap_alloc_new (F.alloc (Oc #[I6 0,I6 (-1)] 32)) (Oc #[Pd G 0,.slice none 0 0,.slice none 0 0,I6 0] 45);rw[Bb]at e;have a:Bw F (F.alloc (Oc #[I6 0,I6 (-1)] 32)):=zA _ _;exact⟨AF Q.out (Nat.le_succ_of_le l.out.size),rfl,e,BL _ _ _ _,⟨rfl,λk b q hk=>by simp at hk,λj k b hj=>by simp at hj⟩,MK (X:=λ_=>False) H1.out (Cf (a.alloc (by simp) _) _) λ_ _ h=>h.elim⟩
  have hB0:=Ft (o':=Oc #[Pd G 0,.slice none 0 0,.slice none 0 0,I6 0] 45) (Ft (o':=Oc #[I6 0,I6 (-1)] 32) t.out);have hB1:=Ft (o':=Oc #[Pd G 0,.slice none 0 0,.slice none 0 0,I6 0] 45) (heap_alloc_new F (Oc #[I6 0,I6 (-1)] 32));have HI:=Aa hI;have I:=Aa m;have HX:Hid _:=And.intro hB0 hB1;have HSM:=Aa l.out.size;clear m hI hB0 hB1 H1 t l CN h6;generalize (F.alloc (Oc #[I6 0,I6 (-1)] 32)).alloc (Oc #[Pd G 0,.slice none 0 0,.slice none 0 0,I6 0] 45)=W2 at *;obtain⟨r,hr⟩:∃r,F.heap.size+1=r:=⟨_,rfl⟩;obtain⟨γ,hγ⟩:∃γ,F.heap.size=γ:=⟨_,rfl⟩;have HRW:Hid (w.heap.size<=r):=by have:=HSM.out;show w.heap.size<=r;omega
  rw[hr]at HI ⊢;rw[hγ]at HX ⊢;clear hr hγ HSM
  go_loopw [29] (λi wr=>∃k:Nat,i=.int .i64 k/\k<=N/\(∀u∈us.take k,Ck u)/\∃vc bs,FI lo s us r G smx vc bs k wr/\Bw w wr/\(∀j,vc.ownBlock=some j->w.heap.size<=j)/\wr.heap[d]?=some (Oc #[.int .i64 0,.int .i64 0] 32)/\wr.heap[γ]?=some (Oc #[.int .i64 0,.int .i64 (-1)] 32)) (λi _=>N - (intOf i).toNat)
  case atStart=>exact⟨0,rfl,AV _,λu hu=>(by cases hu),_,[],HI.out,I.out,λj hj=>(by cases hj),HX.out.1,HX.out.2⟩
  case round =>
   obtain⟨k,rfl,hk,Z,vc,bs,a,h2,h3,P,h5⟩:=hrel;have HOK:=Aa Z;have HI1:=Aa a;have K:=Aa h2;have U:Hid _:=And.intro P h5;have hki:(k:Int)<=6:=by omega
   clear HI I HX
   by_cases hlt:k<N
   . have hki2:(k:Int)<(N:Int):=by omega
     have J:k<us.length:=by rw[HN.out];exact hlt
     have Y:us[k]?=some us[k]:=B7 J;have L:us≠[]:=λe=>by have:=HN.out;rw[e]at this;simp at this;omega
     obtain⟨b0,o,rfl,hb0,hat⟩:=HUS.out L;have g0:=(zC h2 b0 (o+k) hb0).trans (hat k _ Y);have HTK:=Aa (AD J);have HME:=Aa (BE J);generalize us[k]=u at *;obtain⟨pc,cc,evc⟩:=Bm a.row;subst evc;have CI:Hid (∀wx,_):=λwx=>Li u 1 3 wx
     by_cases H:Ck u
     case neg =>
      have hd:decide (1<=u/\u<=3)=false:=by unfold Ck at H;simp;omega
      rw[hd]at CI;have HNO:=Aa H;clear a h2 h3 P h5 hat Y L H hd Z
      go_wp2_with (first
       | (go_at_call 36;refine(CI.out _).mono ?_;rintro e w3 ⟨rfl,hw⟩;obtain rfl:=hw.symm)
       | (go_at_call 35;refine(Wo 1 _).mono ?_;rintro e w2 ⟨rfl,m⟩;have g:=(m.block d (As U.out.1)).trans U.out.1;have c0:=cQ g 0 rfl;have c1:=cQ g 1 rfl;have f0:=fZ g 0;have f1:=fZ g 1;have I:Hid _:=K.out.trans (m.mono K.out.size);clear m g))
      refine bodyPost_ret (v:=.tuple #[.pointer none,.agg #[I6 1,I6 (-1)]]) (by simp[results,results5,go_sem,c0,c1]) rfl ?_;have f:w.heap.size<=d:=by have:=B.out;omega
      exact⟨(I.out.setCell (p:=(Ad d 0)) f _).setCell (p:=(Ad d 1)) f _,.inr ⟨by omega,.inl ⟨⟨_,HME.out,HNO.out⟩,rfl⟩⟩⟩
     have HOU:=Aa H;have hd:decide (1<=u/\u<=3)=true:=by unfold Ck at H;simp;omega
     rw[hd]at CI;have hlen:=a.len;have hcm:bs.length<=6:=by omega
     have hlr:lo<=wr.heap.size:=AF Q.out h2.size;have HP:Hid _:=λw2 hb=>FI.push a Y hlr w2 hb;have HOWN:=Aa h3;have HSZ:Hid (w.heap.size<=wr.heap.size/\lo<=wr.heap.size):=⟨h2.size,hlr⟩;have x1:=cQ a.blk 1 rfl;have hr3:r<wr.heap.size:=(As a.blk);clear a h2 h3 P h5 hat Y L H hlen hd Z hlr
     go_wp2_with (first
      | (go_at_call 36;refine(CI.out _).mono ?_;rintro e w3 ⟨rfl,hw⟩;obtain rfl:=hw.symm)
      | (at_builtin;have hba:Below (wr.heap.size+1) (wr.alloc (Oc #[I6 (k:Int),I6 u,Sx s,Sx s,I6 0,I6 0,.slice none 0 0,.slice none 0 0,.bool false,.bool false,I6 0] 69)) ((wr.alloc (Oc #[I6 (k:Int),I6 u,Sx s,Sx s,I6 0,I6 0,.slice none 0 0,.slice none 0 0,.bool false,.bool false,I6 0] 69)).alloc (Oc #[Pd wr.heap.size 0] 52)):=(A9 _ _).alloc (by rw[Bb];omega) _;obtain⟨z,O⟩:=HP.out _ hba;have HF:=Aa O;have HR2:=Aa z;have HBA:Hid _:=(K.out.alloc HSZ.out.1 (Oc #[I6 (k:Int),I6 u,Sx s,Sx s,I6 0,I6 0,.slice none 0 0,.slice none 0 0,.bool false,.bool false,I6 0] 69)).alloc (AF HSZ.out.1 (by simp)) (Oc #[Pd wr.heap.size 0] 52);refine Vj _ rfl _ _ 42 rfl lo 52 i0 (.pointer none) 1 8 underlying42 hi0 hq0 hq1 hq2 rfl (by decide) _ _ _ rfl z (Ad (wr.heap.size+1) 0) 1 1 [Pd wr.heap.size 0] rfl rfl (by have:=V6 (wr.alloc (Oc #[I6 (k:Int),I6 u,Sx s,Sx s,I6 0,I6 0,.slice none 0 0,.slice none 0 0,.bool false,.bool false,I6 0] 69)) (Pd wr.heap.size 0) 52;rwa[AN]at this) (λu hu=>by rw[List.mem_singleton.1 hu];rfl) (by unfold maxLen;omega) (by omega) (AF HSZ.out.2 (by simp;omega)) (by omega) ?_;clear O z hba))
     intro v2 w6 C hg' hvn;obtain⟨y1,y2,y3⟩:=HF.out w6 v2 C hg';have Y3:=Aa y3;have HB6:Hid _:=(HBA.out.grown hg' HBA.out.size λj hj=>HOWN.out j hj).setCell (p:=(Ad r 1)) HRW.out v2;have HVN:Hid (∀j,v2.ownBlock=some j->w.heap.size<=j):=λj hj=>(hvn j hj).elim (HOWN.out j) λh=>by have a:=HBA.out.size;simp only[AN]at a;omega
     have KF:∀(q:Nat) (cs:Array Value),wr.heap[q]?=some (Oc cs 32)->(w6.setCell (Ad r 1) v2).heap[q]?=some (Oc cs 32):=λq cs h=>by
      have a:=Ft (o':=Oc #[Pd wr.heap.size 0] 52) (Ft (o':=Oc #[I6 (k:Int),I6 u,Sx s,Sx s,I6 0,I6 0,.slice none 0 0,.slice none 0 0,.bool false,.bool false,I6 0] 69) h);refine(BF _ _ _ q λe=>?_).trans ((hg'.block q (As a) λe=>?_).trans a)
      . have e:q=r:=e
        subst e;have:=Cx h HI1.out.blk;revert this;decide
      . obtain⟨_,_,cs',hc'⟩:=ID HR2.out e.symm
        have:=Cx a hc';revert this;decide
     have HKF:Hid _:=And.intro (KF d _ U.out.1) (KF γ _ U.out.2);obtain⟨p6,c6,rfl⟩:=Bm C;clear C hg' y3 hvn KF;go_wp2
     go_roundw
     case rel=>exact⟨k+1,by go_num,by omega,λx hx=>by rw[HTK.out]at hx;rcases List.mem_append.1 hx with hx|hx;exact HOK.out x hx;rw[List.mem_singleton.1 hx];exact HOU.out,_,_,Y3.out,HB6.out,HVN.out,HKF.out.1,HKF.out.2⟩
     case measure=>simp[intOf];omega
   . obtain rfl:k=N:=by omega
     have hki2:¬((k:Int)<(k:Int)):=by omega
     have c0:=cQ P 0 rfl;have c1:=cQ P 1 rfl;have f0:=fZ P 0;have f1:=fZ P 1;have e0:=cQ h5 0 rfl;have e1:=cQ h5 1 rfl;have L:d≠γ:=λe=>by subst e;rw[e1]at c1;simp at c1
     have hne2:¬(γ=d):=λe=>L e.symm;have f:w.heap.size<=d:=by have:=B.out;omega
     have HFI:Hid (Ay lo wr r G smx bs [s] (Iz s us)):=by
      have hc:=a.cls;rw[AQ (DZ HN.out)]at hc;exact⟨a.low,⟨_,_,a.blk,a.row,XS _ _ _⟩,hc,a.srv⟩
     have fin:∀W,sameBut wr W (λk=>k=d)->Ay lo W r G smx bs [s] (Iz s us):=λW hs=>TP HFI.out hs λq hq e=>by
      subst e;exact⟨AF Q.out f,C6 P (by decide),λe=>by subst e;exact F9 a.srv.2.2.2 _ _ _ P,λcs T fz hc=>by have:=Cx P hc;subst this;unfold Ir;decide⟩
     have FIN:=Aa fin;clear a h2 h3 P h5 Z fin;go_wp2
     go_region
     all_goals
      go_wp2;refine bodyPost_ret (v:=.tuple #[Pd r 0,.agg #[I6 0,I6 (-1)]]) (by simp[results,results5,go_sem,c0,c1]) rfl ?_;refine⟨by first | exact((K.out.setCell (p:=(Ad d 0)) f _).setCell (p:=(Ad d 1)) f _).drew | exact(K.out.drew.setCell (p:=(Ad d 0)) f _).setCell (p:=(Ad d 1)) f _,.inr ⟨by omega,.inr ⟨λx hx=>HOK.out x (by rw[AQ (DZ HN.out)];exact hx),r,G,smx,_,rfl,FIN.out _ ?_,HM1.out⟩⟩⟩
      first
       | exact((B6 (S:=λk=>k=d) rfl).trans (B6 (S:=λk=>k=d) rfl)).trans (Cf ((A9 _ _).drew) _)
       | exact((Cf ((A9 _ _).drew) _).trans (B6 (S:=λk=>k=d) rfl)).trans (B6 (S:=λk=>k=d) rfl)
end
end
section
variable {w0 w w' : World} {r bx bmx q sx smx N k : Nat} {bs ys : List Nat} {l0 : Int} {R R1 R2 R1' R2' : Rm} {D : List (List UInt8)}
structure RQ (w0:World) (r bx bmx:Nat) (bs:List Nat) (q sx smx:Nat) (ys:List Nat) (l0:Int) (R1 R2:Rm) (w:World):Prop where
 low:Bw w0 w
 env:Env w0.heap.size w
 rm:Ac w0.heap.size w r bx bmx bs R1
 fr:isFd l0 w0.heap.size w q sx smx ys R2
 ne:bmx≠smx
theorem Xl{X:Nat->Prop}(c:Bw w0 w)(a:sameBut w w' X)(d:∀k,X k->w0.heap.size<=k):Bw w0 w' :=
 c.trans ⟨a.os,a.tape,a.output,a.size,λk b=>a.block k (AK b c.size) λe=>absurd (d k e) (Nat.not_le.2 b)⟩
theorem RQ.M(h:RQ w0 r bx bmx bs q sx smx ys l0 R1 R2 w)(d:Ac w0.heap.size w' r bx bmx bs R1')(c:sameBut w w' (El w0.heap.size w bmx)):RQ w0 r bx bmx bs q sx smx ys l0 R1' R2 w' :=
 ⟨Xl h.low c λk e=>e.1,h.env.room c,d,by obtain⟨D,a,b⟩:=h.fr;exact⟨D,M8 a h.rm h.ne c,b⟩,h.ne⟩
theorem RQ.Dd(h:RQ w0 r bx bmx bs q sx smx ys l0 R1 R2 w)(c:isFd l0 w0.heap.size w' q sx smx ys R2')(b:sameBut w w' (Fd w0.heap.size w smx)):RQ w0 r bx bmx bs q sx smx ys l0 R1 R2' w' :=
 ⟨Xl h.low b λk e=>e.1,h.env.same b λk e=>e.1,by obtain⟨D,a,_⟩:=h.fr;exact di h.rm a h.ne b,c,h.ne⟩
theorem RQ.grow(h:RQ w0 r bx bmx bs q sx smx ys l0 R1 R2 w)(a:Bw w w'):RQ w0 r bx bmx bs q sx smx ys l0 R1 R2 w' :=
 ⟨h.low.trans (a.mono h.low.size),h.env.below a,Gg h.rm a,h.fr.below a,h.ne⟩
def Pok (l0:Int) (N k:Nat) (D:List (List UInt8)) (R:Rm):Prop:=∃n:Int,n<=k/\Inv l0 n D R/\askOk R/\Ap R<=2400*k/\R.cl.length=N/\N<=6
theorem Pok.more(h:Pok l0 N k D R):Pok l0 N (k+1) D R:=by
 obtain⟨n,a,b,c,d,e⟩:=h;exact⟨n,by omega,b,c,by omega,e⟩
theorem Pok.send(h:Pok l0 N k D R){j:Nat}(i:j<N):Pok l0 N (k+1) D (sendC R j):=by
 obtain⟨n,a,b,c,d,e,f⟩:=h;obtain⟨_,_,_,_,g⟩:=JP R (Et R j);have:=QN R (Et R j);exact⟨n,by omega,b.sendK (by omega),c.sendC b (by omega),by unfold sendC;omega,by unfold sendC;rw[g];exact e,f⟩
theorem Pok.deliv(h:Pok l0 N k D R){i:Nat}{p:Pk}(j:R.fl[i]?=some p):∃g,Pok l0 N (k+1) g (Er l0 R i):=by
 obtain⟨n,a,b,c,d,e,f⟩:=h;obtain⟨g,m,_,l,_⟩:=b.deliv i;have o:=Zo b j;have t:Er l0 R i=Fz l0 (outR R i) p:=by unfold Er;rw[j]
 exact⟨g,n,by omega,m,by rw[t];exact(c.out i).comes l0 p,by omega,l.trans e,f⟩
theorem Pok.lose(h:Pok l0 N k D R)(i:Nat):Pok l0 N (k+1) D (outR R i):=by
 obtain⟨n,a,b,c,d,e,f⟩:=h;have:=We R i;exact⟨n,by omega,b.out i,c.out i,by omega,e,f⟩
theorem Pok.twice(h:Pok l0 N k D R){i:Nat}{p:Pk}(g:R.fl[i]?=some p):Pok l0 N (k+1) D (Cm R p):=by
 obtain⟨n,a,b,c,d,e,f⟩:=h;obtain⟨_,_,_,_,j⟩:=JP R p;have:=QN R p;exact⟨n,by omega,b.twice g,c.send (c p (BI g)),by omega,by rw[j];exact e,f⟩
theorem Pok.edit(h:Pok l0 N k D R){j:Nat}(g:j<N)(x:List Pt):Pok l0 N (k+1) D (JJ R j x):=by
 obtain⟨n,a,b,c,d,e,f⟩:=h;exact⟨n+1,by omega,b.edit (by omega) x,c.edit j x,by show Ap R<=_;omega,by unfold JJ setC;simpa using e,f⟩
section
variable (h : RQ w0 r bx bmx bs q sx smx ys l0 R1 R2 w)
include h
theorem RQ.bs_len:bs.length=R1.cl.length:=h.rm.cls.len
theorem RQ.ys_len:ys.length=R2.cl.length:=by obtain⟨_,a,_⟩:=h.fr;exact a.cls.len
end
theorem KS(h:RQ w0 r bx bmx bs q sx smx ys l0 R1 R w)(p:Pok l0 N k D R)(m:k<=60){j:Nat}(x:j<N) :
    Cg 13 #[Pd q 0,I6 (j:Int)] w λe w'=>e=.returned (.tuple #[])/\RQ w0 r bx bmx bs q sx smx ys l0 R1 (sendC R j) w':=by
 obtain⟨n,a,b,c,d,e,f⟩:=p;obtain⟨o,u,t⟩:=b.counts (by omega);obtain⟨i,g,l⟩:=h.fr;refine(XO g b (by omega) (by omega) (by have:=h.ys_len;omega)).mono ?_;rintro e w' ⟨rfl,a,c⟩;exact⟨rfl,h.Dd ⟨i,a,TY l _⟩ (NA (c.touchW g))⟩
theorem KR(h:RQ w0 r bx bmx bs q sx smx ys l0 R R2 w)(p:Pok l0 N k D R)(i:k<=60){j:Nat}(g:j<N) :
    Cg 14 #[Pd r 0,I6 (j:Int)] w λe w'=>e=.returned .nilIface/\RQ w0 r bx bmx bs q sx smx ys l0 (sendC R j) R2 w':=by
 obtain⟨n,a,b,c,d,e,f⟩:=p;refine(Zs h.rm b (by omega) (by have:=h.bs_len;omega) (by omega)).mono ?_;rintro e w' ⟨rfl,a,c⟩;exact⟨rfl,h.M a c⟩
theorem bL(h:RQ w0 r bx bmx bs q sx smx ys l0 R1 R w)(p:Pok l0 N k D R)(t:k<=60){i:Nat}{x:Pk}(o:R.fl[i]?=some x) :
    Cg 16 #[Pd q 0,I6 (i:Int)] w λe g=>∃v,e=.returned (pkV x v) /\
     Cg 15 #[Pd q 0,pkV x v] g λe w'=>e=.returned (.tuple #[])/\RQ w0 r bx bmx bs q sx smx ys l0 R1 (Er l0 R i) w':=by
 obtain⟨n,a,b,c,d,e,f⟩:=p;refine(VT ⟨h.fr,b,c⟩ (by omega) o (by have:=h.ys_len;omega) (by omega)).mono ?_;rintro e g ⟨v,rfl,l⟩;refine⟨v,rfl,(l g (A9 _ _)).mono ?_⟩;rintro e w' ⟨rfl,⟨u,m,_⟩,j⟩;exact⟨rfl,h.Dd m.fr j⟩
theorem bM(h:RQ w0 r bx bmx bs q sx smx ys l0 R R2 w)(p:Pok l0 N k D R)(j:k<=60){i:Nat}{x:Pk}(g:R.fl[i]?=some x) :
    Cg 17 #[Pd r 0,I6 (i:Int)] w λe w'=>e=.returned .nilIface/\RQ w0 r bx bmx bs q sx smx ys l0 (Er l0 R i) R2 w':=by
 obtain⟨n,a,b,c,d,e,f⟩:=p;refine(ac h.env h.rm b (by omega) g (by have:=h.bs_len;omega) (by omega)).mono ?_;rintro e w' ⟨rfl,a,c⟩;exact⟨rfl,h.M a c⟩
theorem KU(h:RQ w0 r bx bmx bs q sx smx ys l0 R1 R w)(p:Pok l0 N k D R){i:Nat}{x:Pk}(m:R.fl[i]?=some x) :
    Cg 16 #[Pd q 0,I6 (i:Int)] w λe w'=>∃v,e=.returned v/\RQ w0 r bx bmx bs q sx smx ys l0 R1 (outR R i) w':=by
 obtain⟨n,a,b,c,d,e,f⟩:=p;obtain⟨l,g,j⟩:=h.fr;refine(XQ g m b.room).mono ?_;rintro e w' ⟨v,rfl,_,a,c⟩;exact⟨_,rfl,h.Dd ⟨l,a,j⟩ (NA c)⟩
theorem KT(h:RQ w0 r bx bmx bs q sx smx ys l0 R R2 w)(p:Pok l0 N k D R){i:Nat}{x:Pk}(g:R.fl[i]?=some x) :
    Cg 18 #[Pd r 0,I6 (i:Int)] w λe w'=>e=.returned .nilIface/\RQ w0 r bx bmx bs q sx smx ys l0 (outR R i) R2 w':=by
 obtain⟨n,a,b,c,d,e,f⟩:=p;refine(ex h.rm (De g) b.room).mono ?_;rintro e w' ⟨rfl,a,c⟩;exact⟨rfl,h.M a c⟩
theorem bP(h:RQ w0 r bx bmx bs q sx smx ys l0 R1 R w)(p:Pok l0 N k D R)(o:k<=60){i:Nat}{x:Pk}(m:R.fl[i]?=some x) :
    Cg 19 #[Pd q 0,I6 (i:Int)] w λe w'=>e=.returned (.tuple #[])/\RQ w0 r bx bmx bs q sx smx ys l0 R1 (Cm R x) w':=by
 obtain⟨n,a,b,c,d,e,f⟩:=p;obtain⟨t,y,u⟩:=b.counts (by omega);obtain⟨j,g,l⟩:=h.fr;refine(i7 g m (by omega) b.room).mono ?_;rintro e w' ⟨rfl,a,c⟩;exact⟨rfl,h.Dd ⟨j,a,TY l _⟩ (NA (c.touchW g))⟩
theorem bQ(h:RQ w0 r bx bmx bs q sx smx ys l0 R R2 w)(p:Pok l0 N k D R)(j:k<=60){i:Nat}{x:Pk}(g:R.fl[i]?=some x) :
    Cg 20 #[Pd r 0,I6 (i:Int)] w λe w'=>e=.returned .nilIface/\RQ w0 r bx bmx bs q sx smx ys l0 (Cm R x) R2 w':=by
 obtain⟨n,a,b,c,d,e,f⟩:=p;obtain⟨l,o,m⟩:=b.counts (by omega);refine(iy h.rm g (by omega) b.room).mono ?_;rintro e w' ⟨rfl,a,c⟩;exact⟨rfl,h.M a c⟩
theorem bO(h:RQ w0 r bx bmx bs q sx smx ys l0 R R2 w)(p:Pok l0 N k D R)(g:k<=60) :
    Cg 21 #[Pd r 0] w λe w'=>e=.returned (.tuple #[])/\RQ w0 r bx bmx bs q sx smx ys l0 (Hs l0 R) R2 w':=by
 obtain⟨n,a,b,c,d,e,f⟩:=p;refine(jU h.env h.rm b (by omega) (by have:=h.bs_len;omega) (by omega)).mono ?_;rintro e w' ⟨rfl,a,c⟩;exact⟨rfl,h.M a c⟩
theorem bN(h:RQ w0 r bx bmx bs q sx smx ys l0 R1 R w)(p:Pok l0 N k D R)(m:k<=60) :
    Cg 22 #[Pd q 0] w λe w'=>e=.returned (.tuple #[])/\RQ w0 r bx bmx bs q sx smx ys l0 R1 (Hs l0 R) w'/\∃g,Pok l0 N (k+1) g (Hs l0 R):=by
 obtain⟨n,a,b,c,d,e,f⟩:=p;refine(jb ⟨h.fr,b,c⟩ (by omega) (by have:=h.ys_len;omega) (by omega)).mono ?_;rintro e w' ⟨rfl,⟨g,i⟩,j⟩;obtain⟨_,_,_,l,_,o⟩:=b.quiet;exact⟨rfl,h.Dd i.fr j,g,n,by omega,i.inv,i.ask,by omega,by omega,f⟩
def Q5 (w:World) (w':World):Prop:=∀(k:Nat) (cs:Array Value) (T:TypeId) (fz:Nat×Nat),w.heap[k]?=some (.cells cs T fz)->T≠95/\T≠37/\T≠69->w'.heap[k]?=some (.cells cs T fz)
theorem TJ(h:RQ w0 r bx bmx bs q sx smx ys l0 R1 R w):∃b c e f d cl,w.cell? (Ad q 0)=some (Pd sx 0)/\w.cell? (Ad q 1)=some (.slice b ys.length c)/\w.cell? (Ad q 2)=some (.slice e R.fl.length f)/\w.cell? (Ad q 3)=some (I6 (R.lost:Int))/\w.cell? (Ad sx 1)=some (.slice d R.E.length cl):=by
 obtain⟨p,g,o⟩:=h.fr;obtain⟨b,c,e,f,a,m,l⟩:=Ht g;obtain⟨_,_,⟨u,t,i,_,j⟩,_⟩:=g.srv;obtain⟨d,cl,rfl⟩:=Io j;exact⟨b,c,e,f,d,cl,Az a 0,Az a 1,Az a 2,Az a 3,Az i 1⟩
theorem VL(h:RQ w0 r bx bmx bs q sx smx ys l0 R1 R w){j y:Nat}(l:ys[j]?=some y):∃g c,w.cell? (Ad q 1)=some (Sl g ys.length c)/\w.cell? (Ad g j)=some (Pd y 0)/\(∃a b,w.heap[q]?=some (.cells a 45 b))/\∃a b,w.heap[g]?=some (.cells a 52 b):=by
 obtain⟨t,f,u⟩:=h.fr;obtain⟨p,c,z,x,e,d,o⟩:=Ht f;obtain⟨g,rfl,i⟩:=N6 d l;obtain⟨_,_,a,m⟩:=ID d (k:=g) rfl;exact⟨g,c,Az e 1,i,⟨_,_,e⟩,a,_,m⟩
theorem KV(h:RQ w0 r bx bmx bs q sx smx ys l0 R R2 w)(p:Pok l0 N k D R)(P:k<=60){j b:Nat}(m:bs[j]?=some b)(v:Value)(x:List Pt)(C:Ar w0.heap.size w v x)(z:∀y∈x,Cp y)(o:∀y∈x,y.put.length<=300)(H:x.length<=100) :
    Cg 11 #[Pd b 0,v] w λe w'=>e=.returned (Ao (edE (Bo R j).1 (Bo R j).2 x))/\RQ w0 r bx bmx bs q sx smx ys l0 (JJ R j x) R2 w'/\Ar w0.heap.size w' v x/\Q5 w w':=by
 obtain⟨n,a,B,c,d,e,f⟩:=p;have E:j<R.cl.length:=by have:=(De m);have:=h.bs_len;omega
 obtain⟨O,l,i⟩:=NG h.rm E;rw[m]at l;obtain rfl:=Bq l;obtain⟨_,g⟩:=B.clk E;have G:=g.small B.lk;refine(gP i g.ok g.unit v x C.1 z o H (by omega) ⟨g.id.1,by have:=g.id.2;split at this<;>omega⟩ h.env.g2 h.env.tabs).mono ?_;rintro e w' ⟨rfl,a,c⟩;obtain⟨m1,m2⟩:=Vd h.rm m a c;exact ⟨rfl,h.M m1 m2,Eu C c.1 λk _ e=>⟨(Kt i e).1,ZD i e⟩,λk J T K u F=>(c.1.2 k (As u) λe=>by
  obtain⟨_,_,I,L,t,A⟩:=Kt i e;have:=Cx u t;subst this
  exact A.elim F.1 F.2.1).trans u⟩
theorem KW(h:RQ w0 r bx bmx bs q sx smx ys l0 R1 R w)(p:Pok l0 N k D R)(O:k<=60){j y:Nat}(i:ys[j]?=some y)(v:Value)(x:List Pt)(C:Ar w0.heap.size w v x)(u:∀y∈x,Cp y)(m:∀y∈x,y.put.length<=300) :
    Cg 12 #[Pd y 0,v] w λe w'=>e=.returned (I6 (edE (Bo R j).1 (Bo R j).2 x))/\RQ w0 r bx bmx bs q sx smx ys l0 R1 (JJ R j x) w'/\Q5 w w':=by
 obtain⟨n,a,A,c,d,e,f⟩:=p;obtain⟨F,l,H⟩:=h.fr;have B:j<R.cl.length:=by have:=(De i);have:=h.ys_len;omega
 obtain⟨K,g,z⟩:=L4 l B;rw[i]at g;obtain rfl:=Bq g;obtain⟨_,b⟩:=A.clk B;have E:=b.small A.lk;refine(g9 z b.ok b.unit v x C.1 u m (by omega) ⟨b.id.1,by have:=b.id.2;split at this<;>omega⟩).mono ?_;rintro e w' ⟨rfl,a,c⟩;obtain⟨m1,m2⟩:=UR l i a c;exact ⟨rfl,h.Dd ⟨F,m1,H⟩ m2,λk J T L t G=>(c.2 k (As t) λe=>by
  subst e;obtain⟨_,I,o⟩:=MJ l.cls (BI i)
  exact G.2.2 (Cx t o)).trans t⟩
end
section
open Go.Deep Go.ChangeShapes Go.WideShapes Go.Joins
structure Sa where
 a:Int
 b:Int
 c:Int
 op:List Pt
def JG (c:Int):Prop:=-9223372036854775808<=c/\c<9223372036854775808
def LM (q:Sa):Prop:=(JG q.a/\JG q.b/\JG q.c)/\V0 q.op
theorem ZY:prog.cellsOf 3=1:=by kernel_rfl
end
section
attribute [local go_sem] Oper.semAt_some
variable {w : World}{v : Value}{ps : List Pt}
theorem Xy:∀(a:List Pt),(∀q∈a,q.put.length<=300)->Al a<=300*a.length
 | [],_=>by simp[Al]
 | q :: a,h=>by
  have ih:=Xy a λx b=>h x (by simp[b]);have:=h q (by simp);have e:Al (q :: a)=q.put.length+Al a:=by simp[Al]
  rw[e,AJ];omega
theorem Nf{q:Sa}(c:LM q)(d:Fp q.op=true):(∀p∈q.op,Cp p)/\(∀p∈q.op,p.put.length<=300)/\q.op.length<=100/\Al q.op<=40000:=by
 obtain⟨e,a⟩:=dD d;have:=Xy q.op a;exact⟨λp b=>c.2 p b (a p b),a,e,by omega⟩
theorem K9{lo:Nat}(h:Ae w v ps)(i:w.heap.size<=lo):ps≠[]->∀k,v.ownBlock=some k->k<lo\/∃f g,w.heap[k]?=some (.cells f 87 g):=λa j l=>by
 obtain⟨p,c,rfl,_,_,d⟩:=h;obtain⟨b,o,rfl,e,_⟩:=d a;obtain rfl:b=j:=Bq l;exact .inl (AK e i)
theorem Lb{w':World}(h:Ae w v ps)(a:Bw w w'):Ar w.heap.size w' v ps :=
 Bt ⟨h,K9 h (Ai _)⟩ a
theorem below_drewN(w:World)(n:Nat):Bw w (w.drewN n):=⟨rfl,rfl,rfl,Ai _,λ_ _=>rfl⟩
end
end Go.Proofs.YtkcpjanmemdjlaaGreatDoor
