/-
  A part of the texts that the proof uses.
-/
import Derived.Test.YtkcpjanmemdjlaaGreatDoorPartG
set_option maxRecDepth 100000
set_option maxHeartbeats 40000000
set_option linter.all false
namespace Go.Proofs.YtkcpjanmemdjlaaGreatDoor
open Go.Proofs.Tryz Go.RowKit Go.Maps
section
attribute [local go_sem] Oper.semAt_some
theorem kz{lo n:Nat}{w:World}{b bm:Nat}{t:List UInt8}{D:List (List UInt8)}{E:List SE}{M:Cd}{l0:Int}(hk:Gz l0 t E)(c i:Int)(k:Nat)(v:Value)(ps:List Pt){g c0:Nat}{p:Option Addr}{c1:Nat}{d:List UInt8}(hr:Ar lo w v ps)(hpu:Al ps<=40000)(hkl:k<=E.length)(hn:E.length<300)(hc1:E.length<=c1)(hc0:E.length+1<=c0)(hcm:c1<=maxLen)(hc:chkE ps (endE l0 (E.take k))=0)(S:Fx lo n w b bm t D E k v ps g c0 p c1 d)(X:∀y,Bw w y->Cg 8 #[Pd b 0] y (Rt y (Sx t)))(ho:ordE (Bh ps (E.drop k)) t=0)(hz2:2000<(Aj (Bh ps (E.drop k)) t).length) :
    Cg 87 #[Pd b 0,I6 c,I6 i,I6 (k:Int),v] w (Rt w (I6 12)):=by
 obtain⟨s1,s2,x0,x1,xd,hbl,hgl,hcut⟩:=S;have CI:=Aa s1;have CC:=Aa s2;have CX:=Aa X;obtain⟨q1,q2⟩:=Qx hk hpu hc;have hrm:=hk.room;have hb1:(t.length:Int)+Al (Bh ps (E.drop k))<1000000:=by omega
 have W:=(q1.fine hb1).len;have CA:Hid (∀y v',Ae y v' (Bh ps (E.drop k))->Cg 47 #[v',Sx t] y (Rt y (.tuple #[Sx (if ordE (Bh ps (E.drop k)) t=0 then Aj (Bh ps (E.drop k)) t else []),I6 (ordE (Bh ps (E.drop k)) t)]))):=λy v' ho =>
  IR v' _ t y ho (q1.wf hb1) (λq hq=>by have:=Gh q _ hq;omega) (by omega) W (by omega)
 have Y:=Kw E l0 k hk.chain hk.pos hk.top;have hch:=(OA E l0 k hk.chain).1;have HT:Hid (∀(j:Nat) (hj:j<(E.drop k).length) (v0 C:Value) (w:World),Ae w v0 (Bh ps ((E.drop k).take j))->Ae w C (E.drop k)[j].op->Cg 86 #[v0,C,.bool false] w λe w'=>∃v',e=.returned (.tuple #[v',I6 0])/\opN w.heap.size w' v' (Bh ps ((E.drop k).take (j+1)))/\Bw w w'):=λj hj v0 C w h1 h2=>Ut (l0:=l0) (E:=E) (QL hc) hpu Y.1 Y.2 hch j hj v0 C w h1 h2;have hz:(ByteArray.mk d.toArray).size=d.length:=by simp[ByteArray.size]
 have hk1:¬(300:Int)<=(E.length:Int):=by omega
 have hk2:(k:Int)<(E.length:Int)+1:=by omega
 have hk3:(k:Int)<=(E.length:Int):=by omega
 have hni:(E.length:Int)<=1000:=by omega
 have HR:=Aa hr;have HB:=Aa hbl;rw[if_pos ho,ho]at CA;clear ho;have Q:∃p c,v=.slice p ps.length c:=by obtain⟨⟨p,c,e,_⟩,_⟩:=hr;exact⟨p,c,e⟩
 obtain⟨pv,cv,rfl⟩:=Q;have Z:(E.drop k).length=E.length - k:=AM;generalize hF:E.drop k=F at *;generalize Aj (Bh ps F) t=s' at *;have hs1:(ByteArray.mk s'.toArray).size=s'.length:=by simp[ByteArray.size]
 have hs2:(2000:Int)<(s'.length:Int):=by omega
 clear hz2;have HN:=Aa Z.symm;have hnf:(F.length:Int)<=1000:=by omega
 have U:=Aa hcut;rw[←Z]at U;have hFL:=HN.out;clear s1 s2 hr hpu hbl hgl hcut q1 q2 hrm hb1 W Y hch Z hc0 hcm hk X hc
 by_cases R:c1=k
 . rw [if_pos R,R,BP]at U
   rw[R]at x1;have hck':True:=trivial;clear hc1
   go_enter func87,ntmps87
   go_wp2_with (first
    | (go_at_call 36;refine AC CI.out ?_;rintro e w1 ⟨rfl,hw⟩;obtain rfl:=hw.symm)
    | (go_at_call 78;refine AC CC.out ?_;rintro e w2 ⟨rfl,z⟩;have O:=Aa z;have y1:w2.cell? (Ad b 1)=some (.slice p E.length k):=(zC z b 1 HB.out).trans x1;clear z))
   all_goals
    go_loopw [4,50] (λv4 i wr=>∃j:Nat,i=.int .i64 j/\j<=F.length/\Ar lo wr v4 (Bh ps (F.take j))/\Bw w wr) (λ_ i _=>F.length - (intOf i).toNat)
    case atStart=>exact⟨0,rfl,AV _,Bt HR.out O.out,O.out⟩
    case round =>
     obtain⟨j,rfl,hj,s,B⟩:=hrel;obtain⟨L0,h⟩:∃L,(Bh ps (F.take j)).length=L:=⟨_,rfl⟩;have A:=s;obtain⟨⟨p4,c4,rfl,_⟩,_⟩:=s;have l:=Aa A;have a:=Aa B;rw[h]
     by_cases r:j<F.length
     . have H:F≠[]:=by intro e;rw[e]at r;exact absurd r (AP _)
       have f:=U.out.2.2.2;obtain⟨g',o,ePP,hg,m⟩:=f H;clear f;subst ePP;obtain⟨C,f0,f1,f2,f3⟩:=m j F[j] (B7 r);have g0:=(zC a.out g' (o+j*3) hg).trans f0;have g1:=(zC a.out g' (o+j*3+1) hg).trans f1;have g2:=(zC a.out g' (o+j*3+2) hg).trans f2;have HX:Hid (Ae wr C F[j].op):=Ec f3.1 a.out (Ai _);have hki:(j:Int)<(F.length:Int):=by omega
       have X:=Aa λy (hb:Bw wr y)=>HT.out j r _ C y (Ec l.out.1 hb (Ai _)) (Ec HX.out hb (Ai _));have Q:∃p c,C=.slice p F[j].op.length c:=by obtain⟨p,c,e,_⟩:=HX.out;exact⟨p,c,e⟩
       obtain⟨pe,ce,rfl⟩:=Q;rw[h]at X l;generalize F[j].op.length=L1 at *;generalize F[j]=x at *;obtain⟨xc,xi,xo⟩:=x;simp only at g0 g1;clear m f0 f1 f2 f3 H A B h HN HT U
       go_wp2_with (go_at_call 86;refine(X.out _ (zA _ _)).mono ?_;rintro e w3 ⟨v3,rfl,K,G⟩;have HB3:Hid (Bw w w3):=(a.out.alloc a.out.size _).trans (G.mono (by rw[Bb];have:=a.out.size;omega));have HO3:Hid (Ar lo w3 v3 (Bh ps (F.take (j+1)))):=Ev K;clear G K)
       exact⟨⟨j+1,by go_num,by omega,HO3.out,HB3.out⟩,by simp[intOf];omega⟩
     . obtain rfl:j=F.length:=by omega
       have hki:¬((F.length:Int)<(F.length:Int)):=by omega
       have J:F.take F.length=F:=BV;rw[J]at l h;have HOQ:Hid (Ar lo wr (.slice p4 L0 c4) (Bh ps F)):=by have:=l.out;rw[h]at this;exact this
       clear A B l h HN HT J U
       go_wp2_with (first
        | (go_at_call 8;refine(CX.out _ a.out).mono ?_;rintro e w5 ⟨rfl,u⟩;have I:=Aa (a.out.trans (u.mono a.out.size));have HO5:=Aa ((Bt HOQ.out u).1);clear u)
        | (go_at_call 47;refine(CA.out _ _ HO5.out).mono ?_;rintro e w6 ⟨rfl,N⟩;have HB6:=Aa (I.out.trans (N.mono I.out.size));clear N))
       go_ret;exact⟨rfl,HB6.out⟩
 . rw [if_neg R]at U
   go_enter func87,ntmps87
   go_wp2_with (first
    | (go_at_call 36;refine AC CI.out ?_;rintro e w1 ⟨rfl,hw⟩;obtain rfl:=hw.symm)
    | (go_at_call 78;refine AC CC.out ?_;rintro e w2 ⟨rfl,z⟩;have O:=Aa z;have y1:w2.cell? (Ad b 1)=some (.slice p E.length c1):=(zC z b 1 HB.out).trans x1;clear z))
   all_goals
    generalize Option.map (λx=>x.add (k*3)) p=P at *
    go_loopw [4,50] (λv4 i wr=>∃j:Nat,i=.int .i64 j/\j<=F.length/\Ar lo wr v4 (Bh ps (F.take j))/\Bw w wr) (λ_ i _=>F.length - (intOf i).toNat)
    case atStart=>exact⟨0,rfl,AV _,Bt HR.out O.out,O.out⟩
    case round =>
     obtain⟨j,rfl,hj,s,B⟩:=hrel;obtain⟨L0,h⟩:∃L,(Bh ps (F.take j)).length=L:=⟨_,rfl⟩;have A:=s;obtain⟨⟨p4,c4,rfl,_⟩,_⟩:=s;have l:=Aa A;have a:=Aa B;rw[h]
     by_cases r:j<F.length
     . have H:F≠[]:=by intro e;rw[e]at r;exact absurd r (AP _)
       have f:=U.out.2.2.2;obtain⟨g',o,ePP,hg,m⟩:=f H;clear f;subst ePP;obtain⟨C,f0,f1,f2,f3⟩:=m j F[j] (B7 r);have g0:=(zC a.out g' (o+j*3) hg).trans f0;have g1:=(zC a.out g' (o+j*3+1) hg).trans f1;have g2:=(zC a.out g' (o+j*3+2) hg).trans f2;have HX:Hid (Ae wr C F[j].op):=Ec f3.1 a.out (Ai _);have hki:(j:Int)<(F.length:Int):=by omega
       have X:=Aa λy (hb:Bw wr y)=>HT.out j r _ C y (Ec l.out.1 hb (Ai _)) (Ec HX.out hb (Ai _));have Q:∃p c,C=.slice p F[j].op.length c:=by obtain⟨p,c,e,_⟩:=HX.out;exact⟨p,c,e⟩
       obtain⟨pe,ce,rfl⟩:=Q;rw[h]at X l;generalize F[j].op.length=L1 at *;generalize F[j]=x at *;obtain⟨xc,xi,xo⟩:=x;simp only at g0 g1;clear m f0 f1 f2 f3 H A B h HN HT U
       go_wp2_with (go_at_call 86;refine(X.out _ (zA _ _)).mono ?_;rintro e w3 ⟨v3,rfl,K,G⟩;have HB3:Hid (Bw w w3):=(a.out.alloc a.out.size _).trans (G.mono (by rw[Bb];have:=a.out.size;omega));have HO3:Hid (Ar lo w3 v3 (Bh ps (F.take (j+1)))):=Ev K;clear G K)
       exact⟨⟨j+1,by go_num,by omega,HO3.out,HB3.out⟩,by simp[intOf];omega⟩
     . obtain rfl:j=F.length:=by omega
       have hki:¬((F.length:Int)<(F.length:Int)):=by omega
       have J:F.take F.length=F:=BV;rw[J]at l h;have HOQ:Hid (Ar lo wr (.slice p4 L0 c4) (Bh ps F)):=by have:=l.out;rw[h]at this;exact this
       clear A B l h HN HT J U
       go_wp2_with (first
        | (go_at_call 8;refine(CX.out _ a.out).mono ?_;rintro e w5 ⟨rfl,u⟩;have I:=Aa (a.out.trans (u.mono a.out.size));have HO5:=Aa ((Bt HOQ.out u).1);clear u)
        | (go_at_call 47;refine(CA.out _ _ HO5.out).mono ?_;rintro e w6 ⟨rfl,N⟩;have HB6:=Aa (I.out.trans (N.mono I.out.size));clear N))
       go_ret;exact⟨rfl,HB6.out⟩
theorem ie{lo n:Nat}{w:World}{b bm:Nat}{t:List UInt8}{D:List (List UInt8)}{E:List SE}{M:Cd}{l0:Int}(y:Gz l0 t E)(c i:Int)(k:Nat)(v:Value)(ps:List Pt){g c0:Nat}{p:Option Addr}{X:Nat}{d:List UInt8}(hr:Ar lo w v ps)(hpu:Al ps<=40000)(hkl:k<=E.length)(hn:E.length<300)(hc1:E.length<=X)(hc0:E.length+1<=c0)(hcm:X<=maxLen)(hc:chkE ps (endE l0 (E.take k))=0)(S:Fx lo n w b bm t D E k v ps g c0 p X d)(CT:∀H,Bw w H->Cg 8 #[Pd b 0] H (Rt H (Sx t)))(ho:ordE (Bh ps (E.drop k)) t=0)(hz2:(Aj (Bh ps (E.drop k)) t).length<=2000)(hs:Fq lo n w b bm D E M)(hDl:D.length=E.length+1)(h3:w.heap[b]?=some (Oc #[Sl g (E.length+1) c0,.slice p E.length X,.map (some bm)] 67))(h30:w.ownsRow lo 9 1 (Sl g (E.length+1) c0) (E.length+1) (Jg D))(hlg:Fa 58 lo lo w (.slice p E.length X) E) :
    Cg 87 #[Pd b 0,I6 c,I6 i,I6 (k:Int),v] w λe w'=>e=.returned (I6 0)/\Fq lo n w' b bm (D++[Aj (Bh ps (E.drop k)) t]) (E++[⟨c,i,Bh ps (E.drop k)⟩]) M/\sameBut w w' (Jw lo w bm):=by
 obtain⟨s1,s2,x0,x1,xd,hbl,hgl,hcut⟩:=S;have CI:=Aa s1;have CC:=Aa s2;have CX:=Aa CT;obtain⟨q1,q2⟩:=Qx y hpu hc;have hrm:=y.room;have hb1:(t.length:Int)+Al (Bh ps (E.drop k))<1000000:=by omega
 have hlen:=(q1.fine hb1).len;have CA:Hid (∀H U,Ae H U (Bh ps (E.drop k))->Cg 47 #[U,Sx t] H (Rt H (.tuple #[Sx (if ordE (Bh ps (E.drop k)) t=0 then Aj (Bh ps (E.drop k)) t else []),I6 (ordE (Bh ps (E.drop k)) t)]))):=λH U ho =>
  IR U _ t H ho (q1.wf hb1) (λq hq=>by have:=Gh q _ hq;omega) (by omega) hlen (by omega)
 have hle:=Kw E l0 k y.chain y.pos y.top;have hch:=(OA E l0 k y.chain).1;have HT:Hid (∀(j:Nat) (hj:j<(E.drop k).length) (v0 ve:Value) (w:World),Ae w v0 (Bh ps ((E.drop k).take j))->Ae w ve (E.drop k)[j].op->Cg 86 #[v0,ve,.bool false] w λe w'=>∃U,e=.returned (.tuple #[U,I6 0])/\opN w.heap.size w' U (Bh ps ((E.drop k).take (j+1)))/\Bw w w'):=λj hj v0 ve w h1 h2=>Ut (l0:=l0) (E:=E) (QL hc) hpu hle.1 hle.2 hch j hj v0 ve w h1 h2;have hz:(ByteArray.mk d.toArray).size=d.length:=by simp[ByteArray.size]
 have hk1:¬(300:Int)<=(E.length:Int):=by omega
 have hk2:(k:Int)<(E.length:Int)+1:=by omega
 have hk3:(k:Int)<=(E.length:Int):=by omega
 have hni:(E.length:Int)<=1000:=by omega
 have HR:=Aa hr;have HB:=Aa hbl;rw[if_pos ho,ho]at CA;clear ho;obtain⟨i0,hi,hq0,hq1,hq2⟩:=info_parts jx;obtain⟨i1,hj,hp0,hp1,hp2⟩:=info_parts jy;have HI:=Aa hi;have HQ0:=Aa hq0;have HQ1:=Aa hq1;have HQ2:=Aa hq2;have HJ:=Aa hj;have HP0:=Aa hp0;have HP1:=Aa hp1;have HP2:=Aa hp2;clear hi hq0 hq1 hq2 hj hp0 hp1 hp2;have HLO:Hid (lo<=b):=hs.1
 have PUSH:Hid (∀(q:List Pt) (W:List UInt8) w4 U,Bw w w4->Ar lo w4 U q->(w4.alloc (Oc #[Sx W] 9)).ownsRow lo 9 1 (Sl g (E.length+1) c0) (E.length+1) (Jg D)/\w4.cell? (Ad b 0)=some (Sl g (E.length+1) c0)/\∀C v2,C.ownsRow lo 9 1 v2 (E.length+1+1) (Jg D++[Sx W])->(w4.alloc (Oc #[Sx W] 9)).grownBy C (Sl g (E.length+1) c0).ownBlock ->
     C.cell? (Ad b 0)=some (Sl g (E.length+1) c0)/\C.frozen? (Ad b 0)=false/\(C.setCell (Ad b 0) v2).cell? (Ad b 1)=some (.slice p E.length X)/\∃vs,vs.length=E.length/\((C.setCell (Ad b 0) v2).alloc (Oc #[I6 c,I6 i,U] 58)).ownsRow lo 58 3 (.slice p E.length X) E.length (D8 E vs)/\∀Z N,Z.ownsRow lo 58 3 N (E.length+1) (D8 E vs++[I6 c,I6 i,U])->((C.setCell (Ad b 0) v2).alloc (Oc #[I6 c,I6 i,U] 58)).grownBy Z (Value.slice p E.length X).ownBlock ->
      Z.cell? (Ad b 1)=some (.slice p E.length X)/\Z.frozen? (Ad b 1)=false/\Fq lo n (Z.setCell (Ad b 1) N) b bm (D++[W]) (E++[⟨c,i,q⟩]) M/\sameBut w (Z.setCell (Ad b 1) N) (Jw lo w bm)):=λq W w4 U hb4 hx=>by
  obtain⟨g1,g2,_,g4⟩:=hs;have Y:w4.heap[b]?=some (Oc #[Sl g (E.length+1) c0,.slice p E.length X,.map (some bm)] 67):=(hb4.block b hbl).trans h3;have hdoc:=Fe h30 hb4;rw[←hDl]at hdoc Y ⊢;obtain⟨t1,t2⟩:=dA (e:=58) (d:=W) (by decide) (by decide) (by decide) (by decide) (by decide) g1 Y hdoc (Mb hlg hb4);refine⟨t1,Az Y 0,λC v2 hn6 hg6=>?_⟩;obtain⟨y1,y2,y3,y4,y5,y6⟩:=t2 C v2 hn6 hg6
  have hst:∀k,(Sl g D.length c0).ownBlock=some k->lo<=k/\∃cs,w.heap[k]?=some (Oc cs 9):=λk y=>by
   rcases h30.2 with ⟨e,_⟩|⟨g',cap,cur,e,h3',h4',_⟩
   . cases e
   . injection e with e1 _ _
     obtain rfl:g=k:=Bq y;have:g=g':=by injection Bq e1
     subst this;exact⟨h3',_,h4'⟩
  have hx6:Ar lo (C.setCell (Ad b 0) v2) U q:=Eu hx y6 λk y hS=>by
   rcases hS with rfl|hS
   . exact⟨g1,C6 Y (by decide)⟩
   . obtain⟨a,cs,hcs⟩:=hst k hS
     exact⟨a,C6 ((hb4.block k (As hcs)).trans hcs) (by decide)⟩
  obtain⟨vs,u1,u2,u3⟩:=WC (x:=⟨c,i,q⟩) (vx:=U) (by decide) (by decide) (by decide) g1 y3 y5 hx6;refine⟨y1,y2,Az y3 1,vs,u1,u2,λZ N hn8 O=>?_⟩;obtain⟨z1,z2,z3,z4,z5⟩:=u3 Z N (by rw[←hDl];exact hn8) O;have hS:sameBut w (Z.setCell (Ad b 1) N) (λk=>k=b\/(Sl g D.length c0).ownBlock=some k\/(Value.slice p E.length X).ownBlock=some k):=((Cf hb4 _).comp y6 λk _ h=>h.elim .inl λh=>.inr (.inl h)).comp z5 λk _ h=>h.elim .inl λh=>.inr (.inr h)
  have l:∀k,(k=b\/(Sl g D.length c0).ownBlock=some k\/(Value.slice p E.length X).ownBlock=some k)->lo<=k/\∃cs T,w.heap[k]?=some (Oc cs T)/\(T=67\/T=58\/T=9):=λk y=>by
   rcases y with rfl|y|y
   . exact⟨g1,_,_,h3,.inl rfl⟩
   . obtain⟨a1,cs,a2⟩:=hst k y
     exact⟨a1,cs,_,a2,.inr (.inr rfl)⟩
   . obtain⟨a1,_,cs,a2⟩:=J5 hlg y
     exact⟨a1,cs,_,a2,.inr (.inl rfl)⟩
  refine⟨z1,z2,⟨g1,g2,⟨v2,N,z3,GZ y4 z5 λk y hS=>?_,z4⟩,J9 g4 hS λy=>?_⟩,hS.mono λk _ y=>⟨(l k y).1,.inr (l k y).2⟩⟩
  . rcases y4.2 with ⟨rfl,_⟩ | ⟨g',cap,cur,rfl,e1,e2,_⟩
    . cases y
    . obtain rfl:g'=k:=Bq y
      rcases hS with rfl|hS
      . exact absurd (Cx y3 e2) (by decide)
      . obtain⟨_,_,cs,a2⟩:=J5 y5 hS
        exact absurd (Cx a2 e2) (by decide)
  . obtain⟨_,cs,T,hc,_⟩:=l bm y
    exact F9 g4 _ _ _ hc
 have hsh:∃p c,v=.slice p ps.length c:=by obtain⟨⟨p,c,e,_⟩,_⟩:=hr;exact⟨p,c,e⟩
 obtain⟨pv,cv,rfl⟩:=hsh;have hdl:(E.drop k).length=E.length - k:=AM;generalize hF:E.drop k=F at *;generalize Aj (Bh ps F) t=W at *;have hs1:(ByteArray.mk W.toArray).size=W.length:=by simp[ByteArray.size]
 have hs2:¬(2000:Int)<(W.length:Int):=by omega
 clear hz2 hs h3 h30 hlg;have HN:=Aa hdl.symm;have hnf:(F.length:Int)<=1000:=by omega
 have HE:=Aa hcut;rw[←hdl]at HE;have hFL:=HN.out;clear s1 s2 hr hpu hbl hgl hcut q1 q2 hrm hb1 hlen hle hch hdl hc0 hcm y CT hc
 by_cases hck:X=k
 . rw [if_pos hck,hck,BP]at HE
   rw[hck]at x1;rw[hck]at PUSH;have hck':True:=trivial;clear hc1
   go_enter func87,ntmps87
   go_wp2_with (first
    | (go_at_call 36;refine AC CI.out ?_;rintro e w1 ⟨rfl,hw⟩;obtain rfl:=hw.symm)
    | (go_at_call 78;refine AC CC.out ?_;rintro e w2 ⟨rfl,I⟩;have HB2:=Aa I;have y1:w2.cell? (Ad b 1)=some (.slice p E.length k):=(zC I b 1 HB.out).trans x1;clear I))
   all_goals
    go_loopw [4,50] (λv4 i wr=>∃j:Nat,i=.int .i64 j/\j<=F.length/\Ar lo wr v4 (Bh ps (F.take j))/\Bw w wr) (λ_ i _=>F.length - (intOf i).toNat)
    case atStart=>exact⟨0,rfl,AV _,Bt HR.out HB2.out,HB2.out⟩
    case round =>
     obtain⟨j,rfl,hj,B,K⟩:=hrel;obtain⟨L0,u⟩:∃L,(Bh ps (F.take j)).length=L:=⟨_,rfl⟩;have J:=B;obtain⟨⟨p4,c4,rfl,_⟩,_⟩:=B;have z:=Aa J;have f:=Aa K;rw[u]
     by_cases A:j<F.length
     . have hne:F≠[]:=by intro e;rw[e]at A;exact absurd A (AP _)
       have s:=HE.out.2.2.2;obtain⟨g',o,ePP,hg,l⟩:=s hne;clear s;subst ePP;obtain⟨ve,f0,f1,f2,f3⟩:=l j F[j] (B7 A);have g0:=(zC f.out g' (o+j*3) hg).trans f0;have g1:=(zC f.out g' (o+j*3+1) hg).trans f1;have g2:=(zC f.out g' (o+j*3+2) hg).trans f2;have HX:Hid (Ae wr ve F[j].op):=Ec f3.1 f.out (Ai _);have hki:(j:Int)<(F.length:Int):=by omega
       have CT:=Aa λH (hb:Bw wr H)=>HT.out j A _ ve H (Ec z.out.1 hb (Ai _)) (Ec HX.out hb (Ai _));have hsh:∃p c,ve=.slice p F[j].op.length c:=by obtain⟨p,c,e,_⟩:=HX.out;exact⟨p,c,e⟩
       obtain⟨pe,ce,rfl⟩:=hsh;rw[u]at CT z;generalize F[j].op.length=L1 at *;generalize F[j]=x at *;obtain⟨xc,xi,xo⟩:=x;simp only at g0 g1;clear l f0 f1 f2 f3 hne J K u HN HT HE
       go_wp2_with (go_at_call 86;refine(CT.out _ (zA _ _)).mono ?_;rintro e w3 ⟨N,rfl,ho3,hb3⟩;have HB3:Hid (Bw w w3):=(f.out.alloc f.out.size _).trans (hb3.mono (by rw[Bb];have:=f.out.size;omega));have HO3:Hid (Ar lo w3 N (Bh ps (F.take (j+1)))):=Ev ho3;clear hb3 ho3)
       exact⟨⟨j+1,by go_num,by omega,HO3.out,HB3.out⟩,by simp[intOf];omega⟩
     . obtain rfl:j=F.length:=by omega
       have hki:¬((F.length:Int)<(F.length:Int)):=by omega
       have HTK:F.take F.length=F:=BV;rw[HTK]at z u;have HOQ:Hid (Ar lo wr (.slice p4 L0 c4) (Bh ps F)):=by have:=z.out;rw[u]at this;exact this
       clear J K z u HN HT HTK HE
       go_wp2_with (first
        | (go_at_call 8;refine(CX.out _ f.out).mono ?_;rintro e w5 ⟨rfl,G⟩;have HB5:=Aa (f.out.trans (G.mono f.out.size));have HO5:=Aa (Bt HOQ.out G);clear G)
        | (go_at_call 47;refine(CA.out _ _ HO5.out.1).mono ?_;rintro e C ⟨rfl,Q⟩;have HB6:=Aa (HB5.out.trans (Q.mono HB5.out.size));obtain⟨r1,r2,r3⟩:=PUSH.out (Bh ps F) W C (.slice p4 L0 c4) HB6.out (Bt HO5.out Q);have R1:=Aa r1;have R3:=Aa r3;have HLS:=Aa (CW (DV HLO.out (AK HB.out HB6.out.size)));clear Q r1 r3)
        | (at_builtin;refine wpList_append_own _ rfl _ _ 63 rfl lo 9 i1 (.string ⟨#[]⟩) 1 16 underlying63 HJ.out HP0.out HP1.out HP2.out rfl (by decide) _ _ _ rfl R1.out (Ad C.heap.size 0) 1 1 [Sx W] rfl rfl (Me _ _ (by first | rfl | simp) _ _) (YB _) (by unfold maxLen;omega) (by omega) (by have:=HLS.out;simp;omega) ?_))
       intro v2 w7 r R _;obtain⟨y1,y2,y3,vs,y4,y5,y6⟩:=R3.out w7 v2 r R;have Y5:=Aa y5;have Y6:=Aa y6;have HL7:Hid (lo<=w7.heap.size):=AF HLS.out (AF (by simp) R.size);obtain⟨p7,c7,rfl⟩:=Bm r;clear r R y5 y6
       go_wp2_with (at_builtin;refine wpList_append_own _ rfl _ _ 64 rfl lo 58 i0 (.agg #[I6 0,I6 0,.slice none 0 0]) 3 40 underlying64 HI.out HQ0.out HQ1.out HQ2.out rfl (by decide) _ _ _ rfl Y5.out (Ad w7.heap.size 0) 1 1 [I6 c,I6 i,.slice p4 L0 c4] rfl rfl (Me _ _ (by first | rfl | simp) _ _) (Qz _ _ _ _ _) (by unfold maxLen;omega) (by omega) (by have:=HL7.out;simp;omega) ?_)
       intro N Z m O _;obtain⟨z1,z2,z3,z4⟩:=Y6.out Z N m O;have Z3:=Aa z3;have Z4:=Aa z4;obtain⟨p8,c8,rfl⟩:=Bm m;clear m O z3 z4;go_wp2;go_ret;exact⟨rfl,Z3.out,Z4.out⟩
 . rw [if_neg hck]at HE
   go_enter func87,ntmps87
   go_wp2_with (first
    | (go_at_call 36;refine AC CI.out ?_;rintro e w1 ⟨rfl,hw⟩;obtain rfl:=hw.symm)
    | (go_at_call 78;refine AC CC.out ?_;rintro e w2 ⟨rfl,I⟩;have HB2:=Aa I;have y1:w2.cell? (Ad b 1)=some (.slice p E.length X):=(zC I b 1 HB.out).trans x1;clear I))
   all_goals
    generalize Option.map (λx=>x.add (k*3)) p=P at *
    go_loopw [4,50] (λv4 i wr=>∃j:Nat,i=.int .i64 j/\j<=F.length/\Ar lo wr v4 (Bh ps (F.take j))/\Bw w wr) (λ_ i _=>F.length - (intOf i).toNat)
    case atStart=>exact⟨0,rfl,AV _,Bt HR.out HB2.out,HB2.out⟩
    case round =>
     obtain⟨j,rfl,hj,B,K⟩:=hrel;obtain⟨L0,u⟩:∃L,(Bh ps (F.take j)).length=L:=⟨_,rfl⟩;have J:=B;obtain⟨⟨p4,c4,rfl,_⟩,_⟩:=B;have z:=Aa J;have f:=Aa K;rw[u]
     by_cases A:j<F.length
     . have hne:F≠[]:=by intro e;rw[e]at A;exact absurd A (AP _)
       have s:=HE.out.2.2.2;obtain⟨g',o,ePP,hg,l⟩:=s hne;clear s;subst ePP;obtain⟨ve,f0,f1,f2,f3⟩:=l j F[j] (B7 A);have g0:=(zC f.out g' (o+j*3) hg).trans f0;have g1:=(zC f.out g' (o+j*3+1) hg).trans f1;have g2:=(zC f.out g' (o+j*3+2) hg).trans f2;have HX:Hid (Ae wr ve F[j].op):=Ec f3.1 f.out (Ai _);have hki:(j:Int)<(F.length:Int):=by omega
       have CT:=Aa λH (hb:Bw wr H)=>HT.out j A _ ve H (Ec z.out.1 hb (Ai _)) (Ec HX.out hb (Ai _));have hsh:∃p c,ve=.slice p F[j].op.length c:=by obtain⟨p,c,e,_⟩:=HX.out;exact⟨p,c,e⟩
       obtain⟨pe,ce,rfl⟩:=hsh;rw[u]at CT z;generalize F[j].op.length=L1 at *;generalize F[j]=x at *;obtain⟨xc,xi,xo⟩:=x;simp only at g0 g1;clear l f0 f1 f2 f3 hne J K u HN HT HE
       go_wp2_with (go_at_call 86;refine(CT.out _ (zA _ _)).mono ?_;rintro e w3 ⟨N,rfl,ho3,hb3⟩;have HB3:Hid (Bw w w3):=(f.out.alloc f.out.size _).trans (hb3.mono (by rw[Bb];have:=f.out.size;omega));have HO3:Hid (Ar lo w3 N (Bh ps (F.take (j+1)))):=Ev ho3;clear hb3 ho3)
       exact⟨⟨j+1,by go_num,by omega,HO3.out,HB3.out⟩,by simp[intOf];omega⟩
     . obtain rfl:j=F.length:=by omega
       have hki:¬((F.length:Int)<(F.length:Int)):=by omega
       have HTK:F.take F.length=F:=BV;rw[HTK]at z u;have HOQ:Hid (Ar lo wr (.slice p4 L0 c4) (Bh ps F)):=by have:=z.out;rw[u]at this;exact this
       clear J K z u HN HT HTK HE
       go_wp2_with (first
        | (go_at_call 8;refine(CX.out _ f.out).mono ?_;rintro e w5 ⟨rfl,G⟩;have HB5:=Aa (f.out.trans (G.mono f.out.size));have HO5:=Aa (Bt HOQ.out G);clear G)
        | (go_at_call 47;refine(CA.out _ _ HO5.out.1).mono ?_;rintro e C ⟨rfl,Q⟩;have HB6:=Aa (HB5.out.trans (Q.mono HB5.out.size));obtain⟨r1,r2,r3⟩:=PUSH.out (Bh ps F) W C (.slice p4 L0 c4) HB6.out (Bt HO5.out Q);have R1:=Aa r1;have R3:=Aa r3;have HLS:=Aa (CW (DV HLO.out (AK HB.out HB6.out.size)));clear Q r1 r3)
        | (at_builtin;refine wpList_append_own _ rfl _ _ 63 rfl lo 9 i1 (.string ⟨#[]⟩) 1 16 underlying63 HJ.out HP0.out HP1.out HP2.out rfl (by decide) _ _ _ rfl R1.out (Ad C.heap.size 0) 1 1 [Sx W] rfl rfl (Me _ _ (by first | rfl | simp) _ _) (YB _) (by unfold maxLen;omega) (by omega) (by have:=HLS.out;simp;omega) ?_))
       intro v2 w7 r R _;obtain⟨y1,y2,y3,vs,y4,y5,y6⟩:=R3.out w7 v2 r R;have Y5:=Aa y5;have Y6:=Aa y6;have HL7:Hid (lo<=w7.heap.size):=AF HLS.out (AF (by simp) R.size);obtain⟨p7,c7,rfl⟩:=Bm r;clear r R y5 y6
       go_wp2_with (at_builtin;refine wpList_append_own _ rfl _ _ 64 rfl lo 58 i0 (.agg #[I6 0,I6 0,.slice none 0 0]) 3 40 underlying64 HI.out HQ0.out HQ1.out HQ2.out rfl (by decide) _ _ _ rfl Y5.out (Ad w7.heap.size 0) 1 1 [I6 c,I6 i,.slice p4 L0 c4] rfl rfl (Me _ _ (by first | rfl | simp) _ _) (Qz _ _ _ _ _) (by unfold maxLen;omega) (by omega) (by have:=HL7.out;simp;omega) ?_)
       intro N Z m O _;obtain⟨z1,z2,z3,z4⟩:=Y6.out Z N m O;have Z3:=Aa z3;have Z4:=Aa z4;obtain⟨p8,c8,rfl⟩:=Bm m;clear m O z3 z4;go_wp2;go_ret;exact⟨rfl,Z3.out,Z4.out⟩
variable {lo n b bm : Nat}{w : World}{t : List UInt8}{D : List (List UInt8)}{E : List SE}{M : Cd}{l0 c : Int}
def doD (l0:Int) (t:List UInt8) (E:List SE) (D:List (List UInt8)) (rev:Int) (ps:List Pt):List (List UInt8):=if D4 l0 t E rev ps=0 then D++[Aj (Bh ps (E.drop rev.toNat)) t] else D
theorem Qn{w':World}{i rev:Int}{ps:List Pt}(h:Fq lo n w b bm D E M)(a:Bw w w')(d:D4 l0 t E rev ps≠0) :
    Fq lo n w' b bm (doD l0 t E D rev ps) (doL l0 t E c i rev ps) M/\sameBut w w' (Jw lo w bm):=by
 unfold doD doL;rw[if_neg d,if_neg d];exact⟨QJ h a,Cf a _⟩
theorem du(h:Gz l0 t E)(a:Hx l0 t E D){ps:List Pt}{c i rev:Int}(q:Al ps<=40000):Gz l0 (doT l0 t E rev ps) (doL l0 t E c i rev ps)/\Hx l0 (doT l0 t E rev ps) (doL l0 t E c i rev ps) (doD l0 t E D rev ps):=by
 unfold doT doL doD
 by_cases f:D4 l0 t E rev ps=0
 . rw [if_pos f,if_pos f,if_pos f]
   have j:=Lr (c:=c) (i:=i) h q f;refine⟨j,⟨by simp[a.len],λk l=>?_,?_⟩⟩
   . rw [AA,DN]at l
     rcases CQ k (E.length+1) with g|m
     . obtain⟨d,o,p⟩:=a.at_ k (by omega)
       refine⟨d,by rw[AX (by rw[a.len];exact g)];exact o,?_⟩;rw[List.take_append_of_le_length (by omega)];exact p
     . obtain rfl:k=E.length+1:=by omega
       refine⟨_,by rw[AL (by rw[a.len];exact Ai _),a.len,BP];rfl,?_⟩;have e:(E++[(⟨c,i,Bh ps (E.drop rev.toNat)⟩:SE)]).take (E.length+1)=E++[⟨c,i,Bh ps (E.drop rev.toNat)⟩]:=AQ (by simp);rw[e];exact j.last.symm
   . rw[AA,DN,AL (by rw[a.len];exact Ai _),a.len,BP]
     rfl
 . rw[if_neg f,if_neg f,if_neg f]
   exact⟨h,a⟩
theorem jL(h:Fq lo n w b bm D E M){l0:Int}(z:Gz l0 t E)(J:Hx l0 t E D)(c i rev:Int)(v:Value)(ps:List Pt)(F:Ar lo w v ps)(H:∀p∈ps,Cp p)(G:∀p∈ps,p.put.length<=40000)(hl:ps.length<=1000000)(y:Al ps<=40000)(K:E.length<=300) :
    Cg 87 #[Pd b 0,I6 c,I6 i,I6 rev,v] w λe w'=>e=.returned (I6 (D4 l0 t E rev ps))/\Fq lo n w' b bm (doD l0 t E D rev ps) (doL l0 t E c i rev ps) M/\sameBut w w' (Jw lo w bm):=by
 by_cases x:rev<0\/(E.length:Int)<rev
 . have a:D4 l0 t E rev ps=2:=if_pos x
   refine(kY h c i rev v x).mono ?_;rintro e w' ⟨rfl,l⟩;exact⟨by rw[a],Qn h l (by rw[a];decide)⟩
 . obtain ⟨k,rfl⟩:∃k:Nat,rev=(k:Int):=⟨rev.toNat,by omega⟩
   have j:k<=E.length:=by omega
   have P:((k:Int)).toNat=k:=rfl
   by_cases f:300<=E.length
   . have a:D4 l0 t E k ps=4:=by
       unfold D4;rw[if_neg x,if_pos f]
     refine(jM h c i k v j f (by omega)).mono ?_;rintro e w' ⟨rfl,l⟩;exact⟨by rw[a],Qn h l (by rw[a];decide)⟩
   have L:¬(300<=E.length):=f;have K:E.length<300:=by omega
   by_cases m:chkE ps (endE l0 (E.take k))=0
   . have Q:∀O,Bw w O->Cg 8 #[Pd b 0] O (Rt O (Sx t)):=λO l=>UX (QJ h l) J (by omega)
     obtain⟨g1,g2,⟨v0,v1,I,r,N⟩,h5⟩:=id h;obtain⟨p,c1,rfl⟩:=Io N;obtain⟨p0,Z,rfl⟩:=Bm r;obtain⟨d,a,C⟩:=J.at_ k j;obtain⟨g,rfl,_,o,X,W,s⟩:=Tj r a;obtain⟨_,u,B,_⟩:=Of N;have Y:=Kw E l0 k z.chain z.pos z.top;have U:Hq (k:Int) 0 E.length=true:=by unfold Hq;simp;omega
     rw[J.len]at I r o
     have S:Fx lo n w b bm t D E k v ps g Z p c1 d:=by
      refine⟨?_,?_,Az I 0,Az I 1,s,(As I),W,T7 (Of N) j⟩
      . have:=Jk (k:Int) 0 E.length w;rw[U]at this;exact this
      . have:=MR v ps (d.length:Int) w F.1 H (λq hq=>by have:=G q hq;omega) (by omega) (by omega)
        rw[C,m]at this;rw[C];exact this
     by_cases A:ordE (Bh ps (E.drop k)) t=0
     . by_cases R:2000<(Aj (Bh ps (E.drop k)) t).length
       . have a:D4 l0 t E k ps=12:=by
           unfold D4;rw[if_neg x,if_neg L,P,if_neg (by rw[m];decide),if_neg (by rw[A];decide),if_pos R]
         refine(kz (M:=M) z c i k v ps F y j K u o B m S Q A R).mono ?_;rintro e w' ⟨rfl,l⟩;exact⟨by rw[a],Qn h l (by rw[a];decide)⟩
       . have a:D4 l0 t E k ps=0:=by
           unfold D4;rw[if_neg x,if_neg L,P,if_neg (by rw[m];decide),if_neg (by rw[A];decide),if_neg R]
         refine(ie z c i k v ps F y j K u o B m S Q A (by omega) h J.len I r N).mono ?_;rintro e w' ⟨rfl,ha,l⟩;refine⟨by rw[a],?_,l⟩;unfold doD doL;rw[if_pos a,if_pos a];exact ha
     . have a:D4 l0 t E k ps=ordE (Bh ps (E.drop k)) t:=by
         unfold D4;rw[if_neg x,if_neg L,P,if_neg (by rw[m];decide),if_pos A]
       refine(kW (M:=M) z c i k v ps F y j K u o B m S Q A).mono ?_;rintro e w' ⟨rfl,l⟩;exact⟨by rw[a],Qn h l (by rw[a];exact A)⟩
   . have a:D4 l0 t E k ps=chkE ps (endE l0 (E.take k)):=by
       unfold D4;rw[if_neg x,if_neg L,P,if_pos m]
     refine(kX h z J c i k v ps F.1 H G hl j K m).mono ?_;rintro e w' ⟨rfl,l⟩;exact⟨by rw[a],Qn h l (by rw[a];exact m)⟩
theorem Wz:(prog.info? 168).map (·.zero)=some (some (.agg #[I6 0,I6 0])):=by kernel_rfl
theorem cW(h:1<=(Ew M c).1):(M c).isSome=true:=by
 unfold Ew at h
 cases e:M c with
 | none=>rw[e]at h;exact absurd h (by decide)
 | some x=>rfl
theorem jQ(h:Fq lo n w b bm D E M)(c i rev:Int)(m:IW c)(v:Value)(q:1<=i)(d:i<=(Ew M c).1) :
    Cg 54 #[Pd b 0,I6 c,I6 i,I6 rev,v] w (Rt w (I6 (if i<(Ew M c).1 then 8 else (Ew M c).2))):=by
 obtain⟨_,_,⟨s,r,e,_,_⟩,g⟩:=h;have o:=cQ e 2 rfl;have l:=aC g (t:=65) underlying65 (Ns Wz w) m;rw[cW (by omega)]at l;have L:=Aa l;obtain⟨k,a⟩:∃x,Ew M c=x:=⟨_,rfl⟩;rw[a]at d L ⊢;obtain⟨j,p⟩:=k;simp only at d L ⊢;clear e g l a
 by_cases f:i<j
 . rw[if_pos f]
   go_enter func54,ntmps54
   go_wp2_with (rw[L.out])
   go_ret;exact⟨rfl,zA _ _⟩
 . rw[if_neg f]
   go_enter func54,ntmps54
   go_wp2_with (rw[L.out])
   go_ret;exact⟨rfl,zA _ _⟩
end
section
attribute [local go_sem] Oper.semAt_some
theorem Yz(t:TypeId)(w:World):(Instr.makeMap t none).run prog w=.ok (.map (some w.heap.size)) (w.alloc (.map #[] 0)):=rfl
attribute [local go_sem] Yz
theorem iH(s:List UInt8)(p:s.length<=1000000)(d:(scan s).2=false)(w:World)(l:Lib.Utf8Tabs 1 2 w):Cg 32 #[Sx s] w λe w'=>∃x g,e=.returned (.tuple #[.pointer none,x])/\Fi w g x (Gs s)/\Bw g w'/\Bw w w':=by
 have j:Hid (Cg 62 #[Sx s] w λe w'=>∃b,e=.returned (.tuple #[Ia 0 0 0 0,.iface 132 (Pd b 0)])/\Fi w w' (.iface 132 (Pd b 0)) (Gs s)/\Bw w w') :=
  (Uh ⟨s.toArray⟩ (by simp[ByteArray.size];omega) w l).mono λe w' ⟨v,x,r,u,i⟩=>by
    have o:(ByteArray.mk s.toArray).data.toList=s:=rfl;rw[o]at i
    rcases i with ⟨k,_⟩|⟨_,rfl,m⟩
    . rw[d]at k;cases k
    . have y:=m
      obtain⟨b,rfl,_⟩:=y;exact⟨b,r,m,u⟩
 unfold Ia at j;clear l p d;generalize ByteArray.mk s.toArray=S at *
 go_enter func32,ntmps32
 go_wp2_with (go_at_call 62;refine AC j.out ?_;rintro e g ⟨b,rfl,h,a⟩;have q:=Aa h;have f:=Aa a;clear h a)
 go_ret2
 exact⟨_,g,rfl,q.out,zA _ _,f.out.alloc f.out.size _⟩
theorem Vb(s:List UInt8)(p:s.length<=1000000)(a:(scan s).2=true)(w:World)(i:Lib.Utf8Tabs 1 2 w):Cg 62 #[Sx s] w λe w'=>∃k l h g,e=.returned (.tuple #[.agg #[I6 k,I6 l,I6 h,I6 g],.nilIface])/\Bw w w' :=
 (Uh ⟨s.toArray⟩ (by simp[ByteArray.size];omega) w i).mono λe w' ⟨v,x,m,o,d⟩=>by
   have j:(ByteArray.mk s.toArray).data.toList=s:=rfl;rw[j]at d
   rcases d with ⟨_,rfl,rfl⟩|⟨f,_⟩
   . exact⟨_,_,_,_,m,o⟩
   . rw[a]at f;cases f
theorem am(lo:Nat)(s:List UInt8)(v:s.length<=2000)(i:(scan s).2=true)(w:World)(k:lo<=w.heap.size)(m:Lib.Utf8Tabs 1 2 w):Cg 32 #[Sx s] w λe w'=>∃b bm,e=.returned (.tuple #[Pd b 0,.nilIface])/\Ex lo 0 w' b bm s [] (λ_=>none)/\bm<w'.heap.size/\Bw w w':=by
 have x:Hid _:=Vb s (by omega) i w m;have u:=Aa λr=>Sd s (by omega) r;have q:(ByteArray.mk s.toArray).size=s.length:=by simp[ByteArray.size]
 have z:¬(2000:Int)<(s.length:Int):=by omega
 have l:=Aa k;clear m i v k
 go_enter func32,ntmps32
 go_wp2_with (first
  | (go_at_call 62;refine AC x.out ?_;rintro e A ⟨B,C,F,E,rfl,h⟩;have f:=Aa h;clear h)
  | (go_at_call 63;refine(u.out _).mono ?_;rintro e a ⟨rfl,j⟩;have g:Hid (Bw w a):=(f.out.alloc f.out.size _).trans (j.mono (by rw[Bb];have:=f.out.size;omega));clear j))
 go_ret2
 have o:=g.out.size;have y:=l.out;have p:Below (a.alloc (.map #[] 0)).heap.size (a.alloc (.map #[] 0)) ((a.alloc (.map #[] 0)).alloc (Oc #[Sx s,.slice none 0 0,.map (some a.heap.size)] 125)):=zA _ _;have d:=heap_alloc_new (a.alloc (.map #[] 0)) (Oc #[Sx s,.slice none 0 0,.map (some a.heap.size)] 125);rw[Bb]at d;exact⟨a.heap.size+1,a.heap.size,rfl,⟨by omega,by omega,⟨_,d,RP _ _ _ _⟩,J9 (S:=λ_=>False) (Zv a) (Cf p _) id⟩,by simp;omega,(g.out.alloc g.out.size _).alloc (by rw[Bb];omega) _⟩
end
section
attribute [local go_sem] Oper.semAt_some
theorem jP{lo n:Nat}{w:World}{b bm:Nat}{t:List UInt8}{D:List (List UInt8)}{E:List SE}{M:Cd}(h:Fq lo n w b bm D E M){l0:Int}(j:Gz l0 t E)(hD:Hx l0 t E D)(c i rev:Int)(A:IW c)(v:Value)(ps:List Pt)(O:Ar lo w v ps)(z:∀p∈ps,Cp p)(g:∀p∈ps,p.put.length<=40000)(hl:ps.length<=1000000)(y:Al ps<=40000)(hn:E.length<=300)(hnn:n<1000000000)(hi:(Ew M c).1<i) :
    Cg 54 #[Pd b 0,I6 c,I6 i,I6 rev,v] w λe w'=>e=.returned (I6 (D4 l0 t E rev ps))/\Fq lo (n+1) w' b bm (doD l0 t E D rev ps) (doL l0 t E c i rev ps) (Je M c (i,D4 l0 t E rev ps))/\sameBut w w' (Jw lo w bm):=by
 have CD:Hid (∀H,Bw w H->Cg 87 #[Pd b 0,I6 c,I6 i,I6 rev,v] H λe w'=>e=.returned (I6 (D4 l0 t E rev ps))/\Fq lo n w' b bm (doD l0 t E D rev ps) (doL l0 t E c i rev ps) M/\sameBut H w' (Jw lo H bm)):=λH hb =>
  jL (QJ h hb) j hD c i rev v ps (Bt O hb) z g hl y hn
 have hsh:∃p c,v=.slice p ps.length c:=by obtain⟨⟨p,c,e,_⟩,_⟩:=O;exact⟨p,c,e⟩
 obtain⟨pv,cv,rfl⟩:=hsh;obtain⟨J,F,⟨v0,v1,h3,_,_⟩,U⟩:=h;have x2:=cQ h3 2 rfl;have l:=aC U (t:=65) underlying65 (Ns Wz w) A;obtain⟨gp,u⟩:∃x,Ew M c=x:=⟨_,rfl⟩;rw[u]at hi l;obtain⟨Q,Y⟩:=gp;simp only at hi l;have hi2:¬i<=Q:=by omega
 generalize hd:D4 l0 t E rev ps=d at *;generalize doD l0 t E D rev ps=D' at *;generalize doL l0 t E c i rev ps=E' at *
 have N:Hid (∀q,sameBut (w.alloc (Oc #[I6 Q,I6 Y] 168)) q (Jw lo (w.alloc (Oc #[I6 Q,I6 Y] 168)) bm)->Fq lo n q b bm D' E' M->q.cell? (Ad b 2)=some (.map (some bm))/\∃s,(Instr.mapUpdate 65 (.map (some bm)) (I6 c) (.agg #[I6 i,I6 d])).run prog q=.ok () s/\Fq lo (n+1) s b bm D' E' (Je M c (i,d))/\sameBut w s (Jw lo w bm)):=λq f X=>by
  have B:Bw w (w.alloc (Oc #[I6 Q,I6 Y] 168)):=zA _ _;obtain⟨e1,S,⟨v4,v5,P,C,e4⟩,I⟩:=X;obtain⟨s,a,hl5,ht5⟩:=Zc I (by omega) (t:=65) underlying65 A i d;have r:sameBut q s (λk=>k=bm):=av ht5 rfl;refine⟨Az P 2,s,a,⟨e1,S,⟨v4,v5,(r.2 b (As P) λe=>F9 I _ _ _ (e ▸ P)).trans P,GZ C r λk j W=>?_,Kc e4 r λk j=>?_⟩,hl5⟩,?_⟩
  . obtain rfl:=W
    rcases C.2 with ⟨rfl,_⟩|⟨g',cap,cur,rfl,_,h4',_⟩
    . cases j
    . obtain rfl:g'=k:=Bq j
      exact F9 I _ _ _ h4'
  . obtain rfl:=j
    exact⟨S,λR fz=>F9 I _ _ _,λR fz=>F9 I _ _ _⟩
  . exact ((Cf B (Jw lo w bm)).comp f λk j hS=>⟨hS.1,hS.2.imp id λ⟨R,T,A,ht⟩=>⟨R,T,(B.block k j).symm.trans A,ht⟩⟩).comp r λk _ j=>by
      obtain rfl:=j;exact⟨S,.inl rfl⟩
 by_cases g:(M c).isSome=true
 . rw [g]at l
   have L:=Aa l;clear h3 U u j hD O z hl y hn A J F l g
   go_enter func54,ntmps54
   go_wp2_with (first
    | (go_at_call 87;refine(CD.out _ (zA _ _)).mono ?_;rintro e q ⟨rfl,f,m⟩;obtain⟨y2,s,a,G,K⟩:=N.out q m f;have F1:=Aa G;have Z:=Aa K;have o:=Aa a;clear f m a G K)
    | (rw[L.out])
    | (rw[o.out]))
   go_ret;exact⟨rfl,F1.out,Z.out⟩
 . rw [show(M c).isSome=false by simpa using g]at l
   have L:=Aa l;clear h3 U u j hD O z hl y hn A J F l g
   go_enter func54,ntmps54
   go_wp2_with (first
    | (go_at_call 87;refine(CD.out _ (zA _ _)).mono ?_;rintro e q ⟨rfl,f,m⟩;obtain⟨y2,s,a,G,K⟩:=N.out q m f;have F1:=Aa G;have Z:=Aa K;have o:=Aa a;clear f m a G K)
    | (rw[L.out])
    | (rw[o.out]))
   go_ret;exact⟨rfl,F1.out,Z.out⟩
end
section
variable {n bm lo b : Nat}{w : World}{M : Cd}{t : List UInt8}{E : List SE}{D : List (List UInt8)}
abbrev Jh (M:Cd) (c i:Int):Prop:=i<=(Ew M c).1
def O6 (l0:Int) (t:List UInt8) (E:List SE) (M:Cd) (c i rev:Int) (ps:List Pt):Int:=if Jh M c i then (if i<(Ew M c).1 then 8 else (Ew M c).2) else D4 l0 t E rev ps
def JW (l0:Int) (t:List UInt8) (E:List SE) (M:Cd) (c i rev:Int) (ps:List Pt):List UInt8:=if Jh M c i then t else doT l0 t E rev ps
def Jf (l0:Int) (t:List UInt8) (E:List SE) (M:Cd) (c i rev:Int) (ps:List Pt):List SE:=if Jh M c i then E else doL l0 t E c i rev ps
def O5 (l0:Int) (t:List UInt8) (E:List SE) (M:Cd) (c i rev:Int) (ps:List Pt):Cd:=if Jh M c i then M else Je M c (i,D4 l0 t E rev ps)
def MY (l0:Int) (t:List UInt8) (E:List SE) (D:List (List UInt8)) (M:Cd) (c i rev:Int) (ps:List Pt):List (List UInt8):=if Jh M c i then D else doD l0 t E D rev ps
theorem Zw(h:Jl n w bm M):Jl (n+1) w bm M:=by
 obtain⟨D,⟨f,a,d,F,i,e⟩,g⟩:=h;exact⟨D,⟨f,a,d,F,by omega,e⟩,g⟩
theorem ga(h:Ex lo n w b bm t E M):Ex lo (n+1) w b bm t E M:=⟨h.1,h.2.1,h.2.2.1,Zw h.2.2.2⟩
theorem fX(h:Fq lo n w b bm D E M):Fq lo (n+1) w b bm D E M:=⟨h.1,h.2.1,h.2.2.1,Zw h.2.2.2⟩
theorem jp(h:Ex lo n w b bm t E M){l0:Int}(r:Gz l0 t E)(c i rev:Int)(k:IW c)(v:Value)(ps:List Pt)(q:F6 w)(l:0<lo)(m:Lib.Utf8Tabs 1 2 w)(o:Ae w v ps)(f:∀p∈ps,Cp p)(s:ps.length<=1000000)(d:Al ps<=40000)(u:E.length<=300)(g:n<1000000000) :
    Cg 89 #[Pd b 0,I6 c,I6 i,I6 rev,v] w λe w'=>e=.returned (Ao (O6 l0 t E M c i rev ps))/\Ex lo (n+1) w' b bm (JW l0 t E M c i rev ps) (Jf l0 t E M c i rev ps) (O5 l0 t E M c i rev ps)/\sameBut w w' (IK lo w bm):=by
 unfold O6 JW Jf O5
 by_cases a:Jh M c i
 . rw[if_pos a,if_pos a,if_pos a,if_pos a]
   refine(jr h c i rev k v a).mono ?_;rintro e w' ⟨rfl,j⟩;exact⟨rfl,ga (MT h j),Cf j _⟩
 . rw[if_neg a,if_neg a,if_neg a,if_neg a]
   exact jq h r c i rev k v ps q l m o f s d u g (by unfold Jh at a;omega)
theorem jO(h:Fq lo n w b bm D E M){l0:Int}(m:Gz l0 t E)(r:Hx l0 t E D)(c i rev:Int)(l:IW c)(u:1<=i)(v:Value)(ps:List Pt)(o:Ar lo w v ps)(g:∀p∈ps,Cp p)(d:∀p∈ps,p.put.length<=40000)(q:ps.length<=1000000)(f:Al ps<=40000)(s:E.length<=300)(j:n<1000000000) :
    Cg 54 #[Pd b 0,I6 c,I6 i,I6 rev,v] w λe w'=>e=.returned (I6 (O6 l0 t E M c i rev ps))/\Fq lo (n+1) w' b bm (MY l0 t E D M c i rev ps) (Jf l0 t E M c i rev ps) (O5 l0 t E M c i rev ps)/\sameBut w w' (Jw lo w bm):=by
 unfold O6 MY Jf O5
 by_cases a:Jh M c i
 . rw[if_pos a,if_pos a,if_pos a,if_pos a]
   refine(jQ h c i rev l v u a).mono ?_;rintro e w' ⟨rfl,k⟩;exact⟨rfl,fX (QJ h k),Cf k _⟩
 . rw[if_neg a,if_neg a,if_neg a,if_neg a]
   exact jP h m r c i rev l v ps o g d q f s j (by unfold Jh at a;omega)
theorem V1{l0:Int}(h:Gz l0 t E)(d:Hx l0 t E D){M:Cd}{ps:List Pt}{c i rev:Int}(g:Al ps<=40000):Gz l0 (JW l0 t E M c i rev ps) (Jf l0 t E M c i rev ps)/\Hx l0 (JW l0 t E M c i rev ps) (Jf l0 t E M c i rev ps) (MY l0 t E D M c i rev ps)/\(Jf l0 t E M c i rev ps).length<=E.length+1:=by
 unfold JW Jf MY
 by_cases a:Jh M c i
 . rw[if_pos a,if_pos a,if_pos a]
   exact⟨h,d,BX _⟩
 . rw[if_neg a,if_neg a,if_neg a]
   obtain⟨e,f⟩:=du (c:=c) (i:=i) (rev:=rev) h d g;refine⟨e,f,?_⟩;unfold doL
   split
   . simp
   . omega
end
section
variable {E : List SE}{D D' : List (List UInt8)}{n n' l0 : Int}{q : Int × Cl}
structure Pk where
 kind:Int
 c:Nat
 rev:Int
 id:Int
 x:SE
structure Rm where
 t:List UInt8
 E:List SE
 M:Cd
 n:Nat
 cl:List (Int×Cl)
 fl:List Pk
 lost:Nat
def Gp:SE:=⟨0,0,[]⟩
def SQ:Int×Cl:=(1,⟨[],[],0,0,0,[]⟩)
def Bo (R:Rm) (k:Nat):Int×Cl:=(R.cl[k]?).getD SQ
def setC (R:Rm) (k:Nat) (S:Cl):Rm:={ R with cl:=R.cl.set k ((Bo R k).1,S) }
def Cm (R:Rm) (p:Pk):Rm:=if 400<=R.fl.length then { R with lost:=R.lost+1 } else { R with fl:=R.fl++[p] }
def tellL (k:Nat):Int->List SE->Rm->Rm
 | _,[],R=>R
 | f,x :: xs,R=>tellL k (f+1) xs (Cm R ⟨3,k,f,0,x⟩)
def tellR (R:Rm) (k:Nat) (f:Int):Rm:=if f<0\/(R.E.length:Int)<f then R else tellL k f (R.E.drop f.toNat) R
def srvR (l0:Int) (R:Rm) (p:Pk):Rm :=
 { R with t:=JW l0 R.t R.E R.M p.c p.id p.rev p.x.op,E:=Jf l0 R.t R.E R.M p.c p.id p.rev p.x.op,M:=O5 l0 R.t R.E R.M p.c p.id p.rev p.x.op,n:=R.n+1 }
def srvE (l0:Int) (R:Rm) (p:Pk):Int:=O6 l0 R.t R.E R.M p.c p.id p.rev p.x.op
def Jy (p:Pk):Pk:=⟨4,p.c,0,p.id,Gp⟩
def E9 (l0:Int) (R:Rm) (p:Pk):Rm :=
 if srvE l0 R p≠0/\srvE l0 R p≠8 then Cm (tellR (srvR l0 R p) p.c p.rev) (Jy p) else tellR (srvR l0 R p) p.c p.rev
def Fz (l0:Int) (R:Rm) (p:Pk):Rm :=
 if p.kind=1 then E9 l0 R p else if p.kind=2 then tellR R p.c p.rev
 else if p.kind=3 then setC R p.c (Fm p.c (Bo R p.c).2 p.rev p.x.c p.x.i p.x.op)
 else if p.kind=4 then setC R p.c (Fh (Bo R p.c).2 p.id) else R
def Et (R:Rm) (k:Nat):Pk :=
 if (Bo R k).2.mine=[] then ⟨2,k,(Bo R k).2.rev,0,Gp⟩ else ⟨1,k,(Bo R k).2.rev,(Bo R k).2.id,⟨k,(Bo R k).2.id,Eb (Bo R k).2⟩⟩
def sendC (R:Rm) (k:Nat):Rm:=Cm R (Et R k)
def JJ (R:Rm) (k:Nat) (q:List Pt):Rm:=setC R k (Fj (Bo R k).1 (Bo R k).2 q)
def outR (R:Rm) (i:Nat):Rm:={ R with fl:=R.fl.eraseIdx i }
def Er (l0:Int) (R:Rm) (i:Nat):Rm:=match R.fl[i]? with
 | some p=>Fz l0 (outR R i) p
 | none=>R
def Jz (l0:Int):Nat->Rm->Rm
 | 0,R=>R
 | n+1,R=>match R.fl with
  | []=>R
  | p :: fl=>Jz l0 n (Fz l0 { R with fl:=fl } p)
def wP (p:Pk):Nat:=if p.kind=1\/p.kind=2 then 400 else 1
def Cr (fl:List Pk):Nat:=(fl.map wP).sum
def Em (l0:Int) (R:Rm):Rm:=Jz l0 (Cr R.fl) R
def Gl (l0:Int):Nat->Nat->Rm->Rm
 | 0,_,R=>R
 | n+1,k,R=>Gl l0 n (k+1) (Em l0 (sendC R k))
def Hs (l0:Int) (R:Rm):Rm:=Gl l0 R.cl.length 0 (Em l0 R)
def Ap (R:Rm):Nat:=R.n+R.lost+Cr R.fl
/-! what is kept -/
structure okCl (n:Int) (D:List (List UInt8)) (q:Int×Cl):Prop where
 unit:Ck q.1
 ok:okK 2000 q.2
 rev:0<=q.2.rev
 seen:D[q.2.rev.toNat]?=some q.2.seen
 id:0<=q.2.id/\q.2.id+(if 2<=q.2.mine.length then 1 else 0)<=n
 dr:0<=q.2.drops/\q.2.drops+(if q.2.mine=[] then 0 else 1)<=q.2.id
structure okPk (E:List SE) (D:List (List UInt8)) (m:Nat) (p:Pk):Prop where
 c:p.c<m
 kind:p.kind=1\/p.kind=2\/p.kind=3\/p.kind=4
 rev:0<=p.rev/\p.rev<=(E.length:Int)
 ask:p.kind=1->p.x.c=(p.c:Int)/\p.x.i=p.id/\∃d,D[p.rev.toNat]?=some d/\good p.x.op d/\Al p.x.op<=2000
 told:p.kind=3->E[p.rev.toNat]?=some p.x
structure Lk (E:List SE) (D:List (List UInt8)):Prop where
 len:D.length=E.length+1
 link:∀(i:Nat) (x:SE) (d:List UInt8),E[i]?=some x->D[i]?=some d->good x.op d/\D[i+1]?=some (Aj x.op d)
 fair:∀d∈D,V d/\d.length<=2000
structure Inv (l0 n:Int) (D:List (List UInt8)) (R:Rm):Prop where
 srv:Gz l0 R.t R.E
 docs:Hx l0 R.t R.E D
 lk:Lk R.E D
 few:R.E.length<=300
 cls:∀(k:Nat) (q:Int×Cl),R.cl[k]?=some q->okCl n D q
 pks:∀p∈R.fl,okPk R.E D R.cl.length p
 room:R.fl.length<=400
theorem Lk.at_(h:Lk E D){i:Nat}(a:i<=E.length):∃d,D[i]?=some d/\V d/\d.length<=2000:=by
 have:i<D.length:=by have:=h.len;omega
 exact⟨D[i],B7 this,h.fair _ (BE this)⟩
theorem Lk.puts(h:Lk E D){i:Nat}{x:SE}(a:E[i]?=some x):Al x.op<=2000:=by
 have e:i<E.length:=(De a);obtain⟨d,j,_,_⟩:=h.at_ (CW e);obtain⟨g,f⟩:=h.link i x d a j;have k:=h.fair _ (BI f);have:=Tu g;omega
theorem okPk.more{e:List SE}{m:Nat}{p:Pk}(h:okPk E D m p)(j:∀(i:Nat)(x:SE),E[i]?=some x->e[i]?=some x)(o:E.length<=e.length)(g:∀(i:Nat)(d:List UInt8),D[i]?=some d->D'[i]?=some d):okPk e D' m p :=
 ⟨h.c,h.kind,⟨h.rev.1,by have:=h.rev.2;omega⟩,λf=>by
  obtain⟨a,b,d,k,l⟩:=h.ask f;exact⟨a,b,d,g _ _ k,l⟩,λf=>j _ _ (h.told f)⟩
theorem okCl.more(h:okCl n D q)(a:n<=n')(e:∀(i:Nat)(d:List UInt8),D[i]?=some d->D'[i]?=some d):okCl n' D' q :=
 ⟨h.unit,h.ok,h.rev,e _ _ h.seen,⟨h.id.1,GN h.id.2 a⟩,h.dr⟩
theorem Inv.clk{R:Rm}(h:Inv l0 n D R){k:Nat}(a:k<R.cl.length):R.cl[k]?=some (Bo R k)/\okCl n D (Bo R k):=by
 have e:R.cl[k]?=some (Bo R k):=by unfold Bo;rw[B7 a];rfl
 exact⟨e,h.cls k _ e⟩
theorem okCl.revle(h:okCl n D q)(a:Lk E D):q.2.rev<=(E.length:Int):=by
 have d:=(De h.seen);have:=a.len;have:=h.rev;omega
theorem okCl.small(h:okCl n D q)(a:Lk E D):q.2.seen.length<=2000:=(a.fair _ (BI h.seen)).2
/-! one client is turned -/
theorem Inv.setK{R:Rm}(h:Inv l0 n D R)(d:n<=n'){k:Nat}{S:Cl}(f:okCl n' D ((Bo R k).1,S)):Inv l0 n' D (setC R k S):=by
 refine⟨h.srv,h.docs,h.lk,h.few,λj q a=>?_,λp g=>?_,h.room⟩
 . have a:(R.cl.set k ((Bo R k).1,S))[j]?=some q:=a
   rw[List.getElem?_set]at a
   split at a
   . split at a
     . obtain rfl:=Bq a;exact f
     . cases a
   . exact(h.cls j q a).more d λ_ _ h=>h
 . have:(R.cl.set k ((Bo R k).1,S)).length=R.cl.length:=List.length_set
   have e:=h.pks p g;show okPk R.E D (R.cl.set k ((Bo R k).1,S)).length p;rw[this];exact e
theorem fh(h:okCl n D q)(p:List Pt):okCl (n+1) D (q.1,Fj q.1 q.2 p):=by
 have e:=bB h.unit h.ok p;have d:=h.id;have a:=h.dr;have g:=h.ok.two;refine⟨h.unit,e,?_,?_,?_,?_⟩
 . show 0<=(Fj q.1 q.2 p).rev
   unfold Fj;split<;>exact h.rev
 . show D[(Fj q.1 q.2 p).rev.toNat]?=some (Fj q.1 q.2 p).seen
   unfold Fj;split<;>exact h.seen
 . show 0<=(Fj q.1 q.2 p).id/\(Fj q.1 q.2 p).id+(if 2<=(Fj q.1 q.2 p).mine.length then 1 else 0)<=n+1
   unfold Fj
   split
   . simp only
     rcases hm:q.2.mine with _|⟨m,_|⟨m2,f⟩⟩
     . rw[hm]at d;simp[Dx]at d ⊢;omega
     . rw[hm]at d;simp[Dx]at d ⊢;omega
     . rw[hm]at d;simp[Dx]at d ⊢;omega
   . exact⟨d.1,by omega⟩
 . show 0<=(Fj q.1 q.2 p).drops/\(Fj q.1 q.2 p).drops+(if (Fj q.1 q.2 p).mine=[] then 0 else 1)<=(Fj q.1 q.2 p).id
   unfold Fj
   split
   . simp only
     rcases hm:q.2.mine with _|⟨m,_|⟨m2,f⟩⟩
     . rw[hm]at a;simp[Dx]at a ⊢;omega
     . rw[hm]at a;simp[Dx]at a ⊢;omega
     . rw[hm]at a;simp[Dx]at a ⊢;omega
   . exact a
theorem jF(h:okCl n D q)(i:Int):okCl n D (q.1,Fh q.2 i):=by
 have e:=gd h.ok i;have a:=h.id;have d:=h.dr;refine⟨h.unit,e,?_,?_,?_,?_⟩
 . show 0<=(Fh q.2 i).rev
   unfold Fh;split<;>exact h.rev
 . show D[(Fh q.2 i).rev.toNat]?=some (Fh q.2 i).seen
   unfold Fh;split<;>exact h.seen
 . show 0<=(Fh q.2 i).id/\(Fh q.2 i).id+(if 2<=(Fh q.2 i).mine.length then 1 else 0)<=n
   unfold Fh
   split
   . refine⟨a.1,?_⟩
     simp only[AR]
     split at a<;>simp<;>omega
   . exact a
 . show 0<=(Fh q.2 i).drops/\(Fh q.2 i).drops+(if (Fh q.2 i).mine=[] then 0 else 1)<=(Fh q.2 i).id
   unfold Fh
   split
   . rename_i hm
     rw[if_neg hm.1]at d;simp only[if_true];omega
   . exact d
theorem fi(h:okCl n D q)(p:Lk E D)(who:Int){rev:Int}{x:SE}(r:E[rev.toNat]?=some x):okCl n D (q.1,Fm who q.2 rev x.c x.i x.op):=by
 have A:=h.small p;have v:=p.puts r;have k:=bC (who:=who) h.ok rev x.c x.i x.op (by omega);have i:=h.id;have d:=h.dr;have j:=h.ok.two
 by_cases o:rev≠q.2.rev\/Ga who q.2 rev x.c x.i x.op≠0
 . have e:Fm who q.2 rev x.c x.i x.op=q.2:=if_pos o
   rw[e];exact h
 obtain⟨u,_,_⟩:=Mp o;subst u;obtain⟨g,s⟩:=p.link _ _ _ r h.seen;have f:(q.2.rev+1).toNat=q.2.rev.toNat+1:=by have:=h.rev;omega
 have z:=h.rev
 by_cases l:Mv who q.2 x.c x.i
 . have e:Fm who q.2 q.2.rev x.c x.i x.op = { q.2 with seen:=Aj x.op q.2.seen,rev:=q.2.rev+1,mine:=q.2.mine.tail,id:=if q.2.mine.tail≠[] then q.2.id+1 else q.2.id }:=by unfold Fm;rw[if_neg o,if_pos l]
   rw[e]at k ⊢;refine⟨h.unit,k,?_,?_,?_,?_⟩
   . show 0<=q.2.rev+1
     omega
   . show D[(q.2.rev+1).toNat]?=some (Aj x.op q.2.seen)
     rw[f];exact s
   . simp only
     rcases hm:q.2.mine with _|⟨m,_|⟨m2,_|⟨m3,y⟩⟩⟩
     . exact absurd hm l.1
     . rw[hm]at i;simp at i ⊢;omega
     . rw[hm]at i;simp at i ⊢;omega
     . rw[hm]at j;simp at j
   . simp only
     rcases hm:q.2.mine with _|⟨m,_|⟨m2,_|⟨m3,y⟩⟩⟩
     . exact absurd hm l.1
     . rw[hm]at d;simp at d ⊢;omega
     . rw[hm]at d;simp at d ⊢;omega
     . rw[hm]at j;simp at j
 . have e:Fm who q.2 q.2.rev x.c x.i x.op = { q.2 with seen:=Aj x.op q.2.seen,rev:=q.2.rev+1,mine:=(Di q.2.mine x.op).1,doc:=Aj (Di q.2.mine x.op).2 q.2.doc }:=by unfold Fm;rw[if_neg o,if_neg l]
   rw[e]at k ⊢;have a:=Ss q.2.mine x.op;refine⟨h.unit,k,?_,?_,?_,?_⟩
   . show 0<=q.2.rev+1
     omega
   . show D[(q.2.rev+1).toNat]?=some (Aj x.op q.2.seen)
     rw[f];exact s
   . show 0<=q.2.id/\q.2.id+(if 2<=(Di q.2.mine x.op).1.length then 1 else 0)<=n
     rw[a];exact i
   . show 0<=q.2.drops/\q.2.drops+(if (Di q.2.mine x.op).1=[] then 0 else 1)<=q.2.id
     have:((Di q.2.mine x.op).1=[])↔(q.2.mine=[]):=by
      rw[←List.length_eq_zero_iff,←List.length_eq_zero_iff,a]
     simp only[this];exact d
/-! packets -/
theorem Inv.send{R:Rm}(h:Inv l0 n D R){p:Pk}(d:okPk R.E D R.cl.length p):Inv l0 n D (Cm R p):=by
 unfold Cm
 split
 . exact⟨h.srv,h.docs,h.lk,h.few,h.cls,h.pks,h.room⟩
 . refine ⟨h.srv,h.docs,h.lk,h.few,h.cls,λx a=>?_,?_⟩
   . rcases List.mem_append.1 a with a|a
     . exact h.pks x a
     . rw[List.mem_singleton.1 a];exact d
   . show(R.fl++[p]).length<=400
     rw[AA,DN];omega
theorem JP(R:Rm)(p:Pk):(Cm R p).t=R.t/\(Cm R p).E=R.E/\(Cm R p).M=R.M/\(Cm R p).n=R.n/\(Cm R p).cl=R.cl:=by
 unfold Cm;split<;>exact⟨rfl,rfl,rfl,rfl,rfl⟩
theorem aq(k:Nat):∀(g:List SE)(f:Int)(R:Rm),(tellL k f g R).t=R.t/\(tellL k f g R).E=R.E/\(tellL k f g R).M=R.M/\(tellL k f g R).n=R.n/\(tellL k f g R).cl=R.cl
 | [],_,_=>⟨rfl,rfl,rfl,rfl,rfl⟩
 | x :: g,f,R=>by
  obtain⟨a,b,c,d,e⟩:=aq k g (f+1) (Cm R ⟨3,k,f,0,x⟩);obtain⟨m,j,l,h,i⟩:=JP R ⟨3,k,f,0,x⟩;exact⟨a.trans m,b.trans j,c.trans l,d.trans h,e.trans i⟩
theorem OQ(R:Rm)(k:Nat)(f:Int):(tellR R k f).t=R.t/\(tellR R k f).E=R.E/\(tellR R k f).M=R.M/\(tellR R k f).n=R.n/\(tellR R k f).cl=R.cl:=by
 unfold tellR
 split
 . exact⟨rfl,rfl,rfl,rfl,rfl⟩
 . exact aq k _ _ _
theorem Inv.tellM{l0 n:Int}{D:List (List UInt8)}{k:Nat}:∀(a:List SE)(f:Nat)(R:Rm),Inv l0 n D R->k<R.cl.length->R.E.drop f=a->Inv l0 n D (tellL k (f:Int) a R)
 | [],_,_,h,_,_=>h
 | x :: a,f,R,h,hk,hd=>by
  have g:f<R.E.length:=by
   rcases CQ f R.E.length with h|h
   . exact h
   . rw[DT h]at hd;cases hd
  have m:R.E[f]?=some x:=by
   rw[BK g]at hd;injection hd with d h2;rw[B7 g,d]
  have l:R.E.drop (f+1)=a:=by
   rw[BK g]at hd;injection hd with d h2
  obtain⟨_,j,_,_,i⟩:=JP R ⟨3,k,f,0,x⟩;have d:Inv l0 n D (Cm R ⟨3,k,f,0,x⟩):=h.send ⟨hk,.inr (.inr (.inl rfl)),⟨Int.natCast_nonneg _,by show(f:Int)<=_;omega⟩,λe=>(by cases e),λ_=>m⟩;have:=Inv.tellM a (f+1) _ d (by rw[i];exact hk) (by rw[j];exact l);rw[show(((f+1:Nat):Int))=(f:Int)+1 by omega]at this;exact this
theorem Inv.tellK{R:Rm}(h:Inv l0 n D R){k:Nat}(a:k<R.cl.length)(f:Int):Inv l0 n D (tellR R k f):=by
 unfold tellR
 split
 . exact h
 . rename_i hf
   obtain⟨m,rfl⟩:∃m:Nat,f=(m:Int):=⟨f.toNat,by omega⟩;rw[EC];exact Inv.tellM _ m R h a rfl
theorem Inv.out{R:Rm}(h:Inv l0 n D R)(i:Nat):Inv l0 n D (outR R i) :=
 ⟨h.srv,h.docs,h.lk,h.few,h.cls,λp a=>h.pks p (List.mem_of_mem_eraseIdx a),AF (List.length_eraseIdx_le _ _) h.room⟩
theorem Inv.srvK{R:Rm}(h:Inv l0 n D R){p:Pk}(U:okPk R.E D R.cl.length p)(Q:p.kind=1) :
    ∃D',Inv l0 n D' (srvR l0 R p)/\(∀(i:Nat) (d:List UInt8),D[i]?=some d->D'[i]?=some d)/\(∀(i:Nat) (x:SE),R.E[i]?=some x->(srvR l0 R p).E[i]?=some x)/\((srvR l0 R p).E=R.E/\(srvR l0 R p).t=R.t/\D'=D\/(srvR l0 R p).E.length=R.E.length+1/\D'=D++[(srvR l0 R p).t]):=by
 obtain⟨Y,K,d,l,W,O⟩:=U.ask Q;have I:Al p.x.op<=40000:=by omega
 obtain⟨L,N,Z⟩:=V1 (c:=p.c) (i:=p.id) (rev:=p.rev) (M:=R.M) h.srv h.docs I;have o:(srvR l0 R p).E=Jf l0 R.t R.E R.M p.c p.id p.rev p.x.op:=rfl;have G:(srvR l0 R p).t=JW l0 R.t R.E R.M p.c p.id p.rev p.x.op:=rfl
 by_cases a:Jh R.M p.c p.id\/D4 l0 R.t R.E p.rev p.x.op≠0
 . have m:Jf l0 R.t R.E R.M p.c p.id p.rev p.x.op=R.E:=by
     unfold Jf
     by_cases s:Jh R.M p.c p.id
     . rw[if_pos s]
     . rw[if_neg s];unfold doL;rw[if_neg (a.resolve_left s)]
   have A:JW l0 R.t R.E R.M p.c p.id p.rev p.x.op=R.t:=by
    unfold JW
    by_cases s:Jh R.M p.c p.id
    . rw[if_pos s]
    . rw[if_neg s];unfold doT;rw[if_neg (a.resolve_left s)]
   refine⟨D,⟨?_,?_,?_,?_,h.cls,λx j=>?_,h.room⟩,λ_ _ h=>h,λi x j=>by rw[o,m];exact j,.inl ⟨by rw[o,m],by rw[G,A],rfl⟩⟩
   . rw[o,G,m,A];exact h.srv
   . rw[o,G,m,A];exact h.docs
   . rw[o,m];exact h.lk
   . rw[o,m];exact h.few
   . rw[o,m];exact h.pks x j
 . have s:¬Jh R.M p.c p.id:=λe=>a (.inl e)
   have f:D4 l0 R.t R.E p.rev p.x.op=0:=by
    by_cases e:D4 l0 R.t R.E p.rev p.x.op=0
    . exact e
    . exact absurd (.inr e) a
   have m:Jf l0 R.t R.E R.M p.c p.id p.rev p.x.op=R.E++[⟨p.c,p.id,Bh p.x.op (R.E.drop p.rev.toNat)⟩]:=by
    unfold Jf;rw[if_neg s];unfold doL;rw[if_pos f]
   have A:JW l0 R.t R.E R.M p.c p.id p.rev p.x.op=Aj (Bh p.x.op (R.E.drop p.rev.toNat)) R.t:=by
    unfold JW;rw[if_neg s];unfold doT;rw[if_pos f]
   have P:MY l0 R.t R.E D R.M p.c p.id p.rev p.x.op=D++[Aj (Bh p.x.op (R.E.drop p.rev.toNat)) R.t]:=by
    unfold MY;rw[if_neg s];unfold doD;rw[if_pos f]
   have X:R.E.length<300:=by
    unfold D4 at f
    split at f
    . cases f
    split at f
    . cases f
    . omega
   have B:ordE (Bh p.x.op (R.E.drop p.rev.toNat)) R.t=0:=by
    unfold D4 at f
    split at f
    . cases f
    split at f
    . cases f
    split at f
    . rename_i z;exact absurd f z
    split at f
    . rename_i z;exact absurd f z
    . rename_i z;simpa using z
   have C:=JS h.srv.text B;generalize hop:Bh p.x.op (R.E.drop p.rev.toNat)=op' at *;have v:=h.lk.len;have y:=h.docs.last;have u:∀(i:Nat) (d:List UInt8),D[i]?=some d->(D++[Aj op' R.t])[i]?=some d:=λi d l=>by
    have:=(De l);rw[AX this];exact l
   have F:∀(i:Nat) (x:SE),R.E[i]?=some x->(R.E++[(⟨p.c,p.id,op'⟩:SE)])[i]?=some x:=λi x j=>by
    have:=(De j);rw[AX this];exact j
   have r:=L.room;rw[A]at r
   have H:Lk (R.E++[⟨p.c,p.id,op'⟩]) (D++[Aj op' R.t]):=by
    refine⟨by simp[v],λi x d j l=>?_,λd l=>?_⟩
    . rcases CQ i R.E.length with K | K
      . rw[AX K]at j
        rw[AX (by omega)]at l;obtain⟨g,z⟩:=h.lk.link i x d j l;exact⟨g,u _ _ z⟩
      . have:i<(R.E++[(⟨p.c,p.id,op'⟩:SE)]).length:=(De j)
        have J:i=R.E.length:=by simp at this;omega
        subst J;rw[AL (Ai _),BP]at j;obtain rfl:(⟨p.c,p.id,op'⟩:SE)=x:=by simpa using j
        rw[AX (by omega),y]at l;obtain rfl:=Bq l;refine⟨C,?_⟩;rw[←v,AL (Ai _),BP];rfl
    . rcases List.mem_append.1 l with l | l
      . exact h.lk.fair d l
      . rw[List.mem_singleton.1 l]
        exact⟨N8 C.al,r⟩
   refine⟨D++[Aj op' R.t],⟨L,?_,?_,?_,λk q S=>(h.cls k q S).more (BO _) u,λx j=>?_,h.room⟩,u,λi x j=>by rw[o,m];exact F i x j,.inr ⟨by rw[o,m];simp,by rw[G,A]⟩⟩
   . rw[←P];exact N
   . rw[o,m];exact H
   . rw[o,m];simp;omega
   . rw[o,m];exact(h.pks x j).more F (by simp) u
end
section
variable {lo b y : Nat}{w w' : World}{v : Value}{ms : List (List Pt)}{who u : Int}{S : Cl}
def Hr (lo:Nat) (w:World) (v:Value) (ms:List (List Pt)):Prop :=
 ∃vs:List Value,vs.length=ms.length/\w.ownsRow lo 37 1 v ms.length vs/\∀(i:Nat) (m:List Pt) (x:Value),ms[i]?=some m->vs[i]?=some x->Ar lo w x m
theorem NS{lo:Nat}{w w':World}{v:Value}{ms:List (List Pt)}{S:Nat->Prop}(h:Hr lo w v ms)(d:sameBut w w' S)(o:∀k,k<w.heap.size->S k->lo<=k/\F7 w k)(a:∀k,v.ownBlock=some k->¬S k):Hr lo w' v ms:=by
 obtain⟨j,p,l,e⟩:=h;exact⟨j,p,GZ l d a,λi m x f g=>Eu (e i m x f g) d o⟩
theorem Mc(h:Hr lo w v ms)(a:Bw w w'):Hr lo w' v ms :=
 NS (S:=λ_=>False) h (Cf a _) (λ_ _ h=>h.elim) λ_ _ h=>h.elim
theorem MQ(h:Hr lo w v ms):∃p c,v=.slice p ms.length c:=by
 obtain⟨d,_,a,_⟩:=h;exact Bm a
theorem Zd(lo:Nat)(w:World):Hr lo w (.slice none 0 0) []:=⟨[],rfl,BL _ _ _ _,λi m x a=>by simp at a⟩
theorem Jc(h:Hr lo w v ms){k:Nat}(d:v.ownBlock=some k):lo<=k/\k<w.heap.size/\∃f,w.heap[k]?=some (Oc f 37):=by
 obtain⟨m,_,l,_⟩:=h
 rcases l.2 with ⟨rfl,_⟩|⟨g,i,j,rfl,e,a,_⟩
 . cases d
 . obtain rfl:g=k:=Bq d
   exact⟨e,(As a),_,a⟩
def Gu (who u:Int) (S:Cl) (vm:Value):Array Value:=#[I6 who,I6 u,I6 S.rev,Sx S.seen,vm,Sx S.doc,I6 S.id,I6 S.drops]
def Bf (lo:Nat) (w:World) (b:Nat) (who u:Int) (S:Cl):Prop :=
 lo<=b/\∃vm,w.heap[b]?=some (Oc (Gu who u S vm) 95)/\Hr lo w vm S.mine
def Dv (w:World) (b k:Nat):Prop:=k=b\/∃vm,w.cell? (Ad b 4)=some vm/\vm.ownBlock=some k
theorem IA(h:Bf lo w b who u S):b<w.heap.size:=by
 obtain⟨_,d,a,_⟩:=h;exact(As a)
theorem Kt(h:Bf lo w b who u S){k:Nat}(g:Dv w b k):lo<=k/\k<w.heap.size/\∃f T,w.heap[k]?=some (Oc f T)/\(T=95\/T=37):=by
 obtain⟨m,o,d,j⟩:=h
 rcases g with rfl|⟨i,e,g⟩
 . exact⟨m,(As d),_,_,d,.inl rfl⟩
 . have l:=cQ d 4 rfl
   rw[l]at e;obtain rfl:=Bq e;obtain⟨a,b,f,c⟩:=Jc j g;exact⟨a,b,f,_,c,.inr rfl⟩
theorem ZD(h:Bf lo w b who u S){k:Nat}(e:Dv w b k):F7 w k:=by
 obtain⟨_,_,f,T,a,d⟩:=Kt h e;exact C6 a (by rcases d with rfl|rfl<;>decide)
theorem TO{lo:Nat}{w w':World}{b:Nat}{who u:Int}{S:Cl}{X:Nat->Prop}(h:Bf lo w b who u S)(f:sameBut w w' X)(m:∀k,k<w.heap.size->X k->lo<=k/\F7 w k)(g:∀k,X k->¬Dv w b k):Bf lo w' b who u S:=by
 obtain⟨o,d,a,i⟩:=h;have l:=cQ a 4 rfl;exact⟨o,d,(f.2 b (As a) λe=>g b e (.inl rfl)).trans a,NS i f m λk j e=>g k e (.inr ⟨d,l,j⟩)⟩
theorem IP(h:Bf lo w b who u S)(a:Bw w w'):Bf lo w' b who u S :=
 TO (X:=λ_=>False) h (Cf a _) (λ_ _ h=>h.elim) λ_ h=>h.elim
theorem QE{w w':World}{b k:Nat}{X:Nat->Prop}(i:sameBut w w' X)(d:b<w.heap.size)(j:¬X b)(h:Dv w' b k):Dv w b k:=by
 rcases h with rfl|⟨g,e,f⟩
 . exact .inl rfl
 . exact .inr ⟨g,(AE (w:=w) (a:=(Ad b 4)) (i.2 b d j)).symm.trans e,f⟩
def keptC (w w':World) (b:Nat):Prop:=sameBut w w' (Dv w b)/\∀k,Dv w' b k->Dv w b k\/w.heap.size<=k
theorem Kx(h:Bw w w')(a:b<w.heap.size):keptC w w' b :=
 ⟨Cf h _,λk d=>.inl (QE (X:=λ_=>False) (Cf h _) a id d)⟩
theorem keptC.trans{d:World}(h:keptC w w' b)(g:keptC w' d b):keptC w d b :=
 ⟨h.1.comp g.1 λk f e=>(h.2 k e).elim id λa=>absurd f (by omega),λk f=>(g.2 k f).elim (h.2 k) λa=>.inr (AF h.1.1 a)⟩
def Hl (who u:Int) (S:Cl) (v1 v2:Value):Array Value:=#[I6 who,I6 u,Sx S.doc,Sx S.seen,I6 S.rev,I6 S.id,v1,v2,.bool (decide (1<=S.mine.length)),.bool (decide (2<=S.mine.length)),I6 S.drops]
def B8 (S:Cl) (i:Nat):List Pt:=(S.mine[i]?).getD []
def Cj (lo:Nat) (w:World) (y:Nat) (who u:Int) (S:Cl):Prop :=
 lo<=y/\∃v1 v2,w.heap[y]?=some (Oc (Hl who u S v1 v2) 69)/\Ar lo w v1 (B8 S 0)/\Ar lo w v2 (B8 S 1)
theorem Ks(h:Cj lo w y who u S):y<w.heap.size:=by
 obtain⟨_,d,e,a,_⟩:=h;exact(As a)
theorem jz(h:Cj lo w y who u S):F7 w y:=by
 obtain⟨_,d,e,a,_⟩:=h;exact C6 a (by decide)
theorem TR{lo:Nat}{w w':World}{y:Nat}{who u:Int}{S:Cl}{X:Nat->Prop}(h:Cj lo w y who u S)(a:sameBut w w' X)(e:∀k,k<w.heap.size->X k->lo<=k/\F7 w k)(i:¬X y):Cj lo w' y who u S:=by
 obtain⟨j,l,g,d,f,m⟩:=h;exact⟨j,l,g,(a.2 y (As d) i).trans d,Eu f a e,Eu m a e⟩
theorem fV(h:Cj lo w y who u S)(a:Bw w w'):Cj lo w' y who u S :=
 TR (X:=λ_=>False) h (Cf a _) (λ_ _ h=>h.elim) id
end
section
variable {e lo : Nat}{w w' : World}{v1 : Value}{ps : List Pk}
def Dq (p:Pk) (v:Value):List Value:=[I6 p.kind,I6 (p.c:Int),I6 p.rev,I6 p.id,I6 p.x.c,I6 p.x.i,v]
def pkC (ps:List Pk) (vs:List Value):List Value:=(ps.zip vs).flatMap λx=>Dq x.1 x.2
theorem Nr:∀(ps:List Pk)(a:List Value),a.length=ps.length->(pkC ps a).length=ps.length*7
 | [],[],_=>rfl
 | x :: E,v :: a,h=>by
  have ih:=Nr E a (by simpa using h);have e:pkC (x :: E) (v :: a)=Dq x v++pkC E a:=rfl;rw[e,AA,ih];simp[Dq];omega
theorem Wd:∀(ps:List Pk)(a:List Value)(i:Nat)(x:Pk)(v:Value),ps[i]?=some x->a[i]?=some v->∀j,j<7->(pkC ps a)[i*7+j]?=(Dq x v)[j]?
 | [],_,_,_,_,h,_,_,_=>by simp at h
 | _ :: _,[],_,_,_,_,h,_,_=>by simp at h
 | y :: E,u :: a,0,x,v,h,h2,j,hj=>by
  obtain rfl:y=x:=by simpa using h
  obtain rfl:u=v:=by simpa using h2
  have e:pkC (y :: E) (u :: a)=Dq y u++pkC E a:=rfl;rw[e,FT,DC,AX (by simp[Dq];omega)]
 | y :: E,u :: a,i+1,x,v,h,h2,j,hj=>by
  have ih:=Wd E a i x v (by simpa using h) (by simpa using h2) j hj;have e:pkC (y :: E) (u :: a)=Dq y u++pkC E a:=rfl;have d:(Dq y u).length=7:=rfl;rw[e,show(i+1)*7+j=(Dq y u).length+(i*7+j) by rw[d];omega,AL (Nat.le_add_right _ _),Nat.add_sub_cancel_left];exact ih
theorem Rp(a b:List Pk)(d f:List Value)(h:d.length=a.length):pkC (a++b) (d++f)=pkC a d++pkC b f:=by
 unfold pkC;rw[List.zip_append h.symm,FG]
theorem Qj:∀(ps:List Pk)(a:List Value)(i:Nat),a.length=ps.length->(pkC ps a).take (i*7)=pkC (ps.take i) (a.take i)
 | _,_,0,_=>by simp[pkC]
 | [],[],i+1,_=>by simp[pkC]
 | x :: ps,v :: a,i+1,h=>by
  have ih:=Qj ps a i (by simpa using h);have e:pkC (x :: ps) (v :: a)=Dq x v++pkC ps a:=rfl;have f:pkC ((x :: ps).take (i+1)) ((v :: a).take (i+1))=Dq x v++pkC (ps.take i) (a.take i):=rfl;have d:(Dq x v).length=7:=rfl;rw[e,f,List.take_append,d,AQ (by rw[d];omega),show(i+1)*7 - 7=i*7 by omega,ih]
theorem Og:∀(ps:List Pk)(a:List Value)(i:Nat),a.length=ps.length->(pkC ps a).drop (i*7)=pkC (ps.drop i) (a.drop i)
 | _,_,0,_=>by simp
 | [],[],i+1,_=>by simp[pkC]
 | x :: ps,v :: a,i+1,h=>by
  have ih:=Og ps a i (by simpa using h);have e:pkC (x :: ps) (v :: a)=Dq x v++pkC ps a:=rfl;have d:(Dq x v).length=7:=rfl;rw[e,List.drop_append,d,DT (by rw[d];omega),show(i+1)*7 - 7=i*7 by omega,BA];exact ih
def Hk (e:TypeId) (lo:Nat) (w:World) (v1:Value) (ps:List Pk):Prop :=
 ∃vs,vs.length=ps.length/\w.ownsRow lo e 7 v1 ps.length (pkC ps vs)/\∀(i:Nat) (x:Pk) (v:Value),ps[i]?=some x->vs[i]?=some v->Ar lo w v x.x.op
theorem JB{e lo:Nat}{w w':World}{v1:Value}{ps:List Pk}{S:Nat->Prop}(h:Hk e lo w v1 ps)(l:sameBut w w' S)(f:∀k,k<w.heap.size->S k->lo<=k/\F7 w k/\∀o z,w.heap[k]?≠some (.cells o e z)):Hk e lo w' v1 ps:=by
 obtain⟨r,F,m,p⟩:=h;refine⟨r,F,GZ m l λk d a=>?_,λi x v B A=>Eu (p i x v B A) l λk d a=>⟨(f k d a).1,(f k d a).2.1⟩⟩
 rcases m.2 with ⟨rfl,_⟩|⟨g,s,C,rfl,_,j,_⟩
 . cases d
 . obtain rfl:g=k:=Bq d
   exact(f g (As j) a).2.2 _ _ j
theorem Zx(h:Hk e lo w v1 ps)(a:Bw w w'):Hk e lo w' v1 ps :=
 JB (S:=λ_=>False) h (Cf a _) λ_ _ h=>h.elim
theorem Zy(h:Hk e lo w v1 ps):∃p c,v1=.slice p ps.length c:=by
 obtain⟨d,_,a,_⟩:=h;exact Bm a
theorem Kd(h:Hk e lo w v1 ps){k:Nat}(d:v1.ownBlock=some k):lo<=k/\k<w.heap.size/\∃i,w.heap[k]?=some (Oc i e):=by
 obtain⟨o,_,m,_⟩:=h
 rcases m.2 with ⟨rfl,_⟩|⟨g,j,l,rfl,f,a,_⟩
 . cases d
 . obtain rfl:g=k:=Bq d
   exact⟨f,(As a),_,a⟩
theorem XS(e lo:Nat)(w:World):Hk e lo w (.slice none 0 0) []:=⟨[],rfl,BL _ _ _ _,λi x v a=>by simp at a⟩
theorem Rv{p:Option Addr}{n c:Nat}(h:Hk e lo w (.slice p n c) ps)(s:ps≠[]):∃g,p=some (Ad g 0)/\g<w.heap.size/\n=ps.length/\n<=c/\c<=maxLen/\∀i x,ps[i]?=some x->∃v,w.cell? (Ad g (i*7))=some (I6 x.kind)/\w.cell? (Ad g (i*7+1))=some (I6 (x.c:Int))/\w.cell? (Ad g (i*7+2))=some (I6 x.rev)/\w.cell? (Ad g (i*7+3))=some (I6 x.id)/\w.cell? (Ad g (i*7+4))=some (I6 x.x.c)/\w.cell? (Ad g (i*7+5))=some (I6 x.x.i)/\w.cell? (Ad g (i*7+6))=some v/\Ar lo w v x.x.op:=by
 obtain⟨d,N,⟨Q,k⟩,I⟩:=h
 rcases k with ⟨_,G⟩|⟨g,B,o,l,O,z,F,J,L,H⟩
 . exact absurd (BC G) s
 . injection l with hp hn a
   subst hp hn a;refine⟨g,rfl,(As z),rfl,F,J,λi x m=>?_⟩;have P:i<ps.length:=(De m);have r:i<d.length:=by omega
   have l:d[i]?=some d[i]:=B7 r;have K:=Wd ps d i x d[i] m l
   have a:∀j u,j<7->(Dq x d[i])[j]?=some u->w.cell? (Ad g (i*7+j))=some u:=λj u C A=>by
    have f:o[i*7+j]?=some u:=by
     rw[←CE];have:=congrArg (·[i*7+j]?) H;simp only[DU,show i*7+j<ps.length*7 by omega,if_true]at this;rw[this,K j C,A]
    unfold World.cell?;simp[z,f]
   exact⟨d[i],a 0 _ (by omega) rfl,a 1 _ (by omega) rfl,a 2 _ (by omega) rfl,a 3 _ (by omega) rfl,a 4 _ (by omega) rfl,a 5 _ (by omega) rfl,a 6 _ (by omega) rfl,I i x d[i] m l⟩
theorem Ze{r vx:Value}{x:Pk}(C:e≠87){d:List Value}(j:d.length=ps.length)(G:w.ownsRow lo e 7 v1 ps.length (pkC ps d))
    (p:∀(i:Nat) (y:Pk) (v:Value),ps[i]?=some y->d[i]?=some v->Ar lo w v y.x.op) (F:Ar lo w vx x.x.op) (B:w.grownBy w' v1.ownBlock) (f:w'.ownsRow lo e 7 r (ps.length+1) (pkC ps d++Dq x vx)):Hk e lo w' r (ps++[x]):=by
 have A:=λk=>Kd (k:=k) ⟨d,j,G,p⟩;have s:sameBut w w' λk=>v1.ownBlock=some k:=IU B λk e=>e;have z:∀k,k<w.heap.size->v1.ownBlock=some k->lo<=k/\F7 w k:=λk _ m=>by
  obtain⟨a,b,H,c⟩:=A k m;exact⟨a,C6 c C⟩
 refine⟨d++[vx],by simp[j],?_,λi y v g h=>?_⟩
 . rw[Rp ps [x] d [vx] j,AA]
   have e:pkC [x] [vx]=Dq x vx:=by unfold pkC;simp
   rw[e];exact f
 . rcases CQ i ps.length with o | o
   . rw[AX o]at g
     rw[AX (by omega)]at h;exact Eu (p i y v g h) s z
   . have:i<(ps++[x]).length:=(De g)
     have l:i=ps.length:=by simp at this;omega
     subst l;rw[AL (Ai _),BP]at g;rw[AL (by omega),j,BP]at h;obtain rfl:x=y:=by simpa using g
     obtain rfl:vx=v:=by simpa using h
     exact Eu F s z
end
section
variable {lo bmx r k b bx : Nat}{w w' : World}{bs : List Nat}{cl : List (Int × Cl)}{S : Cl}{R : Rm}
def Ef (bs:List Nat):List Value:=bs.map λb=>Pd b 0
structure E8 (lo:Nat) (w:World) (bs:List Nat) (cl:List (Int×Cl)):Prop where
 len:bs.length=cl.length
 each:∀(k b:Nat) (q:Int×Cl),bs[k]?=some b->cl[k]?=some q->Bf lo w b (k:Int) q.1 q.2
 apart:∀(j k b b':Nat),bs[j]?=some b->bs[k]?=some b'->j≠k->∀x,Dv w b x->¬Dv w b' x
structure Ac (lo:Nat) (w:World) (r bx bmx:Nat) (bs:List Nat) (R:Rm):Prop where
 low:lo<=r
 blk:∃vc vf,w.heap[r]?=some (Oc #[Pd bx 0,vc,vf,I6 (R.lost:Int)] 78)/\w.ownsRow lo 47 1 vc bs.length (Ef bs)/\Hk 111 lo w vf R.fl
 cls:E8 lo w bs R.cl
 srv:Ex lo R.n w bx bmx R.t R.E R.M
def J1 (T:TypeId):Prop:=T=78\/T=111\/T=47\/T=125\/T=109\/T=95\/T=37
def El (lo:Nat) (w:World) (bmx k:Nat):Prop:=lo<=k/\(k=bmx\/∃cs T,w.heap[k]?=some (Oc cs T)/\J1 T)
def Te (lo:Nat) (w:World) (k:Nat):Prop:=lo<=k/\∃cs T,w.heap[k]?=some (Oc cs T)/\(T=78\/T=111)
def IY (w:World) (r k:Nat):Prop:=k=r\/∃v,w.cell? (Ad r 2)=some v/\v.ownBlock=some k
def keptF (w w':World) (r:Nat):Prop:=sameBut w w' (IY w r)/\∀k,IY w' r k->IY w r k\/w.heap.size<=k
theorem Ku(h:sameBut w w' (Te lo w)):sameBut w w' (El lo w bmx):=h.mono λk _ ⟨a,d,T,f,g⟩=>⟨a,.inr ⟨d,T,f,by rcases g with rfl|rfl<;>simp[J1]⟩⟩
theorem Zm(a:r<w.heap.size)(d:Bw w w')(h:IY w' r k):IY w r k:=by
 rcases h with rfl|⟨v,e,f⟩
 . exact .inl rfl
 . exact .inr ⟨v,(zC d r 2 a).symm.trans e,f⟩
theorem Ip(d:r<w.heap.size)(a:Bw w w'):keptF w w' r:=⟨Cf a _,λk f=>.inl (Zm d a f)⟩
theorem keptF.trans{d:World}(h:keptF w w' r)(g:keptF w' d r):keptF w d r :=
 ⟨h.1.comp g.1 λk f e=>(h.2 k e).elim id λa=>absurd f (by omega),λk f=>(g.2 k f).elim (h.2 k) λa=>.inr (AF h.1.1 a)⟩
theorem ID{e size n:Nat}{v:Value}{m:List Value}(h:w.ownsRow lo e size v n m){k:Nat}(d:v.ownBlock=some k):lo<=k/\k<w.heap.size/\∃i,w.heap[k]?=some (Oc i e):=by
 rcases h.2 with ⟨rfl,_⟩|⟨g,j,l,rfl,f,a,_⟩
 . cases d
 . obtain rfl:g=k:=Bq d
   exact⟨f,(As a),_,a⟩
theorem QC{lo:Nat}{w w':World}{bs:List Nat}{cl:List (Int×Cl)}{X:Nat->Prop}(h:E8 lo w bs cl)(i:sameBut w w' X)(A:∀k,k<w.heap.size->X k->lo<=k/\F7 w k)(m:∀b∈bs,∀k,X k->¬Dv w b k):E8 lo w' bs cl:=by
 have p:∀(k b:Nat),bs[k]?=some b->b<w.heap.size:=λk b a=>by
  have s:k<cl.length:=by rw[←h.len];exact(De a)
  exact IA (h.each k b cl[k] a (B7 s))
 refine⟨h.len,λk b q a z=>TO (h.each k b q a z) i A (m b (BI a)),λj k b g a d o x l f=>?_⟩;have l:=QE i (p j b a) (λe=>m b (BI a) b e (.inl rfl)) l;have f:=QE i (p k g d) (λe=>m g (BI d) g e (.inl rfl)) f;exact h.apart j k b g a d o x l f
theorem UQ(h:E8 lo w bs cl)(a:Bw w w'):E8 lo w' bs cl :=
 QC (X:=λ_=>False) h (Cf a _) (λ_ _ h=>h.elim) λ_ _ _ h=>h.elim
theorem eX{u:Int}(h:E8 lo w bs cl)(A:bs[k]?=some b)(N:Bf lo w' b (k:Int) u S)(Q:keptC w w' b):E8 lo w' bs (cl.set k (u,S)):=by
 obtain⟨K,B⟩:=Q;have J:∀(j m:Nat),bs[j]?=some m->∃q,cl[j]?=some q/\Bf lo w m (j:Int) q.1 q.2:=λj m d=>by
  have L:j<cl.length:=by rw[←h.len];exact(List.getElem?_eq_some_iff.1 d).1
  exact⟨cl[j],B7 L,h.each j m cl[j] d (B7 L)⟩
 obtain⟨q,P,H⟩:=J k b A;have O:∀x,x<w.heap.size->Dv w b x->lo<=x/\F7 w x:=λx _ g=>⟨(Kt H g).1,ZD H g⟩;have C:∀(j m:Nat),bs[j]?=some m->j≠k->∀x,Dv w' m x->Dv w m x:=λj m d f x g=>by
  obtain⟨I,_,s⟩:=J j m d;exact QE K (IA s) (λe=>h.apart k j b m A d (GE f) m e (.inl rfl)) g
 refine⟨by rw[h.len,List.length_set],λj m I d o=>?_,λi j c G p l z x g a=>?_⟩
 . rw [List.getElem?_set]at o
   by_cases f:k=j
   . subst f
     rw[if_pos rfl]at o
     split at o
     . obtain rfl:=Bq o
       rw[A]at d;obtain rfl:=Bq d;exact N
     . cases o
   . rw[if_neg f]at o
     exact TO (h.each j m I d o) K O λx g a=>h.apart k j b m A d f x g a
 . by_cases F:i=k
   . subst F
     rw[A]at p;obtain rfl:=Bq p;have a:=C j G l (GE z) x a
     rcases B x g with g|g
     . exact h.apart i j b G A l z x g a
     . obtain⟨I,_,s⟩:=J j G l
       exact absurd (Kt s a).2.1 (by omega)
   . have g:=C i c p F x g
     by_cases f:j=k
     . subst f
       rw[A]at l;obtain rfl:=Bq l
       rcases B x a with a | a
       . exact h.apart i j c b p A z x g a
       . obtain⟨I,_,s⟩:=J i c p
         exact absurd (Kt s g).2.1 (by omega)
     . exact h.apart i j c G p l z x g (C j G l f x a)
theorem P9(h:E8 lo w bs cl){b:Nat}(g:b∈bs){k:Nat}(i:Dv w b k):lo<=k/\k<w.heap.size/\∃f T,w.heap[k]?=some (Oc f T)/\(T=95\/T=37):=by
 obtain⟨j,d⟩:=List.mem_iff_getElem?.1 g;have a:j<cl.length:=by rw[←h.len];exact(De d)
 exact Kt (h.each j b cl[j] d (B7 a)) i
theorem Zf{lo:Nat}{w w':World}{r bx bmx:Nat}{bs:List Nat}{R:Rm}{X:Nat->Prop}(h:Ac lo w r bx bmx bs R)(g:sameBut w w' X)(i:∀k,k<w.heap.size->X k->lo<=k/\F7 w k/\k≠bmx/\∀f T l,w.heap[k]?=some (.cells f T l)->¬J1 T):Ac lo w' r bx bmx bs R:=by
 obtain⟨C,⟨vc,vf,p,A,F⟩,x,H⟩:=h;have m:∀k f T,w.heap[k]?=some (Oc f T)->J1 T->¬X k:=λk f T a s d=>(i k (As a) d).2.2.2 f T _ a s;refine⟨C,⟨vc,vf,(g.2 r (As p) (m r _ _ p (.inl rfl))).trans p,GZ A g λk a=>?_,JB F g λk a d=>?_⟩,QC x g (λk a d=>⟨(i k a d).1,(i k a d).2.1⟩) λb B k d a=>?_,?_⟩
 . obtain⟨_,_,f,j⟩:=ID A a
   exact m k f _ j (.inr (.inr (.inl rfl)))
 . exact⟨(i k a d).1,(i k a d).2.1,λf l j=>(i k a d).2.2.2 f _ l j (.inr (.inl rfl))⟩
 . obtain⟨_,_,f,T,j,s⟩:=P9 x B a
   exact m k f T j (by rcases s with rfl|rfl<;>simp[J1]) d
 . obtain⟨I,G,⟨v1,o,J⟩,z⟩:=H
   refine⟨I,G,⟨v1,(g.2 bx (As o) (m bx _ _ o (.inr (.inr (.inr (.inl rfl)))))).trans o,?_⟩,J9 z g λa=>(i bmx (T6 z) a).2.2.1 rfl⟩;refine Kc (S:=λk=>k<w.heap.size/\X k) J ⟨g.1,λk a K=>g.2 k a λe=>K ⟨a,e⟩,g.os,g.tape,g.output⟩ λk a=>?_;exact⟨(i k a.1 a.2).1,(i k a.1 a.2).2.1,λf l j=>(i k a.1 a.2).2.2.2 f _ l j (.inr (.inr (.inr (.inr (.inl rfl)))))⟩
theorem Gg(h:Ac lo w r bx bmx bs R)(a:Bw w w'):Ac lo w' r bx bmx bs R :=
 Zf (X:=λ_=>False) h (Cf a _) λ_ _ h=>h.elim
theorem Ig(h:Ac lo w r bx bmx bs R):r<w.heap.size:=by
 obtain⟨_,⟨vc,vf,a,_⟩,_⟩:=h;exact(As a)
theorem Kj(h:Ac lo w r bx bmx bs R):∃a d g f,w.heap[r]?=some (Oc #[Pd bx 0,.slice a bs.length d,.slice g R.fl.length f,I6 (R.lost:Int)] 78)/\w.ownsRow lo 47 1 (.slice a bs.length d) bs.length (Ef bs)/\Hk 111 lo w (.slice g R.fl.length f) R.fl:=by
 obtain⟨_,⟨vc,vf,l,i,j⟩,_⟩:=h;obtain⟨a,d,rfl⟩:=Bm i;obtain⟨g,f,rfl⟩:=Zy j;exact⟨a,d,g,f,l,i,j⟩
theorem Vd(h:Ac lo w r bx bmx bs R)(A:bs[k]?=some b)(H:Bf lo w' b (k:Int) (Bo R k).1 S)(o:keptC w w' b):Ac lo w' r bx bmx bs (setC R k S)/\sameBut w w' (El lo w bmx):=by
 obtain⟨F,⟨vc,vf,p,C,G⟩,B,I⟩:=h;have f:=λx (j:Dv w b x)=>P9 B (BI A) j;have m:∀x i T s,w.heap[x]?=some (.cells i T s)->Dv w b x->T=95\/T=37:=λx i T s j J=>by
  obtain⟨_,_,z,K,d,g⟩:=f x J;rw[Cx j d];exact g
 refine⟨⟨F,⟨vc,vf,(o.1.2 r (As p) λe=>?_).trans p,GZ C o.1 λx j e=>?_,JB G o.1 λx j e=>?_⟩,eX B A H o,Sz I o.1 λx j e=>?_⟩,o.1.mono λx j e=>?_⟩
 . rcases m r _ _ _ p e with e|e<;>revert e<;>decide
 . obtain⟨_,_,i,l⟩:=ID C j
   rcases m x _ _ _ l e with e|e<;>revert e<;>decide
 . obtain⟨a,_,i,T,d,g⟩:=f x e
   refine⟨a,C6 d (by rcases g with rfl|rfl<;>decide),λz s l=>?_⟩
   rcases m x _ _ _ l e with e|e<;>revert e<;>decide
 . obtain⟨a,_,i,T,d,g⟩:=f x e
   exact⟨a,i,T,_,d,by rcases g with rfl|rfl<;>decide,by rcases g with rfl|rfl<;>decide,by rcases g with rfl|rfl<;>decide⟩
 . obtain⟨a,_,i,T,d,g⟩:=f x e
   exact⟨a,.inr ⟨i,T,d,by rcases g with rfl|rfl<;>simp[J1]⟩⟩
theorem fY{R':Rm}(h:Ac lo w r bx bmx bs R)(I:Ex lo R'.n w' bx bmx R'.t R'.E R'.M)(o:sameBut w w' (IK lo w bmx))(J:R'.cl=R.cl)(N:R'.fl=R.fl)(P:R'.lost=R.lost):Ac lo w' r bx bmx bs R'/\sameBut w w' (El lo w bmx):=by
 obtain⟨H,⟨vc,vf,p,F,B⟩,s,C⟩:=h
 have d:∀x a T m,w.heap[x]?=some (.cells a T m)->T≠125->T≠109->¬IK lo w bmx x:=λx a T m f K L e=>by
  rcases e.2 with rfl|⟨A,O,j,g⟩
  . exact F9 C.2.2.2 _ _ _ f
  . have:=Cx f j
    subst this
    rcases g with e|e
    . exact K e
    . exact L e
 have i:∀x,IK lo w bmx x->lo<=x/\F7 w x:=λx e=>by
  refine⟨e.1,?_⟩
  rcases e.2 with rfl|⟨A,O,j,g⟩
  . exact λa m=>F9 C.2.2.2 a _ m
  . exact C6 j (by rcases g with rfl|rfl<;>decide)
 rw[←P]at p;rw[←N]at B;rw[←J]at s;refine⟨⟨H,⟨vc,vf,(o.2 r (As p) (d r _ _ _ p (by decide) (by decide))).trans p,GZ F o λx f=>?_,JB B o λx f e=>⟨(i x e).1,(i x e).2,λa m l=>d x _ _ _ l (by decide) (by decide) e⟩⟩,QC s o (λx _ e=>i x e) λb G x e f=>?_,I⟩,o.mono λx f e=>?_⟩
 . obtain⟨_,_,a,z⟩:=ID F f
   exact d x _ _ _ z (by decide) (by decide)
 . obtain⟨_,_,a,T,l,g⟩:=P9 s G f
   exact d x _ _ _ l (by rcases g with rfl|rfl<;>decide) (by rcases g with rfl|rfl<;>decide) e
 . exact⟨e.1,e.2.imp id λ⟨a,T,l,g⟩=>⟨a,T,l,by rcases g with rfl|rfl<;>simp[J1]⟩⟩
theorem Ve{lo:Nat}{w w':World}{r bx bmx:Nat}{bs:List Nat}{R R':Rm}{X:Nat->Prop}{vc vf:Value}(h:Ac lo w r bx bmx bs R)(N:w'.heap[r]?=some (Oc #[Pd bx 0,vc,vf,I6 (R'.lost:Int)] 78))(d:∃a b c,w.heap[r]?=some (Oc #[a,vc,b,c] 78))
    (K:Hk 111 lo w' vf R'.fl) (p:sameBut w w' X) (z:∀k,k<w.heap.size->X k->lo<=k/\∃i T,w.heap[k]?=some (Oc i T)/\(T=78\/T=111)) (Y:R'.n=R.n) (H:R'.t=R.t) (P:R'.E=R.E) (Z:R'.M=R.M) (U:R'.cl=R.cl):Ac lo w' r bx bmx bs R':=by
 obtain⟨J,⟨l,I,L,C,g4⟩,B,O⟩:=h;have o:l=vc:=by
  obtain⟨a,b,c,d⟩:=d;rw[L]at d;injection d with d;injection d with d;have:=congrArg (λx:Array Value=>x[1]?) d;simpa using this
 subst o;have m:∀x i T F,x<w.heap.size->w.heap[x]?=some (.cells i T F)->T≠78->T≠111->¬X x:=λx i T F f j Q W e=>by
  obtain⟨_,cs',T',s,g⟩:=z x f e;have:=Cx j s;subst this
  rcases g with e|e
  . exact Q e
  . exact W e
 refine⟨J,⟨l,vf,N,GZ C p λx j=>?_,K⟩,?_,?_⟩
 . obtain⟨_,f,i,A⟩:=ID C j
   exact m x _ _ _ f A (by decide) (by decide)
 . rw [U]
   refine QC B p (λx j e=>?_) λb G x e j=>?_
   . obtain⟨a,i,T,d,g⟩:=z x j e
     exact⟨a,C6 d (by rcases g with rfl|rfl<;>decide)⟩
   . obtain⟨_,f,i,T,d,g⟩:=P9 B G j
     exact m x _ _ _ f d (by rcases g with rfl|rfl<;>decide) (by rcases g with rfl|rfl<;>decide) e
 . rw[Y,H,P,Z]
   refine Sz O p λx j e=>?_;obtain⟨a,i,T,d,g⟩:=z x j e;exact⟨a,i,T,_,d,by rcases g with rfl|rfl<;>decide,by rcases g with rfl|rfl<;>decide,by rcases g with rfl|rfl<;>decide⟩
theorem Tr(h:Ac lo w r bx bmx bs R){k:Nat}(f:IY w r k):lo<=k/\k<w.heap.size/\∃d T,w.heap[k]?=some (Oc d T)/\(T=78\/T=111):=by
 obtain⟨m,⟨vc,vf,g,o,i⟩,_,_⟩:=h
 rcases f with rfl|⟨v,e,f⟩
 . exact⟨m,(As g),_,_,g,.inl rfl⟩
 . have l:=cQ g 2 rfl
   rw[l]at e;obtain rfl:=Bq e;obtain⟨a,b,d,j⟩:=Kd i f;exact⟨a,b,d,_,j,.inr rfl⟩
theorem keptF.touch(i:keptF w w' r)(h:Ac lo w r bx bmx bs R):sameBut w w' (Te lo w):=i.1.mono λk _ f=>by
 obtain⟨a,_,d,T,j,g⟩:=Tr h f;exact⟨a,d,T,j,g⟩
end
section
attribute [local go_sem] Oper.semAt_some
variable {lo r bx bmx : Nat}{w : World}{bs : List Nat}{R : Rm}
theorem NF(h:Ac lo w r bx bmx bs R) :
    Cg 38 #[Pd r 0] w λe w'=>∃d f i g,e=.returned (.agg #[Pd bx 0,.slice d bs.length f,.slice i R.fl.length g,I6 (R.lost:Int)])/\w.ownsRow lo 47 1 (.slice d bs.length f) bs.length (Ef bs)/\Hk 111 lo w (.slice i R.fl.length g) R.fl/\Bw w w':=by
 obtain⟨d,f,i,g,a,j,l⟩:=Kj h;have m:=Aa j;have p:=Aa l;have s:=cQ a 0 rfl;have x:=cQ a 1 rfl;have A:=cQ a 2 rfl;have z:=cQ a 3 rfl;have o:r<w.heap.size:=Ig h;clear h a j l
 go_enter func38,ntmps38
 go_wp2;refine bodyPost_ret (v:=.agg #[Pd bx 0,.slice d bs.length f,.slice i R.fl.length g,I6 (R.lost:Int)]) (by simp[results,results38,go_sem]) rfl ⟨_,_,_,_,rfl,m.out,p.out,?_⟩;exact zA _ _
theorem Pg(a:Addr)(p q:Option Addr)(n m n' d:Nat)(x:Int)(w:World):(Instr.field 78 (.agg #[.pointer (some a),.slice p n m,.slice q n' d,I6 x]) 0).run prog w=.ok (.pointer (some a)) w:=by kernel_rfl
theorem Pf(a:Addr)(p q:Option Addr)(n m n' d:Nat)(x:Int)(w:World):(Instr.field 78 (.agg #[.pointer (some a),.slice p n m,.slice q n' d,I6 x]) 1).run prog w=.ok (.slice p n m) w:=by kernel_rfl
theorem Pe(a:Addr)(p q:Option Addr)(n m n' d:Nat)(x:Int)(w:World):(Instr.field 78 (.agg #[.pointer (some a),.slice p n m,.slice q n' d,I6 x]) 2).run prog w=.ok (.slice q n' d) w:=by kernel_rfl
theorem Pc(a:Addr)(p q:Option Addr)(n m n' d:Nat)(x:Int)(w:World):(Instr.field 78 (.agg #[.pointer (some a),.slice p n m,.slice q n' d,I6 x]) 3).run prog w=.ok (I6 x) w:=by kernel_rfl
attribute [local go_sem] Pg Pf Pe Pc
theorem Si(h:Ac lo w r bx bmx bs R) :
    Cg 23 #[Pd r 0] w (Rt w (I6 (R.fl.length:Int))):=by
 have C:Hid _:=NF h;clear h
 go_enter func23,ntmps23
 go_wp2_with (go_at_call 38;refine AC C.out ?_;rintro e g ⟨f,i,l,j,rfl,_,_,a⟩;have d:=Aa a;clear a)
 go_ret;exact⟨rfl,d.out⟩
theorem ir(h:Ac lo w r bx bmx bs R) :
    Cg 24 #[Pd r 0] w (Rt w (I6 (R.lost:Int))):=by
 have C:Hid _:=NF h;clear h
 go_enter func24,ntmps24
 go_wp2_with (go_at_call 38;refine AC C.out ?_;rintro e g ⟨f,i,l,j,rfl,_,_,a⟩;have d:=Aa a;clear a)
 go_ret;exact⟨rfl,d.out⟩
theorem iw(h:Ac lo w r bx bmx bs R) :
    Cg 25 #[Pd r 0] w (Rt w (Sx R.t)):=by
 have C:Hid _:=NF h;have j:=Aa λi (f:Bw w i)=>js _ _ _ bx bmx R.t R.E R.M (MT h.srv f);clear h
 go_enter func25,ntmps25
 go_wp2_with (first
  | (go_at_call 38;refine AC C.out ?_;rintro e m ⟨l,o,x,s,rfl,_,_,a⟩;have d:=Aa a;clear a)
  | (go_at_call 59;refine(j.out _ d.out).mono ?_;rintro e p ⟨g,rfl⟩;obtain rfl:=g.symm))
 go_ret;exact⟨rfl,d.out⟩
theorem ez(h:Ac lo w r bx bmx bs R) :
    Cg 26 #[Pd r 0] w (Rt w (I6 (R.E.length:Int))):=by
 have C:Hid _:=NF h;have j:=Aa λi (f:Bw w i)=>YA _ _ _ bx bmx R.t R.E R.M (MT h.srv f);clear h
 go_enter func26,ntmps26
 go_wp2_with (first
  | (go_at_call 38;refine AC C.out ?_;rintro e m ⟨l,o,x,s,rfl,_,_,a⟩;have d:=Aa a;clear a)
  | (go_at_call 60;refine(j.out _ d.out).mono ?_;rintro e p ⟨g,rfl⟩;obtain rfl:=g.symm))
 go_ret;exact⟨rfl,d.out⟩
theorem WR{e n m c:Nat}{p:Option Addr}{i:List Value}(h:w.ownsRow lo e 1 (.slice p m c) n i){k:Nat}{u:Value}(f:i[k]?=some u):∃g,p=some (Ad g 0)/\g<w.heap.size/\w.cell? (Ad g k)=some u:=by
 have d:=(De f);obtain⟨j,a⟩:=id h
 rcases a with ⟨e,l⟩|⟨g,s,x,e,z,o,_⟩
 . rw[l]at j;rw[j]at d;exact absurd d (by omega)
 . injection e with e1 _ _
   subst e1;refine⟨g,rfl,(As o),?_⟩;have:=World.ownsRow.cells (g:=g) h rfl k u f;rw[DG,DC]at this;exact this
theorem T4{k b:Nat}(h:bs[k]?=some b):(Ef bs)[k]?=some (Pd b 0):=by unfold Ef;rw[BD,h];rfl
theorem UY(h:Ac lo w r bx bmx bs R){k b:Nat}(f:bs[k]?=some b)(F:bs.length<=1000) :
    Cg 9 #[Pd r 0,I6 (k:Int)] w (Rt w (.tuple #[Pd b 0,.nilIface])):=by
 have C:Hid _:=NF h;have J:k<bs.length:=(De f);have l:=Aa f;have A:(k:Int)<(bs.length:Int):=by omega
 have B:¬(bs.length:Int)<=(k:Int):=by omega
 have x:¬(k:Int)<0:=by omega
 have s:(bs.length:Int)<=1000:=by omega
 clear h f
 go_enter func9,ntmps9
 go_wp2_with (go_at_call 38;refine AC C.out ?_;rintro e p ⟨G,H,K,I,rfl,o,_,d⟩;have j:=Aa d;obtain⟨g,i,m,a⟩:=WR o (T4 l.out);subst i;have z:p.cell? (Ad g k)=some (Pd b 0):=(zC d g k m).trans a;clear d o a)
 go_ret2
 exact⟨rfl,j.out⟩
theorem ab(h:Ac lo w r bx bmx bs R)(k:Int)(f:k<0\/(bs.length:Int)<=k) :
    Cg 9 #[Pd r 0,I6 k] w (Rt w (.tuple #[.pointer none,.iface 30 (I6 2)])):=by
 have C:Hid _:=NF h;clear h
 by_cases j:k<0
 . clear f
   go_enter func9,ntmps9
   go_wp2_with (go_at_call 38;refine AC C.out ?_;rintro e i ⟨g,l,p,o,rfl,_,_,a⟩;have d:=Aa a;clear a)
   go_ret2
   exact⟨rfl,d.out⟩
 . have m:(bs.length:Int)<=k:=by omega
   clear f
   go_enter func9,ntmps9
   go_wp2_with (go_at_call 38;refine AC C.out ?_;rintro e i ⟨g,l,p,o,rfl,_,_,a⟩;have d:=Aa a;clear a)
   go_ret2
   exact⟨rfl,d.out⟩
end
section
attribute [local go_sem] Oper.semAt_some
variable {lo b : Nat}{w : World}{who u : Int}{S : Cl}
theorem On(h:Bf lo w b who u S) :
    Cg 61 #[Pd b 0] w λe w'=>∃p c,e=.returned (.agg #[I6 who,I6 u,I6 S.rev,Sx S.seen,.slice p S.mine.length c,Sx S.doc,I6 S.id,I6 S.drops])/\Hr lo w (.slice p S.mine.length c) S.mine/\Bw w w':=by
 obtain⟨_,m,a,d⟩:=h;obtain⟨p,c,rfl⟩:=MQ d;have g:=Aa d;have f:b<w.heap.size:=(As a);unfold Gu at a;have i:=cQ a 0 rfl;have s:=cQ a 1 rfl;have A:=cQ a 2 rfl;have x:=cQ a 3 rfl;have z:=cQ a 4 rfl;have o:=cQ a 5 rfl;have j:=cQ a 6 rfl;have l:=cQ a 7 rfl;clear a d
 go_enter func61,ntmps61
 go_wp2;refine bodyPost_ret (v:=.agg #[I6 who,I6 u,I6 S.rev,Sx S.seen,.slice p S.mine.length c,Sx S.doc,I6 S.id,I6 S.drops]) (by simp[results,results61,go_sem]) rfl ⟨_,_,rfl,g.out,?_⟩;exact zA _ _
theorem S4(a b c d e:Int)(s t:ByteArray)(p:Option Addr)(n m:Nat)(w:World):(Instr.field 95 (.agg #[I6 a,I6 b,I6 c,.string s,.slice p n m,.string t,I6 d,I6 e]) 1).run prog w=.ok (I6 b) w:=by kernel_rfl
theorem S1(a b c d e:Int)(s t:ByteArray)(p:Option Addr)(n m:Nat)(w:World):(Instr.field 95 (.agg #[I6 a,I6 b,I6 c,.string s,.slice p n m,.string t,I6 d,I6 e]) 2).run prog w=.ok (I6 c) w:=by kernel_rfl
theorem S0(a b c d e:Int)(s t:ByteArray)(p:Option Addr)(n m:Nat)(w:World):(Instr.field 95 (.agg #[I6 a,I6 b,I6 c,.string s,.slice p n m,.string t,I6 d,I6 e]) 3).run prog w=.ok (.string s) w:=by kernel_rfl
theorem SZ(a b c d e:Int)(s t:ByteArray)(p:Option Addr)(n m:Nat)(w:World):(Instr.field 95 (.agg #[I6 a,I6 b,I6 c,.string s,.slice p n m,.string t,I6 d,I6 e]) 4).run prog w=.ok (.slice p n m) w:=by kernel_rfl
theorem SY(a b c d e:Int)(s t:ByteArray)(p:Option Addr)(n m:Nat)(w:World):(Instr.field 95 (.agg #[I6 a,I6 b,I6 c,.string s,.slice p n m,.string t,I6 d,I6 e]) 5).run prog w=.ok (.string t) w:=by kernel_rfl
theorem SX(a b c d e:Int)(s t:ByteArray)(p:Option Addr)(n m:Nat)(w:World):(Instr.field 95 (.agg #[I6 a,I6 b,I6 c,.string s,.slice p n m,.string t,I6 d,I6 e]) 7).run prog w=.ok (I6 e) w:=by kernel_rfl
attribute [local go_sem] S4 S1 S0 SZ SY SX
theorem fC(h:Bf lo w b who u S) :
    Cg 27 #[Pd b 0] w (Rt w (Sx S.doc)):=by
 have C:Hid _:=On h;clear h
 go_enter func27,ntmps27
 go_wp2_with (go_at_call 61;refine AC C.out ?_;rintro e i ⟨g,j,rfl,f,a⟩;have d:=Aa a;clear f a)
 go_ret;exact⟨rfl,d.out⟩
theorem gT(h:Bf lo w b who u S) :
    Cg 28 #[Pd b 0] w (Rt w (Sx S.seen)):=by
 have C:Hid _:=On h;clear h
 go_enter func28,ntmps28
 go_wp2_with (go_at_call 61;refine AC C.out ?_;rintro e i ⟨g,j,rfl,f,a⟩;have d:=Aa a;clear f a)
 go_ret;exact⟨rfl,d.out⟩
theorem NR(h:Bf lo w b who u S) :
    Cg 39 #[Pd b 0] w (Rt w (I6 u)):=by
 have C:Hid _:=On h;clear h
 go_enter func39,ntmps39
 go_wp2_with (go_at_call 61;refine AC C.out ?_;rintro e i ⟨g,j,rfl,f,a⟩;have d:=Aa a;clear f a)
 go_ret;exact⟨rfl,d.out⟩
theorem XC(h:Bf lo w b who u S) :
    Cg 29 #[Pd b 0] w (Rt w (I6 S.rev)):=by
 have C:Hid _:=On h;clear h
 go_enter func29,ntmps29
 go_wp2_with (go_at_call 61;refine AC C.out ?_;rintro e i ⟨g,j,rfl,f,a⟩;have d:=Aa a;clear f a)
 go_ret;exact⟨rfl,d.out⟩
theorem kx(h:Bf lo w b who u S) :
    Cg 31 #[Pd b 0] w (Rt w (I6 S.drops)):=by
 have C:Hid _:=On h;clear h
 go_enter func31,ntmps31
 go_wp2_with (go_at_call 61;refine AC C.out ?_;rintro e i ⟨g,j,rfl,f,a⟩;have d:=Aa a;clear f a)
 go_ret;exact⟨rfl,d.out⟩
theorem Ml(h:Bf lo w b who u S) :
    Cg 30 #[Pd b 0] w (Rt w (.bool (decide (0<S.mine.length)))):=by
 have C:Hid _:=On h;clear h
 go_enter func30,ntmps30
 go_wp2_with (go_at_call 61;refine AC C.out ?_;rintro e i ⟨g,j,rfl,f,a⟩;have d:=Aa a;clear f a)
 go_ret;exact⟨by simp,d.out⟩
end
section
variable {P : Program} (w : World)
theorem U8(base:Nat)(t I e:TypeId)(i:TypeInfo)(z:Value)(size p:Nat)(U:P.underlying t=some (.slice e))(Q:P.info? e=some i)(hz:i.zero=some z)
    (s:i.size=size) (N:i.bytes=p) (X:z.cells.size=size) (Y:0<size) (v:Value) (n:Nat) (H:List Value) (o:w.ownsRow base e size v n H)
    (a:Addr) (m c:Nat) (d:List Value) (W:d.length=m*size) (l:∀j u,d[j]?=some u->w.cell? (a.add j)=some u) (h1:∀u∈d,u.oneCell'=true)
    (K:n+m<=maxLen) (f:(n+m)*p<=140737488355328) (A:base<=w.heap.size) (hm:0<m) :
    ∃ J w',(Builtin.append_ #[t,t] I #[v,.slice (some a) m c]).run P w=.ok J w'/\w'.ownsRow base e size J (n+m) (H++d)/\w.grownBy w' v.ownBlock /\
     ∀k,J.ownBlock=some k->v.ownBlock=some k\/w.heap.size<=k:=by
 obtain⟨J,w',r1,r2,r3,_⟩:=run_append_own w base t I e i z size p U Q hz s N X Y v n H o a m c d W l h1 K f A;refine⟨J,w',r1,r2,r3,?_⟩;subst s;subst N;have C:∀x y,(Builtin.append_ #[t,t] I #[v,.slice (some a) m c]).run P w=.ok x y->x=J:=λx y h=>by
  rw[h]at r1;injection r1
 unfold maxLen at K
 rcases o.2 with ⟨rfl,rfl⟩|⟨g,F,cur,rfl,hbg,hg,hnc,hcm,hcs,Z⟩
 . have L:=run_append_nil (P:=P) w t I e i z U Q hz a m c d W l hm (by omega) (by have hb:=f;simp only[DC]at hb;omega)
   have:=C _ _ L;subst this;intro k O;exact .inr (DZ (Bq O))
 . by_cases B:n+m<=F
   . obtain⟨w2,L,_,_⟩:=run_append_fits (P:=P) w base t I e i i.size U Q rfl g n F H o a m c d W l h1 B
     have:=C _ _ L;subst this;intro k O;exact .inl O
   . have G:∀j u,H[j]?=some u->w.cell? (((Ad g 0):Addr).add j)=some u:=o.cells (g:=g) rfl
     have L:=run_append_grow (P:=P) w t I e i z U Q hz (Ad g 0) n F H o.1 G a m c d W l (by omega) (by omega) (growslice_fits (by omega) f);have:=C _ _ L;subst this;intro k O;exact .inr (DZ (Bq O))
theorem Vj{C:Array Oper}{rest:List Oper}{o:Oper}{a:Act}{Q:Exit->Act->World->Prop}(N:o.guard=none)(s x:Operand)(t:TypeId)
    (ho:o.op=.call { callee:=.builtin .append,args:=#[s,x],argTypes:=#[t,t] })
    (base:Nat) (e:TypeId) (i:TypeInfo) (z:Value) (size f:Nat) (ht:P.underlying t=some (.slice e)) (hi:P.info? e=some i) (hz:i.zero=some z)
    (l:i.size=size) (L:i.bytes=f) (G:z.cells.size=size) (J:0<size) (v:Value) (n:Nat) (I:List Value) (Z:a.eval s=v) (F:w.ownsRow base e size v n I)
    (O:Addr) (m c:Nat) (d:List Value) (hx:a.eval x=.slice (some O) m c) (hl:d.length=m*size) (A:∀j u,d[j]?=some u->w.cell? (O.add j)=some u) (U:∀u∈d,u.oneCell'=true)
    (H:n+m<=maxLen) (g:(n+m)*f<=140737488355328) (p:base<=w.heap.size) (Y:0<m)
    (h:∀B w',w'.ownsRow base e size B (n+m) (I++d)->w.grownBy w' v.ownBlock->(∀k,B.ownBlock=some k->v.ownBlock=some k\/w.heap.size<=k)->wpList P C Q rest (a.put o.dst B) w'):wpList P C Q (o :: rest) a w :=
 wpList_plain N λK hK=>by
  obtain⟨B,w',X,h2,h3,W⟩:=U8 (P:=P) w base t o.type e i z size f ht hi hz l L G J v n I F O m c d hl A U H g p Y;unfold Oper.wp execOp;simp only[ho,resolve,invoke,builtin,FU,Sem.run_pure,Result.andThen_ok,List.map_toArray,AY,BU,Z,hx,X];exact hK _ _ (h B w' h2 h3 W)
end
structure G7 (Z:World->Prop) (G:World->World):Prop where
 grow:∀{w w':World},Z w->Bw w w'->Z w'
 but:∀x,Z (G x)
 onto:∀w,Z w->G w=w
open Classical in
theorem JC{Z:World->Prop}{W:World}(hW:Z W)(h:∀{w w':World},Z w->Bw w w'->Z w'):∃G,G7 Z G :=
 ⟨λx=>if Z x then x else W,h,λx=>by
  show Z (if Z x then x else W)
  split
  . assumption
  . exact hW,λw h=>if_pos h⟩
section
variable {P : Program} {ops : Array Oper} {md : Region.Mode} {m : Nat} {Z : World → Prop} {Q : Exit → Act → World → Prop}
def C8 (Z:World->Prop) (P:Program) (md:Region.Mode) (ops:Array Oper) (m:Nat) (Q:Exit->Act->World->Prop):Nat->Array Bool->Act->World->Prop
 | 0,listed,a,w=>Region.ready md ops listed=[]/\∀w',Bw w w'->Q .normal a w'
 | fuel+1,listed,a,w =>
  (Region.ready md ops listed=[]->∀w',Bw w w'->Q .normal a w') /\
  ∀i∈Region.ready md ops listed,∀w',Bw w w'->Hw P ops i (λa' w''=>(i<m->Z w'->Z w'')/\C8 Z P md ops m Q fuel (listed.setIfInBounds i true) a' w'') a w'
theorem ZJ:∀(f:Nat)(d:Array Bool)(a:Act)(w:World),C8 Z P md ops m Q f d a w->wpAny P md ops Q f d a w
 | 0,_,_,w,h=>⟨h.1,h.2 w (A9 _ _)⟩
 | f + 1,d,a,w,h=>⟨λz=>h.1 z w (A9 _ _),λi l=>by
     have x:=h.2 i l w (A9 _ _);have g:=MD (λs j p=>ZJ f _ s j p.2) x;unfold Hw at g;unfold wpOp
     split
     . rename_i ho;simp only[ho]at g;exact g
     . rename_i o ho
       simp only[ho]at g
       split
       . rename_i hw;simp only[hw,if_true]at g;exact .inl (YO g)
       . rename_i hw;simp only[hw]at g;exact g⟩
theorem R8:∀{f:Nat}{listed:Array Bool}{a:Act}{w w2:World},C8 Z P md ops m Q f listed a w->Bw w w2->C8 Z P md ops m Q f listed a w2
 | 0,_,_,_,_,h,hb=>⟨h.1,λw' d=>h.2 w' (hb.trans (d.mono hb.size))⟩
 | _+1,_,_,_,_,h,hb=>⟨λj w' d=>h.1 j w' (hb.trans (d.mono hb.size)),λi g w' d=>h.2 i g w' (hb.trans (d.mono hb.size))⟩
def Jo (Z:World->Prop) (P:Program) (ops:Array Oper) (o:Oper) (v:Value) (a:Act):Prop :=
 if Region.wanted o (yielded ops a.tmps) then ∀w',Z w'->Dz P w' v ((execOp a.eval o).run P w') else v=undef
theorem ku{o:Oper}{v:Value}{a d:Act}(h:Jo Z P ops o v a)(g:execOp d.eval o=execOp a.eval o)
    (f:Region.wanted o (yielded ops d.tmps)=Region.wanted o (yielded ops a.tmps)):Jo Z P ops o v d:=by
 unfold Jo at *;rw[f,g];exact h
theorem SM{i:Nat}{o:Oper}{v:Value}{a:Act}{w':World}(z:ops[i]?=some o)(l:Jo Z P ops o v a)(A:Z w'){K:Act->World->Prop}
    (h:∀d,Bw w' d->K (a.put o.dst v) d):Hw P ops i K a w':=by
 unfold Hw;simp only[z];unfold Jo at l
 split
 . rename_i hw
   rw[if_pos hw]at l;have g:=l w' A;generalize (execOp a.eval o).run P w'=r at *
   cases r with
   | ok n w2 =>
    cases n<;>simp only[Dz]at g<;>simp only[Dl]
    case value u =>
     obtain⟨p,s⟩:=g;rw[s];exact h _ (by rw[p];exact A9 _ _)
    case skip =>
     obtain⟨p,s⟩:=g;rw[←s];exact h _ (by rw[p];exact A9 _ _)
    case enter f args =>
     obtain⟨p,C⟩:=g;rw[p];exact C.mono λe d ⟨B,j⟩=>⟨v,B,h _ j⟩
   | halt x w2=>simp only[Dz]at g
 . rename_i hw
   rw[if_neg hw]at l;rw[←l];exact h _ (A9 _ _)
theorem WJ{j:Nat}{d g:Oper}{v:Value}(G:ops[j]?=some g)(o:d.apart ops g=true)(s:∀l b,d.op≠.select l b)(p:∀l b,g.op≠.select l b)
    {K:Act->World->Prop} {a:Act} {w:World} (F:Jo Z P ops d v a) (h:Hw P ops j K (a.put d.dst v) w) :
    Hw P ops j (λA w'=>Jo Z P ops d v A/\K (A.put d.dst v) w') a w:=by
 obtain⟨B,i,z⟩:=Oper.apart_spec o;have keep:∀u,Jo Z P ops d v (a.put g.dst u):=λu=>ku F (execOp_put d s a g.dst u z) (wanted_put d a g.dst u z);unfold Hw at *;simp only[G]at *;rw[wanted_put g a d.dst v B]at h
 split
 . rename_i hw
   simp only[hw,if_true]at h;rw[execOp_put g p a d.dst v B]at h;generalize (execOp a.eval g).run P w=r at *
   cases r with
   | ok n w2 =>
    cases n<;>simp only[Dl]at h ⊢
    case value u=>exact⟨keep u,by rw[←FJ a v u i];exact h⟩
    case skip=>exact⟨keep _,by rw[←FJ a v undef i];exact h⟩
    case enter f args=>exact h.mono λe H ⟨u,I,C⟩=>⟨u,I,keep u,by rw[←FJ a v u i];exact C⟩
   | halt x w2=>simp only[Dl]at h
 . rename_i hw
   simp only[hw]at h;exact⟨keep _,by rw[←FJ a v undef i];exact h⟩
theorem Yr(hZ:∀{w w':World},Z w->Bw w w'->Z w'){i:Nat}{N:Oper}{v:Value}(hi:ops[i]?=some N)(him:i<m)(B:∀(j:Nat)(o:Oper) O b,ops[j]?=some o->o.op≠.select O b)(L:Kq md ops m=true) :
    ∀ (g:Nat) (d:Array Bool) (a:Act) (w:World),Z w ->
     (∀j G,ops[j]?=some G->j≠i->d.getD j true=false->(∀e∈G.after,Region.binds md e=true->e.on≠i)->N.apart ops G=true) ->
     i∈Region.ready md ops d->Jo Z P ops N v a ->
     C8 Z P md ops m Q g (d.setIfInBounds i true) (a.put N.dst v) w->C8 Z P md ops m Q (g+1) d a w:=by
 intro g
 induction g with
 | zero =>
  intro d a w hC _ K hy H;refine⟨λh=>(by rw[h]at K;cases K),λj hj w' l=>?_⟩
  by_cases f:j=i
  . subst f;exact SM hi hy (hZ hC l) λJ s=>⟨λ_ h=>hZ h s,R8 H (l.trans (s.mono l.size))⟩
  . have:=ready_mono hj f
    rw[H.1]at this
    cases this
 | succ g ih =>
  intro d a w hC x K hy H;refine⟨λh=>(by rw[h]at K;cases K),λj hj w' l=>?_⟩;have W:=hZ hC l
  by_cases f:j=i
  . subst f;exact SM hi hy W λJ s=>⟨λ_ h=>hZ h s,R8 H (l.trans (s.mono l.size))⟩
  . have I:=H.2 j (ready_mono hj f) w' l
    obtain⟨C,G,z,Y⟩:=mem_ready.1 hj;have F:∀e∈G.after,Region.binds md e=true->e.on≠i:=λe he l heq=>by
     have I:=Y e he l;have h0:=(mem_ready.1 K).1;rw[heq]at I
     rcases CQ i d.size with h' | h'
     . simp[h']at h0 I;rw[h0]at I;cases I
     . simp[EU h']at I
    have p:j<m:=by
     by_cases p:j<m
     . exact p
     . obtain⟨e,he,l,hon⟩:=ZC L z p him
       exact absurd hon (F e he l)
    have h2:=WJ z (x j G z f C F) (λO b=>B i N O b hi) (λO b=>B j G O b z) hy I
    have A:∀k ok,ops[k]?=some ok->k≠i->(d.setIfInBounds j true).getD k true=false ->
        (∀e∈ok.after,Region.binds md e=true->e.on≠i)->N.apart ops ok=true:=λk ok hk hki U hno=>by
     refine x k ok hk hki ?_ hno
     by_cases X:j=k
     . subst X;exact C
     . rw[getD_set_ne true X]at U;exact U
    refine MD (λa' J h3=>?_) h2;obtain⟨h3y,h3g,h3a⟩:=h3;refine⟨λ_=>h3g p,ih (d.setIfInBounds j true) a' J (h3g p W) A (ready_mono K (GE f)) h3y ?_⟩;rw[FY _ _ f];exact h3a
theorem Ui{i f:Nat}{o:Oper}{d:Array Bool}{a:Act}{w:World}{G:World->World}(z:G7 Z G)(j:Z w)(s:ops[i]?=some o)(A:decide (i<m)=true)(l:(Region.noSelect ops && Kq md ops m)=true)
    (p:(Region.free md ops d i && (Region.ready md ops d).contains i)=true)
    (h:∀K:Act->Prop,(∀a,C8 Z P md ops m Q f (d.setIfInBounds i true) a w->K a)->if Region.wanted o (yielded ops a.tmps) then ∃v,(∀x,Dz P (G x) v ((execOp a.eval o).run P (G x)))/\K (a.put o.dst v) else K (a.put o.dst undef)) :
    C8 Z P md ops m Q (f+1) d a w:=by
 have B:=h _ λ_ h=>h;have g:i<m:=of_decide_eq_true A;rw[ED]at l p
 split at B
 . rename_i hw
   obtain⟨v,H,C⟩:=B;refine Yr z.grow s g (FB l.1) l.2 f d a w j (FQ s p.1) (by simpa using p.2) ?_ C;unfold Jo;rw[if_pos hw];intro w' F;have:=H w';rw[z.onto w' F]at this;exact this
 . rename_i hw
   refine Yr z.grow s g (FB l.1) l.2 f d a w j (FQ s p.1) (by simpa using p.2) ?_ B;unfold Jo;rw[if_neg hw]
theorem az{f:Nat}{o:Oper}{d:Array Bool}{a:Act}{w:World}{G:World->World}(p:G7 Z G)(g:Z w)(i:Nat)
    (h:∀K:Act->Prop,(∀a,C8 Z P md ops m Q f (d.setIfInBounds i true) a w->K a)->if Region.wanted o (yielded ops a.tmps) then ∃v,(∀x,Dz P (G x) v ((execOp a.eval o).run P (G x)))/\K (a.put o.dst v) else K (a.put o.dst undef)) (l:ops[i]?=some o:=by rfl) (j:decide (i<m)=true:=by kernel_rfl) (s:(Region.noSelect ops && Kq md ops m)=true:=by kernel_rfl) (z:(Region.free md ops d i && (Region.ready md ops d).contains i)=true:=by kernel_rfl):C8 Z P md ops m Q (f+1) d a w :=
 Ui (i:=i) p g l j s z h
theorem ay{d:Nat}{o:Oper}{f:Array Bool}{a:Act}{w:World}{G:World->World}(p:G7 Z G)(g:Z w)
    (h:∀K:Act->Prop,(∀a,C8 Z P md ops m Q d (f.setIfInBounds (m - (d+1)) true) a w->K a)->if Region.wanted o (yielded ops a.tmps) then ∃v,(∀x,Dz P (G x) v ((execOp a.eval o).run P (G x)))/\K (a.put o.dst v) else K (a.put o.dst undef)) (l:ops[(m - (d+1))]?=some o:=by rfl) (j:decide ((m - (d+1))<m)=true:=by kernel_rfl) (s:(Region.noSelect ops && Kq md ops m)=true:=by kernel_rfl) (z:(Region.free md ops f (m - (d+1)) && (Region.ready md ops f).contains (m - (d+1)))=true:=by kernel_rfl):C8 Z P md ops m Q (d+1) f a w :=
 Ui (i:=m - (d+1)) p g l j s z h
def PO (Z:World->Prop) (P:Program) (md:Region.Mode) (ops:Array Oper) (m:Nat) (Q:Exit->Act->World->Prop) (fuel:Nat) (listed:Array Bool) (a:Act) (w:World) (i:Nat):Prop :=
 ∃o,ops[i]?=some o/\∀w',Bw w w'->∀K:Act->World->Prop,(∀a' w'',(Z w'->Z w'')->C8 Z P md ops m Q fuel (listed.setIfInBounds i true) a' w''->K a' w'')->if Region.wanted o (yielded ops a.tmps) then Dl P o a K ((execOp a.eval o).run P w') else K (a.put o.dst undef) w'
theorem bg{i f:Nat}{d:Array Bool}{a:Act}{w:World}(l:Region.ready md ops d=[i])(h:PO Z P md ops m Q f d a w i):C8 Z P md ops m Q (f+1) d a w:=by
 obtain⟨o,s,h⟩:=h;refine⟨λz=>absurd (l.symm.trans z) (by simp),λj p w' x=>?_⟩;rw[l,DM]at p;subst p;unfold Hw;simp only[s];exact h w' x _ λB A g ha=>⟨λ_=>g,ha⟩
theorem bf{f:Nat}{d:Array Bool}{a:Act}{w:World}(g:Region.ready md ops d=[])(h:∀w',Bw w w'->Q .normal a w'):C8 Z P md ops m Q f d a w:=by
 cases f with
 | zero=>exact⟨g,h⟩
 | succ n=>exact⟨λ_=>h,λi j=>(by rw[g]at j;cases j)⟩
theorem Kh{id:Nat}{a:Act}{w:World}{l:List Oper}(Z:World->Prop)(m n:Nat)(f:P.follows .mixedOrders=true)(d:l.length=n)
    (h:∀w',Bw w w'->C8 Z P .any l.toArray m Q n (Array.replicate n false) a w'):(Code.region id l.toArray true).wp P Q a w :=
 wp_region_any f (ZJ (Z:=Z) _ _ _ _ (by subst d;simpa using h { w with drawn:=w.drawn+1 } (Below.drew (A9 _ w))))
theorem aO{f:Nat}{d:Array Bool}{a:Act}{w:World}(i:Nat)(h:PO Z P md ops m Q f d a w i)(g:Region.ready md ops d=[i]:=by kernel_rfl):C8 Z P md ops m Q (f+1) d a w:=bg g h
theorem ae{f:Nat}{d:Array Bool}{a:Act}{w:World}(h:∀w',Bw w w'->Q .normal a w')(g:Region.ready md ops d=[]:=by kernel_rfl):C8 Z P md ops m Q f d a w:=bf g h
theorem Mn{a:Nat}{o:Obj}{w w':World}(h:w.heap[a]?=some o)(d:Bw w w'):w'.heap[a]?=some o:=(d.block a (As h)).trans h
theorem wz{id:Nat}{a:Act}{w:World}{l:List Oper}(Z:World->Prop)(n:Nat)(g:Z w)(f:∀{w w':World},Z w->Bw w w'->Z w')
    (h:∀w',Bw w w'->Z w'->∀G,G7 Z G->C8 Z P .any l.toArray n Q n (Array.replicate n false) a w') (j:P.follows .mixedOrders=true:=by kernel_rfl) (o:l.length=n:=by first | rfl | kernel_rfl):(Code.region id l.toArray true).wp P Q a w :=
 Kh Z n n j o λw' d=>by
  obtain⟨G,i⟩:=JC (f g d) f;exact h w' d (f g d) G i
end
section
attribute [local go_sem] Oper.semAt_some Dz Dl
variable {w w' : World}{b lo : Nat}{who u : Int}{S : Cl}{vm vm' v : Value}{o : List Pt}{ms : List (List Pt)}{vs : List Value}
theorem Ds(a:w.heap[b]?=some (Oc (Gu who u S vm) 95)) :
    w.cell? (Ad b 0)=some (I6 who)/\w.cell? (Ad b 1)=some (I6 u)/\w.cell? (Ad b 2)=some (I6 S.rev)/\w.cell? (Ad b 3)=some (Sx S.seen)/\w.cell? (Ad b 4)=some vm/\w.cell? (Ad b 5)=some (Sx S.doc)/\w.cell? (Ad b 6)=some (I6 S.id)/\w.cell? (Ad b 7)=some (I6 S.drops)/\∀o,w.frozen? (Ad b o)=false :=
 ⟨Az a 0,Az a 1,Az a 2,Az a 3,Az a 4,Az a 5,Az a 6,Az a 7,λo=>Gf a⟩
theorem dl(f:w.cell? (Ad b 4)=some vm)(d:w'.cell? (Ad b 4)=some vm')(g:sameBut w w' λk=>k=b\/vm.ownBlock=some k)(h:∀k,vm'.ownBlock=some k->vm.ownBlock=some k\/w.heap.size<=k):keptC w w' b:=by
 refine⟨g.mono λk _ a=>a.imp id λe=>⟨vm,f,e⟩,λk a=>?_⟩
 rcases a with rfl|⟨v,e,a⟩
 . exact .inl (.inl rfl)
 . rw[d]at e
   obtain rfl:=Bq e;exact(h k a).imp (λe=>.inr ⟨vm,f,e⟩) id
theorem Kr{S':Cl}(d:lo<=b)(f:w.heap[b]?=some (Oc (Gu who u S vm) 95))(a:w'.heap[b]?=some (Oc (Gu who u S' vm') 95))(g:Hr lo w' vm' S'.mine)
    (h:sameBut w w' λk=>k=b\/vm.ownBlock=some k) (i:∀k,vm'.ownBlock=some k->vm.ownBlock=some k\/w.heap.size<=k):Bf lo w' b who u S'/\keptC w w' b :=
 ⟨⟨d,vm',a,g⟩,dl (Ds f).2.2.2.2.1 (Ds a).2.2.2.2.1 h i⟩
theorem bn(h:Bf lo w b who u S)(J:S.mine=[])(v:Value)(o:List Pt)(g:Ar lo w v o)(B:0<=S.id/\S.id<=1000000) :
    Cg 45 #[Pd b 0,v] w λe w'=>e=.returned (.tuple #[])/\Bf lo w' b who u { S with mine:=[o],id:=S.id+1 }/\keptC w w' b:=by
 have O:=IA h;obtain⟨j,vm,z,G⟩:=h;obtain⟨p,c,rfl⟩:=MQ G;have f:S.mine.length=0:=by rw[J];rfl
 rw[f]at z G;obtain⟨_,_,_,_,x4,_,x6,_,H⟩:=Ds z;have f4:=H 4;have f6:=H 6;obtain⟨s,A,rfl⟩:∃p c,v=.slice p o.length c:=by obtain⟨⟨p,c,e,_⟩,_⟩:=g;exact⟨p,c,e⟩
 have I:=Aa z;have N:=Aa g;have L:wrap64 (S.id+1)=S.id+1:=E0 (by omega) (by omega);obtain⟨i0,i1⟩:=B;generalize hon:o.length=on at *;have X:b≠w.heap.size:=by omega
 clear z G J f g H
 go_enter func45,ntmps45
 go_wp2;go_end0;refine⟨rfl,?_⟩;have U:=heap_setCell_same w b 4 _ _ (Sl w.heap.size 1 1) I.out;have Y:=heap_setCell_same _ b 6 _ _ (I6 (S.id+1)) U;have C:sameBut w ((w.setCell (Ad b 4) (Sl w.heap.size 1 1)).setCell (Ad b 6) (I6 (S.id+1))) (λk=>k=b):=(B6 (S:=λk=>k=b) rfl).trans (B6 (S:=λk=>k=b) rfl);have F:((w.setCell (Ad b 4) (Sl w.heap.size 1 1)).setCell (Ad b 6) (I6 (S.id+1))).heap.size=w.heap.size:=by rw[EJ,EJ]
 generalize (w.setCell (Ad b 4) (Sl w.heap.size 1 1)).setCell (Ad b 6) (I6 (S.id+1))=W at *;have d:sameBut w (W.alloc (Oc #[.slice s on A] 37)) (λk=>k=b):=C.trans (Cf (zA _ _) _);have a:=GA (e:=37) (base:=lo) (size:=1) W #[.slice s on A] 1 (by omega) (by unfold maxLen;omega) rfl;rw[F]at a;refine Kr j I.out (Ft Y) ⟨[.slice s on A],rfl,a,λi m x K g=>?_⟩ (d.mono λk _ l=>.inl l) λk l=>.inr (DZ (Bq l))
 cases i with
 | succ i=>simp at K
 | zero =>
  obtain rfl:o=m:=by simpa using K
  obtain rfl:Value.slice s on A=x:=by simpa using g
  exact Eu N.out d λk _ l=>by obtain rfl:=l;exact⟨j,C6 I.out (by decide)⟩
theorem Lh:(prog.info? 37).map (λi=>(i.zero,i.size,i.bytes))=some (some (.slice none 0 0),1,24):=by kernel_rfl
theorem C7(h:Ar lo w v o):∃p c,v=.slice p o.length c:=by
 obtain⟨⟨p,c,e,_⟩,_⟩:=h;exact⟨p,c,e⟩
theorem gW(p:Option Addr)(n c:Nat):∀x∈[Value.slice p n c],x.oneCell'=true:=by
 intro x a;simp only[DM]at a;subst a;rfl
theorem fe{g:World}{v1 A x:Value}(s:vs.length=ms.length)(J:w.ownsRow lo 37 1 v1 ms.length vs)(z:∀(i:Nat)(m:List Pt)(y:Value),ms[i]?=some m->vs[i]?=some y->Ar lo w y m)(I:Ar lo w x o)
    (G:w.grownBy g v1.ownBlock) (f:g.ownsRow lo 37 1 A (ms.length+1) (vs++[x])):Hr lo g A (ms++[o]):=by
 have B:sameBut w g λk=>v1.ownBlock=some k:=IU G λk e=>e;have C:∀k,k<w.heap.size->v1.ownBlock=some k->lo<=k/\F7 w k:=λk _ F=>by
  obtain⟨a,b,K,c⟩:=Jc ⟨vs,s,J,z⟩ F;exact⟨a,C6 c (by decide)⟩
 refine⟨vs++[x],by simp[s],by rw[AA,DN];exact f,λi m y d l=>?_⟩
 rcases CQ i ms.length with p|p
 . rw[AX p]at d
   rw[AX (by omega)]at l;exact Eu (z i m y d l) B C
 . have : i=ms.length:=by
     rcases CQ ms.length i with h|h
     . rw[AL p]at d
       obtain⟨j,H⟩:∃j,i - ms.length=j+1:=⟨i - ms.length - 1,by omega⟩;rw[H]at d;simp at d
     . omega
   subst this;rw[AL (Ai _),BP]at d;rw[AL (by omega),s,BP]at l;obtain rfl:o=m:=by simpa using d
   obtain rfl:x=y:=by simpa using l
   exact Eu I B C
theorem WI{g n c:Nat}(A:vs.length=ms.length)(p:w.ownsRow lo 37 1 (Sl g n c) ms.length vs)(s:∀(i:Nat)(m:List Pt)(y:Value),ms[i]?=some m->vs[i]?=some y->Ar lo w y m){x:Value}{o:List Pt}(G:Ar lo w x o)(j:Nat) :
    Hr lo (w.setCell (Ad g j) x) (Sl g n c) (ms.set j o)/\sameBut w (w.setCell (Ad g j) x) λk=>(Sl g n c).ownBlock=some k:=by
 have H:n=ms.length:=by
  rcases p.2 with ⟨e,_⟩|⟨L,C,I,e,_⟩
  . cases e
  . injection e
 subst H;obtain⟨J,B⟩:=World.ownsRow.stored p j x;have l:sameBut w (w.setCell (Ad g j) x) λk=>(Sl g ms.length c).ownBlock=some k:=IU B λk e=>e;have z:∀k,k<w.heap.size->(Sl g ms.length c).ownBlock=some k->lo<=k/\F7 w k:=λk _ F=>by
  obtain⟨a,b,K,c⟩:=Jc ⟨vs,A,p,s⟩ F;exact⟨a,C6 c (by decide)⟩
 refine⟨⟨vs.set j x,by simp[A],by rw[List.length_set];exact J,λi m y d f=>?_⟩,l⟩
 by_cases h:j=i
 . subst h
   rw[List.getElem?_set]at d f;simp only[if_true]at d f
   split at d
   . split at f
     . obtain rfl:=Bq d
       obtain rfl:=Bq f;exact Eu G l z
     . cases f
   . cases d
 . rw[List.getElem?_set_ne h]at d f
   exact Eu (s i m y d f) l z
theorem bo(h:Bf lo w b who u S)(K:S.mine.length=1)(v:Value)(o:List Pt)(hx:Ar lo w v o) :
    Cg 45 #[Pd b 0,v] w λe w'=>e=.returned (.tuple #[])/\Bf lo w' b who u { S with mine:=S.mine++[o] }/\keptC w w' b:=by
 have hlt:=IA h;obtain⟨H,vm,N,B⟩:=h;obtain⟨p,c,rfl⟩:=MQ B;rw[K]at N B;obtain⟨_,_,_,_,x4,_,_,_,xf⟩:=Ds N;obtain⟨pv,cv,rfl⟩:=C7 hx;have H3:=Aa N;have HX:=Aa hx;have HM:=Aa K;have g:Bw w (w.alloc (Oc #[.slice pv o.length cv] 37)):=zA _ _;obtain⟨vs,m1,m2,m3⟩:=Mc B g;rw[K]at m2;have M1:=Aa m1;have M2:=Aa m2;have M3:=Aa m3;have W:Hid (∀k,(Value.slice p 1 c).ownBlock=some k->lo<=k/\k<w.heap.size/\∃U,w.heap[k]?=some (Oc U 37)):=λk j=>Jc B j;have G:=Aa g;obtain⟨i0,hi,x,A,J⟩:=info_parts Lh;have HI:=Aa hi;have X:=Aa x;have Y:=Aa A;have HZ2:=Aa J;generalize hon:o.length=on at *;have hne:b≠w.heap.size:=by omega
 have s:=Aa H;clear N B K hx xf m1 m2 m3 g hi x A J H
 go_enter func45,ntmps45
 go_wp2_with (at_builtin;refine Vj _ rfl _ _ 93 rfl lo 37 i0 (.slice none 0 0) 1 24 underlying93 HI.out X.out Y.out HZ2.out rfl (by decide) _ _ _ rfl M2.out (Ad w.heap.size 0) 1 1 [.slice pv on cv] rfl rfl (Me _ _ (by first | rfl | simp) _ _) (gW _ _ _) (by unfold maxLen;omega) (by omega) (by have:=s.out;simp;omega) (by decide) ?_)
 all_goals
  intro v2 F a f d;obtain⟨L,O,rfl⟩:=Bm a;have C:some b≠(Value.slice p 1 c).ownBlock:=λe=>by
   obtain⟨_,_,U,hc⟩:=W.out b e.symm;have:=Cx H3.out hc;revert this;decide
  have l:=(f.block b (by rw[Bb];omega) C).trans (Ft (o':=Oc #[.slice pv on cv] 37) H3.out);have i:=Aa l;obtain⟨_,_,_,_,y4,_,_,_,yf⟩:=Ds l;have z4:=yf 4;have I:Hid (Hr lo F (.slice L (1+1) O) (S.mine++[o])):=fe M1.out (by rw[HM.out];exact M2.out) M3.out (Bt HX.out G.out) f (by rw[HM.out];exact a);have HS6:Hid (sameBut w F λk=>k=b\/(Value.slice p 1 c).ownBlock=some k):=(Cf G.out _).comp (IU (S:=λk=>(Value.slice p 1 c).ownBlock=some k) f λk e=>e) λk _ e=>.inr e;have HNW:Hid (∀k,(Value.slice L (1+1) O).ownBlock=some k->(Value.slice p 1 c).ownBlock=some k\/w.heap.size<=k):=λk j=>(d k j).imp id λe=>by omega
  clear a f d C l yf;go_wp2;go_end0;refine⟨rfl,?_⟩;have b1:=heap_setCell_same F b 4 _ _ (.slice L (1+1) O) i.out;have z:sameBut F (F.setCell (Ad b 4) (.slice L (1+1) O)) (λk=>k=b):=B6 (S:=λk=>k=b) rfl;refine Kr s.out H3.out b1 (NS I.out z (λk _ j=>by obtain rfl:=j;exact⟨s.out,C6 i.out (by decide)⟩) λk j e=>?_) (HS6.out.comp z λk _ e=>.inl e) HNW.out;obtain⟨_,_,U,hc⟩:=Jc I.out j;subst e;have:=Cx i.out hc;revert this;decide
theorem M6(v1 h:Value)(a b:List Pt)(t:List UInt8)(w:World)(s:Lib.Utf8Tabs 1 2 w)(x:Ae w v1 a)(p:Ae w h b)(ha:good a t)(d:good b (Aj a t))(g:t.length+Al a<1000000)(f:(Aj a t).length+Al b<1000000) :
    Cg 77 #[v1,h] w λe w'=>∃j,e=.returned (.tuple #[j,.nilIface])/\opN w.heap.size w' j (Aq (Ha a b))/\Bw w w':=by
 have i:=ha.fine g;have l:=d.fine f;have e:PV a b=0:=by unfold PV;rw[ha.both d g f,if_pos rfl,(ha.lens g).2,(d.lens f).1,if_pos rfl]
 have:=eo v1 h a b w s x p (ha.wf g) (d.wf f) i.len l.len λ_=>⟨i,l⟩;rw[e,if_pos rfl]at this;exact this
theorem V4(v1 h:Value)(F:Bool)(a b:List Pt)(t:List UInt8)(w:World)(s:Lib.Utf8Tabs 1 2 w)(x:Ae w v1 a)(p:Ae w h b)(ha:good a t)(d:good b t)(g:t.length+Al a<1000000)(f:t.length+Al b<1000000) :
    Cg 163 #[v1,h,.bool F] w λe w'=>∃j,e=.returned (.tuple #[j,.nilIface])/\opN w.heap.size w' j (Aq (Bv F a b))/\Bw w w':=by
 have i:=ha.fine g;have l:=d.fine f;have e:JI a b=0:=by unfold JI;rw[ha.both d g f,if_pos rfl,(ha.lens g).1,(d.lens f).1,if_pos rfl]
 have:=YH v1 h F a b w s x p (ha.wf g) (d.wf f) i.len l.len λ_=>⟨i,l⟩;rw[e,if_pos rfl]at this;exact this
theorem IC{B:Nat}(h:opN B w v o):∃p c,v=.slice p o.length c:=by
 obtain⟨⟨p,c,e,_⟩,_⟩:=h;exact⟨p,c,e⟩
theorem bp(h:Bf lo w b who u S){m1 m2:List Pt}(hm:S.mine=[m1,m2])(v:Value)(o:List Pt)(hx:Ar lo w v o)(hT:Lib.Utf8Tabs 1 2 w){t:List UInt8}(ha:good m2 t)(hb:good o (Aj m2 t))(h1:t.length+Al m2<1000000)(h2:(Aj m2 t).length+Al o<1000000) :
    Cg 45 #[Pd b 0,v] w λe w'=>e=.returned (.tuple #[])/\Bf lo w' b who u { S with mine:=[m1,Aq (Ha m2 o)] }/\keptC w w' b:=by
 have hlt:=IA h;obtain⟨hlo,vm,h3,h4⟩:=h;have h4':=h4;obtain⟨vs,q1,C,q3⟩:=h4';obtain ⟨g,c,rfl⟩:∃g c,vm=Sl g 2 c:=by
  rw[hm]at C
  rcases C.2 with ⟨_,e⟩|⟨g,cap,cur,e,_⟩
  . cases e
  . exact⟨g,cap,e⟩
 have F:S.mine.length=2:=by rw[hm];rfl
 have hvl:vs.length=2:=by rw[q1,F]
 obtain⟨Y,W⟩:∃Y,vs[1]?=some Y:=⟨vs[1],B7 (by omega)⟩;have L:Ar lo w Y m2:=q3 1 m2 Y (by rw[hm];rfl) W;have hr1:w.cell? (Ad g 1)=some Y:=by rw[F]at C;rw[World.ownsRow.cellAt C 1 (by omega)];exact W
 obtain⟨_,_,_,_,x4,_,_,_,xf⟩:=Ds h3;have hg:=Jc h4 (k:=g) rfl;have hgb:g≠b:=λe=>by
  obtain⟨_,_,cs,hc⟩:=hg;subst e;have:=Cx h3 hc;revert this;decide
 have hc2:2<=c/\c<=maxLen:=by
  rw[F]at C
  rcases C.2 with ⟨e,_⟩|⟨g',cap,cur,e,_,_,e5,e6,_⟩
  . cases e
  . injection e with _ _ e;subst e;exact⟨e5,e6⟩
 obtain⟨hc2,hc3⟩:=hc2;unfold maxLen at hc3;have CC:=Aa λwx (X:Bw w wx)=>M6 Y v m2 o t wx (Go.Proofs.Utf8Tabs_below hT X) (Bt L X).1 (Bt hx X).1 ha hb h1 h2;obtain⟨p1,c1,rfl⟩:=C7 L;obtain⟨pv,cv,rfl⟩:=C7 hx;have H3:=Aa h3;have H4:=Aa h4;have HLO:=Aa hlo;have HM:=Aa hm;have HG:Hid (lo<=g/\g<w.heap.size):=⟨hg.1,hg.2.1⟩;generalize hO:Aq (Ha m2 o)=O at *;generalize m2.length=n2 at *;generalize o.length=on at *;clear h3 h4 hm hx L q1 C q3 hvl W F xf hT ha hb h1 h2 hg hlo hO
 go_enter func45,ntmps45
 go_wp2;refine wz (λwx:World=>wx.heap[b]?=some (Oc (Gu who u S (Sl g 2 c)) 95)) 17 H3.out Mn λw30 d U G H=>?_;have y4:∀x,(G x).cell? (Ad b 4)=some (Sl g 2 c):=λx=>(Ds (H.but x)).2.2.2.2.1;(iterate 9 (refine ay H U λ_ k=>?_;go_simp;apply k;clear k));refine az H U 10 λ_ k=>?_;go_simp;apply k;clear k;clear y4;refine aO 9 ⟨_,rfl,?_⟩;intro w29 j K J;have yr:=(zC j g 1 (AK HG.out.2 d.size)).trans ((zC d g 1 HG.out.2).trans hr1)
 go_simp
 refine J _ _ (λh=>h) ?_;clear J K yr;refine aO 11 ⟨_,rfl,?_⟩;intro w31 I K J
 go_simp
 have i:=d.trans (j.mono d.size);have a:=i.trans (I.mono i.size);refine(CC.out w31 a).mono ?_;rintro e w32 ⟨v',rfl,hn,l⟩;obtain⟨p9,c9,rfl⟩:=IC hn;have HN:=Aa hn;have f:w32.heap[b]?=some (Oc (Gu who u S (Sl g 2 c)) 95):=((a.trans (l.mono a.size)).block b hlt).trans H3.out;refine⟨_,rfl,J _ _ (λ_=>f) ?_⟩;clear J K hn U;refine az H f 12 λ_ k=>?_;go_simp;apply k;clear k;refine az H f 13 λ_ k=>?_;go_simp;apply k;clear k;refine az H f 14 λ_ k=>?_;go_simp;apply k;clear k;refine az H f 15 λ_ k=>?_;go_simp;apply k;clear k;clear H f;refine aO 16 ⟨_,rfl,?_⟩;intro p B K J;have A:=a.trans (l.mono a.size);have s:Bw w p:=A.trans (B.mono A.size);have hA3:=(s.block b hlt).trans H3.out;have HA4:Hid _:=Mc H4.out s;have hgr:∃cs,p.heap[g]?=some (Oc cs 37):=by obtain⟨_,_,e⟩:=Jc HA4.out (k:=g) rfl;exact e
 obtain⟨cs,hcs⟩:=hgr;have zr:=(zC s g 1 HG.out.2).trans hr1;have zf:=fZ hcs 1;have HN33:Hid (Ar lo p (.slice p9 O.length c9) O):=Bt (Ev HN.out) B;have N:=Aa hA3;have HBA:=Aa s;clear s hA3 d I l B hcs j i a A
 go_simp
 refine J _ _ (λ_=>?_) ?_
 . exact(BF p (Ad g 1) _ b (λe=>hgb e.symm)).trans N.out
 clear J K;refine ae ?_;intro w34 z;go_wp2;go_end0;refine⟨rfl,?_⟩;obtain⟨vs,q1,C,q3⟩:=HA4.out;obtain⟨r1,r2⟩:=WI q1 C q3 HN33.out 1;rw[HM.out]at r1;have hbn:(p.setCell (Ad g 1) (.slice p9 O.length c9)).heap[b]?=some (Oc (Gu who u S (Sl g 2 c)) 95):=(r2.2 b (As N.out) λe=>hgb (Bq e)).trans N.out;have hb3:=(z.block b (As hbn)).trans hbn;refine Kr HLO.out H3.out hb3 (Mc r1 z) (((Cf HBA.out _).comp r2 λk _ e=>.inr e).trans (Cf z _)) λk hk=>.inl hk
end
section
attribute [local go_sem] Oper.semAt_some
variable {lo r bx bmx : Nat}{w : World}{bs : List Nat}{R : Rm}
def pkV (p:Pk) (v:Value):Value:=.agg #[I6 p.kind,I6 (p.c:Int),I6 p.rev,I6 p.id,I6 p.x.c,I6 p.x.i,v]
theorem PM{w d:World}{f:Nat}{g i l x s j p:Value}{T:TypeId}(h:w.heap.size=f)(z:Below (w.alloc (Oc #[g,i,l,x,s,j,p] T)).heap.size (w.alloc (Oc #[g,i,l,x,s,j,p] T)) d) :
    d.cell? (Ad f 0)=some g/\d.cell? (Ad f 1)=some i/\d.cell? (Ad f 2)=some l/\d.cell? (Ad f 3)=some x/\d.cell? (Ad f 4)=some s/\d.cell? (Ad f 5)=some j/\d.cell? (Ad f 6)=some p/\(∀o,d.frozen? (Ad f o)=false)/\d.heap[f]?=some (Oc #[g,i,l,x,s,j,p] T):=by
 subst h;have a:=(z.block _ (by rw[Bb];omega)).trans (heap_alloc_new w (Oc #[g,i,l,x,s,j,p] T));exact⟨Az a 0,Az a 1,Az a 2,Az a 3,Az a 4,Az a 5,Az a 6,λo=>Gf a,a⟩
def IV (w:World) (β:Nat) (a0 a1 a2 a3 a4 a5 a6:Value):World:=((((((w.setCell (Ad β 0) a0).setCell (Ad β 1) a1).setCell (Ad β 2) a2).setCell (Ad β 3) a3).setCell (Ad β 4) a4).setCell (Ad β 5) a5).setCell (Ad β 6) a6
theorem X8{w:World}{a:Nat}{T:TypeId}{Y G F C A z s:Value}(d f g i j l B:Value)(h:w.heap[a]?=some (Oc #[Y,G,F,C,A,z,s] T)){lo:Nat}{w0:World}(H:Below lo w0 w)(x:lo<=a) :
    (IV w a d f g i j l B).heap[a]?=some (Oc #[d,f,g,i,j,l,B] T)/\Below lo w0 (IV w a d f g i j l B):=by
 have I:(w.setCell (Ad a 0) d).heap[a]?=some (Oc #[d,G,F,C,A,z,s] T):=heap_setCell_same w a 0 _ T d h;have O:Below lo w0 (w.setCell (Ad a 0) d):=H.setCell (p:=(Ad a 0)) x d;unfold IV;generalize w.setCell (Ad a 0) d=w1 at *;have U:(w1.setCell (Ad a 1) f).heap[a]?=some (Oc #[d,f,F,C,A,z,s] T):=heap_setCell_same w1 a 1 _ T f I;have b2:Below lo w0 (w1.setCell (Ad a 1) f):=O.setCell (p:=(Ad a 1)) x f;generalize w1.setCell (Ad a 1) f=w2 at *;have h3:(w2.setCell (Ad a 2) g).heap[a]?=some (Oc #[d,f,g,C,A,z,s] T):=heap_setCell_same w2 a 2 _ T g U;have K:Below lo w0 (w2.setCell (Ad a 2) g):=b2.setCell (p:=(Ad a 2)) x g;generalize w2.setCell (Ad a 2) g=w3 at *;have L:(w3.setCell (Ad a 3) i).heap[a]?=some (Oc #[d,f,g,i,A,z,s] T):=heap_setCell_same w3 a 3 _ T i h3;have X:Below lo w0 (w3.setCell (Ad a 3) i):=K.setCell (p:=(Ad a 3)) x i;generalize w3.setCell (Ad a 3) i=w4 at *;have J:(w4.setCell (Ad a 4) j).heap[a]?=some (Oc #[d,f,g,i,j,z,s] T):=heap_setCell_same w4 a 4 _ T j L;have b5:Below lo w0 (w4.setCell (Ad a 4) j):=X.setCell (p:=(Ad a 4)) x j;generalize w4.setCell (Ad a 4) j=w5 at *;have W:(w5.setCell (Ad a 5) l).heap[a]?=some (Oc #[d,f,g,i,j,l,s] T):=heap_setCell_same w5 a 5 _ T l J;have N:Below lo w0 (w5.setCell (Ad a 5) l):=b5.setCell (p:=(Ad a 5)) x l;generalize w5.setCell (Ad a 5) l=w6 at *;exact⟨heap_setCell_same w6 a 6 _ T B W,N.setCell (p:=(Ad a 6)) x B⟩
theorem Va(h:Ac lo w r bx bmx bs R)(k:Int)(z:k<0\/(R.fl.length:Int)<=k) :
    Cg 55 #[Pd r 0,I6 k] w (Rt w (.tuple #[.agg #[I6 0,I6 0,I6 0,I6 0,I6 0,I6 0,.slice none 0 0],.iface 30 (I6 2)])):=by
 have C:=Aa λK (A:Bw w K)=>Si (Gg h A);clear h
 by_cases hk0:k<0
 . clear z
   go_enter func55,ntmps55
   go_wp2;refine bodyPost_ret (v:=.tuple #[.agg #[I6 0,I6 0,I6 0,I6 0,I6 0,I6 0,.slice none 0 0],.iface 30 (I6 2)]) (by simp[results,results55,go_sem]) rfl ⟨rfl,?_⟩;exact zA _ _
 . have X:(R.fl.length:Int)<=k:=by omega
   obtain⟨l,j⟩:∃l,w.heap.size=l:=⟨_,rfl⟩;have g:=Aa j;clear z
   go_enter func55,ntmps55
   go_wp2_with (go_at_call 23;refine(C.out _ (zA _ _)).mono ?_;rintro e s ⟨rfl,f⟩;have p:Hid (Bw w s):=(zA _ _).trans (f.mono (by rw[Bb];omega));obtain⟨b0,U,b2,J,Y,b5,L,d,x⟩:=PM g.out f;have H:=Aa x;have G:=d 0;have I:=d 1;have f2:=d 2;have f3:=d 3;have f4:=d 4;have F:=d 5;have f6:=d 6;clear f d x)
   obtain⟨W,i⟩:∃W,W=IV s l (I6 0) (I6 0) (I6 0) (I6 0) (I6 0) (I6 0) (.slice none 0 0):=⟨_,rfl⟩;have a:=X8 (I6 0) (I6 0) (I6 0) (I6 0) (I6 0) (I6 0) (.slice none 0 0) H.out p.out (DZ g.out);rw[←i]at a;have HW:=Aa a.2;have B:=cQ a.1 0 rfl;have d1:=cQ a.1 1 rfl;have d2:=cQ a.1 2 rfl;have O:=cQ a.1 3 rfl;have N:=cQ a.1 4 rfl;have d5:=cQ a.1 5 rfl;have d6:=cQ a.1 6 rfl;unfold IV at i;rw[←i];clear b0 U b2 J Y b5 L G I f2 f3 f4 F f6 a i;refine bodyPost_ret (v:=.tuple #[.agg #[I6 0,I6 0,I6 0,I6 0,I6 0,I6 0,.slice none 0 0],.iface 30 (I6 2)]) (by simp[results,results55,go_sem,B,d1,d2,O,N,d5,d6]) rfl ⟨rfl,HW.out⟩
theorem UZ(h:Ac lo w r bx bmx bs R)(k:Nat){p:Pk}(N:R.fl[k]?=some p)(H:R.fl.length<=400) :
    Cg 55 #[Pd r 0,I6 (k:Int)] w λe w'=>∃v,e=.returned (.tuple #[pkV p v,.nilIface])/\Ar lo w' v p.x.op/\Bw w w':=by
 have C:=Aa λwx (hb:Bw w wx)=>Si (Gg h hb);obtain⟨pc,cc,pf,cf,h2,h3,h4⟩:=Kj h;have U:k<R.fl.length:=(De N);have x:R.fl≠[]:=λe=>by rw[e]at U;exact absurd U (AP _)
 obtain⟨g,rfl,z,_,_,_,s⟩:=Rv h4 x;obtain⟨vp,O,a1,a2,a3,a4,a5,Y,j⟩:=s k p N;obtain⟨G,K,rfl⟩:=C7 j;have F:=Aa j;have J:=Aa (Ig h);have d:=Aa z;have HX:Hid (w.cell? (Ad r 2)=some (Sl g R.fl.length cf)):=Az h2 2;have A0:=Aa O;have A1:=Aa a1;have A2:=Aa a2;have A3:=Aa a3;have A4:=Aa a4;have A5:=Aa a5;have A6:=Aa Y;have hk1:¬(R.fl.length:Int)<=(k:Int):=by omega
 have hk2:¬(k:Int)<0:=by omega
 have hk3:(k:Int)<(R.fl.length:Int):=by omega
 have hk4:(R.fl.length:Int)<=400:=by omega
 obtain⟨I,L⟩:∃I,w.heap.size=I:=⟨_,rfl⟩;have A:=Aa L;clear h h2 h3 h4 s j z O a1 a2 a3 a4 a5 Y N H x
 go_enter func55,ntmps55
 go_wp2_with (go_at_call 23;refine(C.out _ (zA _ _)).mono ?_;rintro e w1 ⟨rfl,l⟩;have a:Hid (Bw w w1):=(zA _ _).trans (l.mono (by rw[Bb];omega));obtain⟨b0,b1,b2,b3,b4,b5,b6,i,bh⟩:=PM A.out l;have BH:=Aa bh;have f0:=i 0;have f1:=i 1;have f2:=i 2;have f3:=i 3;have f4:=i 4;have f5:=i 5;have f6:=i 6;have x2:=(zC a.out r 2 J.out).trans HX.out;have c0:=(zC a.out g (k*7) d.out).trans A0.out;have c1:=(zC a.out g (k*7+1) d.out).trans A1.out;have c2:=(zC a.out g (k*7+2) d.out).trans A2.out;have c3:=(zC a.out g (k*7+3) d.out).trans A3.out;have c4:=(zC a.out g (k*7+4) d.out).trans A4.out;have c5:=(zC a.out g (k*7+5) d.out).trans A5.out;have c6:=(zC a.out g (k*7+6) d.out).trans A6.out;clear l i bh)
 obtain⟨W,B⟩:∃W,W=IV w1 I (I6 p.kind) (I6 (p.c:Int)) (I6 p.rev) (I6 p.id) (I6 p.x.c) (I6 p.x.i) (.slice G p.x.op.length K):=⟨_,rfl⟩;have f:=X8 (I6 p.kind) (I6 (p.c:Int)) (I6 p.rev) (I6 p.id) (I6 p.x.c) (I6 p.x.i) (.slice G p.x.op.length K) BH.out a.out (DZ A.out);rw[←B]at f;have X:=Aa f.2;have d0:=cQ f.1 0 rfl;have d1:=cQ f.1 1 rfl;have d2:=cQ f.1 2 rfl;have d3:=cQ f.1 3 rfl;have d4:=cQ f.1 4 rfl;have d5:=cQ f.1 5 rfl;have d6:=cQ f.1 6 rfl;unfold IV at B;rw[←B];clear b0 b1 b2 b3 b4 b5 b6 f0 f1 f2 f3 f4 f5 f6 f B;refine bodyPost_ret (v:=.tuple #[.agg #[I6 p.kind,I6 (p.c:Int),I6 p.rev,I6 p.id,I6 p.x.c,I6 p.x.i,.slice G p.x.op.length K],.nilIface]) (by simp[results,results55,go_sem,d0,d1,d2,d3,d4,d5,d6]) rfl ⟨_,rfl,Bt F.out X.out,X.out⟩
end
section
variable {P : Program} {ops : Array Oper} {md : Region.Mode} {m m' : Nat} {Z Z' : World → Prop} {Q : Exit → Act → World → Prop}
theorem Xe:∀(f:Nat)(d:Array Bool)(a:Act)(w:World),(∀i,i<m->d.getD i true=true)->C8 Z' P md ops m' Q f d a w->C8 Z P md ops m Q f d a w
 | 0,_,_,_,_,h=>h
 | f + 1,d,a,w,hl,h=>by
  refine⟨h.1,λi x w' A=>MD (λB s z=>?_) (h.2 i x w' A)⟩;refine⟨λp=>?_,Xe f _ B s (λj F=>?_) z.2⟩
  . obtain⟨g,_⟩:=mem_ready.1 x
    rw[hl i p]at g
    cases g
  . by_cases l:i=j
    . subst l
      by_cases C:i<d.size<;>simp[C]
    . rw[getD_set_ne true l];exact hl j F
theorem Qt{f:Nat}{d:Array Bool}{a:Act}{w:World}(g:((List.range m).all λi=>d.getD i true)=true)(h:C8 (λ_=>True) P md ops ops.size Q f d a w):C8 Z P md ops m Q f d a w :=
 Xe f d a w (λi j=>List.all_eq_true.1 g i (List.mem_range.2 j)) h
theorem Uj:∀(f:Nat)(d:Array Bool)(a:Act)(w:World),C8 Z P md ops m Q f d a w->C8 (λ_=>True) P md ops m' Q f d a w
 | 0,_,_,_,h=>h
 | f+1,d,a,w,h=>⟨h.1,λi j w' p=>MD (λs g l=>⟨λ_ _=>trivial,Uj f _ s g l.2⟩) (h.2 i j w' p)⟩
def VF (md:Region.Mode) (ops:Array Oper) (m i:Nat):Bool:=(List.range ops.size).all λj=>decide (j<m) || match ops[j]? with | some o=>o.after.any λe=>Region.binds md e && decide (e.on=i) | none=>true
theorem Zz{i:Nat}(h:VF md ops m i=true)(j:Nat)(g:Oper)(a:ops[j]?=some g)(s:¬j<m):∃e∈g.after,Region.binds md e=true/\e.on=i:=by
 have d:j<ops.size:=(As a);have l:=List.all_eq_true.1 h j (List.mem_range.2 d);simp only[a,decide_eq_false s,GK]at l;obtain⟨k,p,f⟩:=Array.any_eq_true.1 l;rw[ED]at f;exact⟨_,Array.getElem_mem p,f.1,of_decide_eq_true f.2⟩
theorem ZH(hZ:∀{w w':World},Z w->Bw w w'->Z w'){i:Nat}{N:Oper}{v:Value}(hi:ops[i]?=some N)(him:i<m)(C:∀(j:Nat)(o:Oper) O b,ops[j]?=some o->o.op≠.select O b)(L:∀(j:Nat)(p:Oper),ops[j]?=some p->¬j<m->∃e∈p.after,Region.binds md e=true/\e.on=i) :
    ∀ (g:Nat) (d:Array Bool) (a:Act) (w:World),Z w ->
     (∀j p,ops[j]?=some p->j≠i->d.getD j true=false->(∀e∈p.after,Region.binds md e=true->e.on≠i)->N.apart ops p=true) ->
     i∈Region.ready md ops d->Jo Z P ops N v a ->
     C8 Z P md ops m Q g (d.setIfInBounds i true) (a.put N.dst v) w->C8 Z P md ops m Q (g+1) d a w:=by
 intro g
 induction g with
 | zero =>
  intro d a w hC _ K hy H;refine⟨λh=>(by rw[h]at K;cases K),λj hj w' l=>?_⟩
  by_cases f:j=i
  . subst f;exact SM hi hy (hZ hC l) λJ x=>⟨λ_ h=>hZ h x,R8 H (l.trans (x.mono l.size))⟩
  . have:=ready_mono hj f
    rw[H.1]at this
    cases this
 | succ g ih =>
  intro d a w hC z K hy H;refine⟨λh=>(by rw[h]at K;cases K),λj hj w' l=>?_⟩;have W:=hZ hC l
  by_cases f:j=i
  . subst f;exact SM hi hy W λJ x=>⟨λ_ h=>hZ h x,R8 H (l.trans (x.mono l.size))⟩
  . have I:=H.2 j (ready_mono hj f) w' l
    obtain⟨F,p,A,Y⟩:=mem_ready.1 hj;have G:∀e∈p.after,Region.binds md e=true->e.on≠i:=λe he l heq=>by
     have I:=Y e he l;have h0:=(mem_ready.1 K).1;rw[heq]at I
     rcases CQ i d.size with h' | h'
     . simp[h']at h0 I;rw[h0]at I;cases I
     . simp[EU h']at I
    have s:j<m:=by
     by_cases s:j<m
     . exact s
     . obtain⟨e,he,l,hon⟩:=L j p A s
       exact absurd hon (G e he l)
    have h2:=WJ A (z j p A f F G) (λO b=>C i N O b hi) (λO b=>C j p O b A) hy I
    have B:∀k ok,ops[k]?=some ok->k≠i->(d.setIfInBounds j true).getD k true=false ->
        (∀e∈ok.after,Region.binds md e=true->e.on≠i)->N.apart ops ok=true:=λk ok hk hki U hno=>by
     refine z k ok hk hki ?_ hno
     by_cases X:j=k
     . subst X;exact F
     . rw[getD_set_ne true X]at U;exact U
    refine MD (λa' J h3=>?_) h2;obtain⟨h3y,h3g,h3a⟩:=h3;refine⟨λ_=>h3g s,ih (d.setIfInBounds j true) a' J (h3g s W) B (ready_mono K (GE f)) h3y ?_⟩;rw[FY _ _ f];exact h3a
theorem R9{i f:Nat}{o:Oper}{d:Array Bool}{a:Act}{w:World}{G:World->World}(z:G7 Z G)(j:Z w)(s:ops[i]?=some o)(A:decide (i<m)=true)(l:(Region.noSelect ops && VF md ops m i)=true)
    (p:(Region.free md ops d i && (Region.ready md ops d).contains i)=true)
    (h:∀K:Act->Prop,(∀a,C8 Z P md ops m Q f (d.setIfInBounds i true) a w->K a)->if Region.wanted o (yielded ops a.tmps) then ∃v,(∀x,Dz P (G x) v ((execOp a.eval o).run P (G x)))/\K (a.put o.dst v) else K (a.put o.dst undef)) :
    C8 Z P md ops m Q (f+1) d a w:=by
 have B:=h _ λ_ h=>h;have g:i<m:=of_decide_eq_true A;rw[ED]at l p
 split at B
 . rename_i hw
   obtain⟨v,H,C⟩:=B;refine ZH z.grow s g (FB l.1) (Zz l.2) f d a w j (FQ s p.1) (by simpa using p.2) ?_ C;unfold Jo;rw[if_pos hw];intro w' F;have:=H w';rw[z.onto w' F]at this;exact this
 . rename_i hw
   refine ZH z.grow s g (FB l.1) (Zz l.2) f d a w j (FQ s p.1) (by simpa using p.2) ?_ B;unfold Jo;rw[if_neg hw]
end
theorem Ox{P:Program}{o:Oper}{a:Act}{w w':World}{K:Act->World->Prop}{s x:Operand}{t:TypeId}{v vx f:Value}{y:Nat->Option Bool}(d:o.guard=none)(j:o.op=.call { callee:=.builtin .append,args:=#[s,x],argTypes:=#[t,t] })
    (l:a.eval s=v) (p:a.eval x=vx) (g:(Builtin.append_ #[t,t] o.type #[v,vx]).run P w=.ok f w') (h:K (a.put o.dst f) w'):if Region.wanted o y then Dl P o a K ((execOp a.eval o).run P w) else K (a.put o.dst undef) w:=by
 have i:Region.wanted o y=true:=by unfold Region.wanted;rw[d]
 rw[if_pos i];unfold execOp;simp only[j,resolve,invoke,builtin,FU,Sem.run_pure,Result.andThen_ok,List.map_toArray,AY,BU,l,p,g,Dl];exact h
end Go.Proofs.YtkcpjanmemdjlaaGreatDoor
