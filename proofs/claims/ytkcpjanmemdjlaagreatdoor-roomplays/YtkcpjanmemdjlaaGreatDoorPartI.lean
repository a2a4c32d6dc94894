/-
  A part of the texts that the proof uses.
-/
import Derived.Test.YtkcpjanmemdjlaaGreatDoorPartH
set_option maxRecDepth 100000
set_option maxHeartbeats 40000000
set_option linter.all false
namespace Go.Proofs.YtkcpjanmemdjlaaGreatDoor
open Go.Proofs.Tryz Go.RowKit Go.Maps
section
attribute [local go_sem] Oper.semAt_some Dz Dl
variable {lo r bx bmx β cf : Nat}{w w' : World}{bs : List Nat}{R : Rm}{p : Pk}{v : Value}{pf : Option Addr}
theorem UP:(prog.info? 111).map (λi=>(i.zero,i.size,i.bytes))=some (some (.agg #[I6 0,I6 0,I6 0,I6 0,I6 0,I6 0,.slice none 0 0]),7,72):=by kernel_rfl
theorem UU(p:Pk)(q:Option Addr)(n c:Nat):∀u∈Dq p (.slice q n c),u.oneCell'=true:=λu a=>by
 simp only[Dq,DR,DL,or_false]at a
 rcases a with rfl|rfl|rfl|rfl|rfl|rfl|rfl<;>rfl
theorem K3(h:Ac lo w r bx bmx bs R){p:Pk}{vx:Value}(P:Ar lo w vx p.x.op)(D:R.fl.length<400){pf:Option Addr}{cf:Nat}(n:w.cell? (Ad r 2)=some (.slice pf R.fl.length cf)) :
    ∃ A,A.length=R.fl.length/\w.ownsRow lo 111 7 (.slice pf R.fl.length cf) R.fl.length (pkC R.fl A)/\∀u c,u.ownsRow lo 111 7 c (R.fl.length+1) (pkC R.fl A++Dq p vx)->w.grownBy u (Value.slice pf R.fl.length cf).ownBlock->(∀k,c.ownBlock=some k->(Value.slice pf R.fl.length cf).ownBlock=some k\/w.heap.size<=k)->∀d,Bw u d ->
     d.cell? (Ad r 2)=some (.slice pf R.fl.length cf)/\d.frozen? (Ad r 2)=false/\Ac lo (d.setCell (Ad r 2) c) r bx bmx bs (Cm R p)/\keptF w (d.setCell (Ad r 2) c) r:=by
 obtain⟨I,K,q,s,m,W,E⟩:=Kj h;have e:=n;rw[Az m 2]at e;have e:(Value.slice q R.fl.length s)=.slice pf R.fl.length cf:=by
  have:some (Value.slice q R.fl.length s)=some (.slice pf R.fl.length cf):=e;exact Bq this
 rw[e]at m E;obtain⟨A,J,H,O⟩:=id E;have j:=λk=>Kd (k:=k) E;refine⟨A,J,H,λu c z C G d l=>?_⟩;have Q:=Zx (Ze (x:=p) (by decide) J H O P C z) l;have g:=h.low;have F:some r≠(Value.slice pf R.fl.length cf).ownBlock:=λe=>by
  obtain⟨_,_,B,t⟩:=j r e.symm;have:=Cx m t;revert this;decide
 have f:u.heap[r]?=some (Oc #[Pd bx 0,.slice I bs.length K,.slice pf R.fl.length cf,I6 (R.lost:Int)] 78):=(C.block r (As m) F).trans m;have b:=(l.block r (Array.getElem?_eq_some_iff.1 f).1).trans f;have L:sameBut w (d.setCell (Ad r 2) c) (λk=>k=r\/(Value.slice pf R.fl.length cf).ownBlock=some k):=((IU (S:=λk=>k=r\/(Value.slice pf R.fl.length cf).ownBlock=some k) C λk e=>.inr e).comp (Cf l (λ_=>False)) λk _ h=>h.elim).comp (B6 (S:=λk=>k=r\/(Value.slice pf R.fl.length cf).ownBlock=some k) (.inl rfl)) λk _ h=>h;have o:Cm R p = { R with fl:=R.fl++[p] }:=by unfold Cm;rw[if_neg (by omega)]
 have i:=heap_setCell_same d r 2 _ _ c b;refine⟨Az b 2,Gf b,?_,L.mono λk _ e=>e.imp id λe=>⟨_,n,e⟩,λk y=>?_⟩
 . rw [o]
   refine Ve (X:=λk=>k=r\/(Value.slice pf R.fl.length cf).ownBlock=some k) (vc:=.slice I bs.length K) (vf:=c) h i ⟨_,_,_,m⟩ ?_ L (λk y e=>?_) rfl rfl rfl rfl rfl
   . refine JB (S:=λk=>k=r) Q (B6 rfl) λk y e=>?_
     subst e;exact⟨g,C6 b (by decide),λB U t=>by have:=Cx b t;revert this;decide⟩
   . rcases e with rfl | e
     . exact⟨g,_,_,m,.inl rfl⟩
     . obtain⟨a,_,B,t⟩:=j k e
       exact⟨a,B,_,t,.inr rfl⟩
 . rcases y with rfl | ⟨v,e,y⟩
   . exact .inl (.inl rfl)
   . have N:(d.setCell (Ad r 2) c).cell? (Ad r 2)=some c:=Az i 2
     rw[N]at e;obtain rfl:=Bq e;exact(G k y).imp (λe=>.inr ⟨_,n,e⟩) id
theorem K4(h:Ac lo w r bx bmx bs R){p:Pk}(d:400<=R.fl.length) :
    Ac lo (w.setCell (Ad r 3) (I6 ((R.lost:Int)+1))) r bx bmx bs (Cm R p)/\keptF w (w.setCell (Ad r 3) (I6 ((R.lost:Int)+1))) r:=by
 obtain⟨j,l,pf,cf,f,q,i⟩:=Kj h;have c:Cm R p = { R with lost:=R.lost+1 }:=by unfold Cm;rw[if_pos d]
 have b:=h.low;have a:=heap_setCell_same w r 3 _ _ (I6 ((R.lost:Int)+1)) f;refine⟨?_,B6 (.inl rfl),λk g=>?_⟩
 . rw [c]
   refine Ve (X:=λk=>k=r) (vc:=.slice j bs.length l) (vf:=.slice pf R.fl.length cf) h a ⟨_,_,_,f⟩ ?_ (B6 rfl) (λk g e=>?_) rfl rfl rfl rfl rfl
   . refine JB (S:=λk=>k=r) i (B6 rfl) λk g e=>?_
     subst e;exact⟨b,C6 f (by decide),λo s m=>by have:=Cx f m;revert this;decide⟩
   . subst e
     exact⟨b,_,_,f,.inl rfl⟩
 . rcases g with rfl | ⟨v,e,g⟩
   . exact .inl (.inl rfl)
   . refine .inl (.inr ⟨v,?_,g⟩)
     have n:(w.setCell (Ad r 3) (I6 ((R.lost:Int)+1))).cell? (Ad r 2)=some (.slice pf R.fl.length cf):=Az a 2;rw[n]at e;rw[←Bq e];exact Az f 2
theorem Md{a c:World}(b:Bw w a)(h:sameBut a c (El lo a bmx)):sameBut w c (El lo w bmx) :=
 (Cf b (El lo w bmx)).comp h λk g e=>⟨e.1,e.2.imp id λ⟨d,T,i,f⟩=>⟨d,T,(b.block k g).symm.trans i,f⟩⟩
structure ZPr (lo r bx bmx β:Nat) (bs:List Nat) (R:Rm) (p:Pk) (v:Value) (pf:Option Addr) (cf:Nat) (wx:World):Prop where
 rm:Ac lo wx r bx bmx bs R
 fl:wx.cell? (Ad r 2)=some (.slice pf R.fl.length cf)
 box:wx.heap[β]?=some (.cells (Dq p v).toArray 111 (0,0))
 op:Ar lo wx v p.x.op
theorem ZPr.grow(h:ZPr lo r bx bmx β bs R p v pf cf w)(a:Bw w w'):ZPr lo r bx bmx β bs R p v pf cf w' :=
 ⟨Gg h.rm a,(zC a r 2 (Ig h.rm)).trans h.fl,(a.block β (As h.box)).trans h.box,Bt h.op a⟩
structure ZPk (r β:Nat) (p:Pk) (n:Nat) (v:Value) (pf:Option Addr) (cf:Nat) (wx:World):Prop where
 lt:r<wx.heap.size
 fl:wx.cell? (Ad r 2)=some (.slice pf n cf)
 box:wx.heap[β]?=some (.cells (Dq p v).toArray 111 (0,0))
theorem ZPk.grow{n:Nat}(h:ZPk r β p n v pf cf w)(a:Bw w w'):ZPk r β p n v pf cf w' :=
 ⟨AK h.lt a.size,(zC a r 2 h.lt).trans h.fl,(a.block β (As h.box)).trans h.box⟩
theorem ZPr.less(h:ZPr lo r bx bmx β bs R p v pf cf w):ZPk r β p R.fl.length v pf cf w:=⟨Ig h.rm,h.fl,h.box⟩
theorem Qv(h:Ac lo w r bx bmx bs R)(p:Pk)(v:Value)(hx:Ar lo w v p.x.op)(I:R.lost<=1000000000000)(hfl:R.fl.length<=400) :
    Cg 51 #[Pd r 0,pkV p v] w λe w'=>e=.returned (.tuple #[])/\Ac lo w' r bx bmx bs (Cm R p)/\keptF w w' r:=by
 obtain⟨c,d,rfl⟩:=C7 hx;obtain⟨pc,cc,pf,cf,h2,h3,h4⟩:=Kj h;have hfc:R.fl.length<=cf/\cf<=maxLen:=by
  obtain⟨vs,_,h5,_⟩:=h4
  rcases h5.2 with ⟨e,h0⟩|⟨g,cap,cur,e,_,_,h6,h7,_⟩
  . injection e with _ _ e3;rw[e3,h0];unfold maxLen;omega
  . injection e with _ _ e3;rw[e3];exact⟨h6,h7⟩
 obtain⟨hf1,hf2⟩:=hfc;unfold maxLen at hf2;have m:Bw w (w.alloc (.cells (Dq p (.slice c p.x.op.length d)).toArray 111)):=zA _ _;have HB:=Aa m
 have L:Hid (ZPr lo r bx bmx w.heap.size bs R p (.slice c p.x.op.length d) pf cf (w.alloc (.cells (Dq p (.slice c p.x.op.length d)).toArray 111))) :=
  ⟨Gg h m,(zC m r 2 (Ig h)).trans (Az h2 2),heap_alloc_new _ _,Bt hx m⟩
 have HLT:Hid (r<w.heap.size):=Ig h;obtain⟨i0,hi,hq0,X,hq2⟩:=info_parts UP
 by_cases Y:400<=R.fl.length
 case pos =>
  have hL:=λW (hz:ZPr lo r bx bmx w.heap.size bs R p (.slice c p.x.op.length d) pf cf W)=>K4 (p:=p) hz.rm Y;have HL:Hid (Ac lo ((w.alloc (.cells (Dq p (.slice c p.x.op.length d)).toArray 111)).setCell (Ad r 3) (I6 ((R.lost:Int)+1))) r bx bmx bs (Cm R p)/\keptF w ((w.alloc (.cells (Dq p (.slice c p.x.op.length d)).toArray 111)).setCell (Ad r 3) (I6 ((R.lost:Int)+1))) r):=by
   obtain⟨a,b⟩:=hL _ L.out;exact⟨a,(Ip (Ig h) m).trans b⟩
  have hW:∃W,W=w.alloc (.cells (Dq p (.slice c p.x.op.length d)).toArray 111):=⟨_,rfl⟩;have x2:(w.alloc (.cells (Dq p (.slice c p.x.op.length d)).toArray 111)).cell? (Ad r 2)=some (.slice pf R.fl.length cf):=L.out.fl;have U:=(m.block r HLT.out).trans h2;have x3:(w.alloc (.cells (Dq p (.slice c p.x.op.length d)).toArray 111)).cell? (Ad r 3)=some (I6 (R.lost:Int)):=Az U 3;have xf:(w.alloc (.cells (Dq p (.slice c p.x.op.length d)).toArray 111)).frozen? (Ad r 3)=false:=Gf U;have hge:(400:Int)<=(R.fl.length:Int):=by omega
  have hwr:wrap64 ((R.lost:Int)+1)=(R.lost:Int)+1:=E0 (by omega) (by omega);have i:(Dq p (.slice c p.x.op.length d)).toArray=#[I6 p.kind,I6 (p.c:Int),I6 p.rev,I6 p.id,I6 p.x.c,I6 p.x.i,.slice c p.x.op.length d]:=rfl;rw[i]at HL x2 x3 xf;unfold pkV;generalize p.kind=a0 at *;generalize p.rev=a2 at *;generalize p.id=a3 at *;generalize p.x.c=a4 at *;generalize p.x.i=a5 at *;generalize p.x.op.length=a6 at *;clear h h2 h3 h4 hx hL hW U i m L hi hq0 X hq2 I hfl
  go_enter func51,ntmps51
  go_wp2;exact bodyPost_ret (results_none rfl _ _ _) rfl ⟨rfl,HL.out⟩
 case neg =>
  have hlt:¬(400:Int)<=(R.fl.length:Int):=by omega
  have x2:(w.alloc (.cells (Dq p (.slice c p.x.op.length d)).toArray 111)).cell? (Ad r 2)=some (.slice pf R.fl.length cf):=L.out.fl;have HR:Hid (R.fl.length<400):=by show R.fl.length<400;omega
  have i:(Dq p (.slice c p.x.op.length d)).toArray=#[I6 p.kind,I6 (p.c:Int),I6 p.rev,I6 p.id,I6 p.x.c,I6 p.x.i,.slice c p.x.op.length d]:=rfl;rw[i]at x2 HB;have HZ':=L.out;rw[i]at HZ';have L:Hid _:=HZ';obtain⟨β,J⟩:∃β,w.heap.size=β:=⟨_,rfl⟩;have HBT:Hid (w.heap.size=β):=J;have HOWN:Hid (∀k,(Value.slice pf R.fl.length cf).ownBlock=some k->k≠r/\k<β):=λk hk=>by
   obtain⟨_,hlt,cs,hc⟩:=Kd h4 hk;refine⟨λe=>?_,by rw[←J];exact hlt⟩;subst e;have:=Cx h2 hc;revert this;decide
  rw[J]at L;have HLO:Hid (lo<=w.heap.size):=CW (DV h.low (Ig h));clear h h2 h3 h4 hx m J HZ' I;unfold pkV
  go_enter func51,ntmps51
  go_wp2;refine Kh (λwx:World=>ZPk r β p R.fl.length (.slice c p.x.op.length d) pf cf wx) 8 11 (by kernel_rfl) rfl ?_;intro w30 E;have S:=L.out.grow E;have hbA:=HB.out.trans (E.mono HB.out.size);have l:=S.less;obtain⟨G,o⟩:=JC (Z:=λwx:World=>ZPk r β p R.fl.length (.slice c p.x.op.length d) pf cf wx) l (λ{w w'} h hb=>ZPk.grow h hb);have y2:∀y,(G y).cell? (Ad r 2)=some (.slice pf R.fl.length cf):=λy=>(o.but y).fl;have b0:=λy=>cQ (o.but y).box 0 rfl;have b1:=λy=>cQ (o.but y).box 1 rfl;have b2:=λy=>cQ (o.but y).box 2 rfl;have b3:=λy=>cQ (o.but y).box 3 rfl;have b4:=λy=>cQ (o.but y).box 4 rfl;have b5:=λy=>cQ (o.but y).box 5 rfl;have b6:=λy=>cQ (o.but y).box 6 rfl;rw[HBT.out];refine az o l 0 λ_ k=>?_;go_simp;apply k;clear k;refine az o l 1 λ_ k=>?_;go_simp;apply k;clear k;refine az o l 2 λ_ k=>?_;go_simp;apply k;clear k;refine az o l 3 λ_ k=>?_;go_simp;apply k;clear k;refine az o l 4 λ_ k=>?_;go_simp;apply k;clear k;refine az o l 5 λ_ k=>?_;go_simp;apply k;clear k;clear y2 b0 b1 b2 b3 b4 b5 b6 o;refine aO 6 ⟨_,rfl,?_⟩;intro H C K x;have hz2:=S.grow C;have Q:=hbA.trans (C.mono hbA.size)
  go_simp
  refine x _ _ (λhz=>hz.grow (zA _ _)) ?_;clear x K;refine aO 7 ⟨_,rfl,?_⟩;intro w32 A K x;have D:Bw H (H.alloc (Oc #[I6 p.kind,I6 (p.c:Int),I6 p.rev,I6 p.id,I6 p.x.c,I6 p.x.i,.slice c p.x.op.length d] 111)):=zA _ _;have O:=(A.block H.heap.size (by rw[Bb];omega)).trans (heap_alloc_new H (Oc #[I6 p.kind,I6 (p.c:Int),I6 p.rev,I6 p.id,I6 p.x.c,I6 p.x.i,.slice c p.x.op.length d] 111));have q:=D.trans (A.mono D.size);have f:=hz2.grow q;have hbC:=Q.trans (q.mono Q.size);obtain⟨vs,v1,v2,v3⟩:=K3 f.rm f.op HR.out f.fl;obtain ⟨v',w',hrun,t,z,hvn⟩:=U8 (P:=prog) w32 lo 76 76 111 i0 (.agg #[I6 0,I6 0,I6 0,I6 0,I6 0,I6 0,.slice none 0 0]) 7 72 underlying76 hi hq0 X hq2 rfl (by decide) (.slice pf R.fl.length cf) R.fl.length _ v2 (Ad H.heap.size 0) 1 1 (Dq p (.slice c p.x.op.length d)) rfl (λj u hj=>by
   have hjl:j<7:=(De hj);have:=Az O j;rw[DG,DC,this];have e:(#[I6 p.kind,I6 (p.c:Int),I6 p.rev,I6 p.id,I6 p.x.c,I6 p.x.i,.slice c p.x.op.length d]:Array Value)[j]?=(Dq p (.slice c p.x.op.length d))[j]?:=by rw[←CE];rfl
   rw[e,hj]) (UU p c p.x.op.length d) (by unfold maxLen;omega) (by omega) (AF HLO.out hbC.size) (by omega)
  have HVN:=Aa hvn;have V3:=Aa v3;have HG:=Aa z;have HO:Hid _:=t;have HBC:=Aa hbC;have s:r<w32.heap.size:=f.less.lt;have hz4:ZPk r β p R.fl.length (.slice c p.x.op.length d) pf cf w':=by
   have hno:=HOWN.out;refine⟨AK s z.size,?_,?_⟩
   . exact(AE (w:=w32) (a:=(Ad r 2)) (z.block r s λe=>(hno r e.symm).1 rfl)).trans f.fl
   . exact(z.block β (As f.box) λe=>absurd (hno β e.symm).2 (Nat.lt_irrefl _)).trans f.box
  refine Ox rfl rfl rfl rfl hrun ?_;refine x _ _ (λ_=>hz4) ?_;clear x K S hz2 f hbA Q hbC E C A D q O v3 v2 v1 l hi hq0 X hq2 hz4 z s hvn;obtain⟨p',c',rfl⟩:=Bm t;clear t;refine Qt (by kernel_rfl) ?_;refine aO 8 ⟨_,rfl,?_⟩;intro w33 n K x
  go_simp
  refine x _ _ (λ_=>trivial) ?_;clear x K;refine aO 9 ⟨_,rfl,?_⟩;intro w34 F K x
  go_simp
  refine x _ _ (λ_=>trivial) ?_;clear x K;refine aO 10 ⟨_,rfl,?_⟩;intro w35 N K x;obtain⟨u1,u2,u3,u4⟩:=V3.out w' _ HO.out HG.out HVN.out w35 ((n.trans (F.mono n.size)).trans (N.mono (n.trans (F.mono n.size)).size));have U3:=Aa u3;have U4:=Aa u4;clear u3 u4 n F N
  go_simp
  refine x _ _ (λ_=>trivial) ?_;clear x K;refine ae ?_;intro w36 B
  have FIN:Hid (Ac lo w36 r bx bmx bs (Cm R p)/\keptF w w36 r) :=
   ⟨Gg U3.out B,((Ip HLT.out HBC.out).trans U4.out).trans (Ip (Ig U3.out) B)⟩
  clear B;go_wp2;go_end0;exact⟨rfl,FIN.out⟩
end
section
attribute [local go_sem] Oper.semAt_some
attribute [local go_sem] Yz
theorem jA{lo n:Nat}{w w':World}{b bm:Nat}{D:List (List UInt8)}{E:List SE}{M:Cd}{S:Nat->Prop}(h:Fq lo n w b bm D E M)(i:sameBut w w' S)(o:∀k,k<w.heap.size->S k->lo<=k/\∃g T l,w.heap[k]?=some (.cells g T l)/\T≠87/\T≠67/\T≠58/\T≠9):Fq lo n w' b bm D E M:=by
 obtain⟨x,F,⟨y,C,s,j,z⟩,t⟩:=h;have d:sameBut w w' (λk=>k<w.heap.size/\S k):=⟨i.1,λk c L=>i.2 k c λe=>L ⟨c,e⟩,i.os,i.tape,i.output⟩;refine⟨x,F,⟨y,C,(d.2 b (As s) λc=>?_).trans s,GZ j d λk c m=>?_,Kc z d λk c=>?_⟩,J9 t d λc=>?_⟩
 . obtain⟨_,g,T,l,f,_,J,_⟩:=o b c.1 c.2
   exact J (Cx s f).symm
 . obtain ⟨_,g,T,l,f,_,_,_,K⟩:=o k m.1 m.2
   rcases j.2 with ⟨rfl,_⟩|⟨N,A,B,rfl,_,u,_⟩
   . cases c
   . obtain rfl:N=k:=Bq c
     exact K (Cx u f).symm
 . obtain⟨a,g,T,l,f,H,_,I,_⟩:=o k c.1 c.2
   exact⟨a,C6 f H,λO G q=>I (Cx f q)⟩
 . obtain⟨_,g,T,l,f,_⟩:=o bm c.1 c.2
   exact F9 t _ _ _ f
theorem jN(lo:Nat)(s:List UInt8)(O:s.length<=2000)(u:(scan s).2=true)(w:World)(U:lo<=w.heap.size):Cg 34 #[Sx s] w λe w'=>∃b bm,e=.returned (.tuple #[Pd b 0,.agg #[I6 0,I6 (-1)]])/\Fq lo 0 w' b bm [s] [] (λ_=>none)/\w.heap.size<=bm/\Bw w w':=by
 have H:(ByteArray.mk s.toArray).size=s.length:=by simp[ByteArray.size]
 have P:Hid (∀C,Cg 65 #[Sx s] C λe w'=>∃q t A y,e=.returned (.tuple #[.agg #[I6 q,I6 t,I6 A,I6 y],.agg #[I6 0,I6 (-1)]])/\Bw C w'):=λC=>(Vf ⟨s.toArray⟩ (by rw[H];omega) C u).mono λe w' ⟨L,N⟩=>⟨_,_,_,_,N,L⟩;have Z:¬(2000:Int)<(s.length:Int):=by omega
 obtain⟨β,F⟩:∃β,w.heap.size=β:=⟨_,rfl⟩;have l:=Aa F;clear u O
 go_enter func34,ntmps34
 go_wp2_with (first
  | (go_at_call 65;refine(P.out _).mono ?_;rintro e f ⟨q,t,A,y,rfl,j⟩;have h:f.heap[β]?=some (Oc #[I6 0,I6 0] 32):=(j.block β (by rw[Bb,l.out];omega)).trans (by have:=heap_alloc_new w (Oc #[I6 0,I6 0] 32);rwa[l.out]at this);have a:=Aa h;have z:Hid (Bw w f):=(zA _ _).trans (j.mono (by rw[Bb];omega));clear j h)
  | (go_at_call 35;refine(Tv _ _).mono ?_;rintro e J ⟨rfl,c⟩
     have d:J.heap[β]?=some (Oc #[I6 0,I6 0] 32):=by
      first
       | exact(c.block β (Array.getElem?_eq_some_iff.1 (Ft (Ft a.out))).1).trans (Ft (Ft a.out))
       | exact(c.block β (Array.getElem?_eq_some_iff.1 (Ft (Ft (Ft (Ft (Ft a.out)))))).1).trans (Ft (Ft (Ft (Ft (Ft a.out)))))
     have Q:=cQ d 0 rfl;have W:=cQ d 1 rfl;have f0:=fZ d 0;have f1:=fZ d 1
     have B:=Aa c;have I:=Aa d;clear c d))
 have G:=z.out.size;have o:w.heap.size<=β:=by have:=l.out;omega
 have c:=B.out;have i:=heap_alloc_new ((f.alloc (Oc #[I6 q,I6 t,I6 A,I6 y] 118)).alloc (Oc #[I6 0,I6 (-1)] 32)) (Oc #[Sx s] 9);have g:=Zv (((f.alloc (Oc #[I6 q,I6 t,I6 A,I6 y] 118)).alloc (Oc #[I6 0,I6 (-1)] 32)).alloc (Oc #[Sx s] 9));have x:=heap_alloc_new ((((f.alloc (Oc #[I6 q,I6 t,I6 A,I6 y] 118)).alloc (Oc #[I6 0,I6 (-1)] 32)).alloc (Oc #[Sx s] 9)).alloc (.map #[] 0)) (Oc #[Sl (f.heap.size+1+1) 1 1,.slice none 0 0,.map (some (f.heap.size+1+1+1))] 67);simp only[AN]at i g x;have K:=QJ (lo:=lo) (n:=0) (b:=f.heap.size+1+1+1+1) (bm:=f.heap.size+1+1+1) (D:=[s]) (E:=[]) (M:=λ_=>none) ⟨by omega,by omega,⟨_,_,x,⟨rfl,.inr ⟨f.heap.size+1+1,1,_,rfl,by omega,Ft (Ft i),Ai _,by unfold maxLen;omega,rfl,rfl⟩⟩,RP _ _ _ _⟩,J9 (S:=λ_=>False) g (Cf (zA _ _) _) id⟩ c;have X:sameBut J ((J.setCell (Ad β 0) (I6 0)).setCell (Ad β 1) (I6 (-1))) (λk=>k=β):=(B6 (S:=λk=>k=β) rfl).trans (B6 (S:=λk=>k=β) rfl);have m:lo<=β:=by omega
 refine bodyPost_ret (v:=.tuple #[.pointer (some (Ad (f.heap.size+1+1+1+1) 0)),.agg #[I6 0,I6 (-1)]]) (by simp[results,results34,go_sem,Q,W]) rfl ?_;refine⟨_,_,rfl,jA K X λk _ Y=>?_,by omega,((((((((z.out.alloc G _).alloc (by rw[Bb];omega) _).alloc (by simp only[AN];omega) _).alloc (by simp only[AN];omega) _).alloc (by simp only[AN];omega) _).trans (B.out.mono (by simp only[AN];omega))).setCell (p:=(Ad β 0)) o _).setCell (p:=(Ad β 1)) o _)⟩;obtain rfl:=Y;exact⟨m,_,_,_,I.out,by decide,by decide,by decide,by decide⟩
theorem im(s:List UInt8)(G:s.length<=1000000)(j:(scan s).2=false)(w:World):Cg 34 #[Sx s] w (Rt w (.tuple #[.pointer none,.agg #[I6 3,I6 (Gs s)]])):=by
 have t:(ByteArray.mk s.toArray).size=s.length:=by simp[ByteArray.size]
 have A:Hid (∀n,Cg 65 #[Sx s] n (Rt n (.tuple #[.agg #[I6 0,I6 0,I6 0,I6 0],.agg #[I6 3,I6 (Gs s)]]))):=λn=>(ka ⟨s.toArray⟩ (by rw[t];omega) n j).mono λe w' ⟨x,z⟩=>⟨z,x⟩;generalize ((Gs s:Nat):Int)=PL at *;obtain⟨β,o⟩:∃β,w.heap.size=β:=⟨_,rfl⟩;have i:=Aa o;clear j
 go_enter func34,ntmps34
 go_wp2_with (go_at_call 65;refine(A.out _).mono ?_;rintro e d ⟨rfl,h⟩;have g:d.heap[β]?=some (Oc #[I6 0,I6 0] 32):=(h.block β (by rw[Bb,i.out];omega)).trans (by have:=heap_alloc_new w (Oc #[I6 0,I6 0] 32);rwa[i.out]at this);have f:=Aa g;have l:Hid (Bw w d):=(zA _ _).trans (h.mono (by rw[Bb];omega));clear h g)
 have a:=Ft (o':=Oc #[I6 3,I6 PL] 32) (Ft (o':=Oc #[I6 0,I6 0,I6 0,I6 0] 118) f.out);have q:=l.out.size;have c:=heap_alloc_new (d.alloc (Oc #[I6 0,I6 0,I6 0,I6 0] 118)) (Oc #[I6 3,I6 PL] 32);rw[Bb]at c;have y:=(As f.out);have m:Bw w ((d.alloc (Oc #[I6 0,I6 0,I6 0,I6 0] 118)).alloc (Oc #[I6 3,I6 PL] 32)):=(l.out.alloc q _).alloc (by rw[Bb];omega) _;generalize (d.alloc (Oc #[I6 0,I6 0,I6 0,I6 0] 118)).alloc (Oc #[I6 3,I6 PL] 32)=W at *;have C:=cQ a 0 rfl;have D:=cQ a 1 rfl;have E:=fZ a 0;have F:=fZ a 1;have I:=cQ c 0 rfl;have H:=cQ c 1 rfl;have B:β≠d.heap.size+1:=by omega
 have u:¬(d.heap.size+1=β):=by omega
 have k:=Aa m;have b:w.heap.size<=β:=by have:=i.out;omega
 clear a c m;generalize d.heap.size+1=γ at *
 go_region
 all_goals
  go_wp2;refine bodyPost_ret (v:=.tuple #[.pointer none,.agg #[I6 3,I6 PL]]) (by simp[results,results34,go_sem,C,D]) rfl ?_;exact⟨rfl,by first | exact((k.out.setCell (p:=(Ad β 0)) b _).setCell (p:=(Ad β 1)) b _).drew | exact(k.out.drew.setCell (p:=(Ad β 0)) b _).setCell (p:=(Ad β 1)) b _⟩
end
section
variable {lo y k r sx smx : Nat}{w w' w1 w2 : World}{u : Int}{S : Cl}{ys : List Nat}{cl : List (Int × Cl)}{D : List (List UInt8)}{R R' : Rm}
structure Fn (lo:Nat) (w:World) (ys:List Nat) (cl:List (Int×Cl)):Prop where
 len:ys.length=cl.length
 each:∀(k y:Nat) (q:Int×Cl),ys[k]?=some y->cl[k]?=some q->Cj lo w y (k:Int) q.1 q.2
 apart:∀(j k y:Nat),ys[j]?=some y->ys[k]?=some y->j=k
structure Ay (lo:Nat) (w:World) (r sx smx:Nat) (ys:List Nat) (D:List (List UInt8)) (R:Rm):Prop where
 low:lo<=r
 blk:∃vc vf,w.heap[r]?=some (Oc #[Pd sx 0,vc,vf,I6 (R.lost:Int)] 45)/\w.ownsRow lo 52 1 vc ys.length (Ef ys)/\Hk 60 lo w vf R.fl
 cls:Fn lo w ys R.cl
 srv:Fq lo R.n w sx smx D R.E R.M
def Ir (T:TypeId):Prop:=T=45\/T=60\/T=52\/T=67\/T=58\/T=9\/T=69
def Fd (lo:Nat) (w:World) (smx k:Nat):Prop:=lo<=k/\(k=smx\/∃cs T,w.heap[k]?=some (Oc cs T)/\Ir T)
theorem dh{who:Int}(h:Cj lo w y who u S):∃b,w.heap[y]?=some (Oc b 69):=by
 obtain⟨_,c,d,a,_⟩:=h;exact⟨_,a⟩
theorem TT(h:Fn lo w ys cl){k y:Nat}(a:ys[k]?=some y):∃q,cl[k]?=some q/\Cj lo w y (k:Int) q.1 q.2:=by
 have b:k<cl.length:=by rw[←h.len];exact(De a)
 exact⟨cl[k],B7 b,h.each k y cl[k] a (B7 b)⟩
theorem MJ(h:Fn lo w ys cl){y:Nat}(c:y∈ys):lo<=y/\∃b,w.heap[y]?=some (Oc b 69):=by
 obtain⟨k,d⟩:=List.mem_iff_getElem?.1 c;obtain⟨q,_,a⟩:=TT h d;exact⟨a.1,dh a⟩
theorem NO{lo:Nat}{w w':World}{ys:List Nat}{cl:List (Int×Cl)}{X:Nat->Prop}(h:Fn lo w ys cl)(b:sameBut w w' X)(e:∀k,k<w.heap.size->X k->lo<=k/\F7 w k)(d:∀y∈ys,¬X y):Fn lo w' ys cl :=
 ⟨h.len,λk y q a c=>TR (h.each k y q a c) b e (d y (BI a)),h.apart⟩
theorem fa(h:Fn lo w ys cl)(f:ys[k]?=some y)(n:Cj lo w' y (k:Int) u S)(i:sameBut w w' λx=>x=y):Fn lo w' ys (cl.set k (u,S)):=by
 obtain⟨o,_,d⟩:=TT h f;refine⟨by rw[h.len,List.length_set],λj g l b a=>?_,h.apart⟩;rw[List.getElem?_set]at a
 by_cases c:k=j
 . subst c
   rw[if_pos rfl]at a
   split at a
   . obtain rfl:=Bq a
     rw[f]at b;obtain rfl:=Bq b;exact n
   . cases a
 . rw[if_neg c]at a
   exact TR (h.each j g l b a) i (λx _ m=>by subst m;exact⟨d.1,jz d⟩) λe=>by subst e;exact c (h.apart k j _ f b)
theorem MK{lo n:Nat}{w w':World}{b bm:Nat}{D:List (List UInt8)}{E:List SE}{M:Cd}{X:Nat->Prop}(h:Fq lo n w b bm D E M)(c:sameBut w w' X)(d:∀k,k<w.heap.size->X k->lo<=k/\F7 w k/\k≠bm/\∀g T j,w.heap[k]?=some (.cells g T j)->T≠67/\T≠58/\T≠9):Fq lo n w' b bm D E M:=by
 obtain⟨s,t,⟨A,z,i,f,q⟩,o⟩:=h;refine⟨s,t,⟨A,z,(c.2 b (As i) λe=>((d b (As i) e).2.2.2 _ _ _ i).1 rfl).trans i,GZ f c λk a e=>?_,?_⟩,J9 o c λa=>(d bm (T6 o) a).2.2.1 rfl⟩
 . obtain⟨_,l,g,m⟩:=ID f a
   exact((d k l e).2.2.2 _ _ _ m).2.2 rfl
 . refine Kc (S:=λk=>k<w.heap.size/\X k) q ⟨c.1,λk a x=>c.2 k a λe=>x ⟨a,e⟩,c.os,c.tape,c.output⟩ λk a=>?_
   exact⟨(d k a.1 a.2).1,(d k a.1 a.2).2.1,λg j m=>((d k a.1 a.2).2.2.2 g _ j m).2.1 rfl⟩
theorem TP{lo:Nat}{w w':World}{r sx smx:Nat}{ys:List Nat}{D:List (List UInt8)}{R:Rm}{X:Nat->Prop}(h:Ay lo w r sx smx ys D R)(i:sameBut w w' X)(d:∀k,k<w.heap.size->X k->lo<=k/\F7 w k/\k≠smx/\∀c T g,w.heap[k]?=some (.cells c T g)->¬Ir T):Ay lo w' r sx smx ys D R:=by
 obtain⟨x,⟨vc,vf,m,n,q⟩,o,z⟩:=h;have j:∀k c T,w.heap[k]?=some (Oc c T)->Ir T->¬X k:=λk c T b s a=>(d k (As b) a).2.2.2 c T _ b s;refine⟨x,⟨vc,vf,(i.2 r (As m) (j r _ _ m (.inl rfl))).trans m,GZ n i λk b=>?_,JB q i λk b a=>?_⟩,NO o i (λk b a=>⟨(d k b a).1,(d k b a).2.1⟩) λy t=>?_,MK z i λk b a=>⟨(d k b a).1,(d k b a).2.1,(d k b a).2.2.1,λc T g f=>?_⟩⟩
 . obtain⟨_,_,c,f⟩:=ID n b
   exact j k c _ f (by simp[Ir])
 . exact⟨(d k b a).1,(d k b a).2.1,λc g f=>(d k b a).2.2.2 c _ g f (by simp[Ir])⟩
 . obtain⟨_,c,f⟩:=MJ o t
   exact j y c _ f (by simp[Ir])
 . have l:=(d k b a).2.2.2 c T g f
   exact⟨λe=>l (by rw[e];simp[Ir]),λe=>l (by rw[e];simp[Ir]),λe=>l (by rw[e];simp[Ir])⟩
theorem Ii(h:Ay lo w r sx smx ys D R)(a:Bw w w'):Ay lo w' r sx smx ys D R :=
 TP (X:=λ_=>False) h (Cf a _) λ_ _ h=>h.elim
theorem Fu(h:Ay lo w r sx smx ys D R):r<w.heap.size:=by
 obtain⟨_,⟨vc,vf,a,_⟩,_⟩:=h;exact(As a)
theorem Ht(h:Ay lo w r sx smx ys D R):∃a b pf cf,w.heap[r]?=some (Oc #[Pd sx 0,.slice a ys.length b,.slice pf R.fl.length cf,I6 (R.lost:Int)] 45)/\w.ownsRow lo 52 1 (.slice a ys.length b) ys.length (Ef ys)/\Hk 60 lo w (.slice pf R.fl.length cf) R.fl:=by
 obtain⟨_,⟨vc,vf,e,c,d⟩,_⟩:=h;obtain⟨a,b,rfl⟩:=Bm c;obtain⟨pf,cf,rfl⟩:=Zy d;exact⟨a,b,pf,cf,e,c,d⟩
theorem M5{T:TypeId}(h:J1 T):¬Ir T/\T≠87:=by
 unfold J1 at h;unfold Ir
 rcases h with rfl|rfl|rfl|rfl|rfl|rfl|rfl<;>decide
theorem Nd{T:TypeId}(h:Ir T):¬J1 T/\T≠87:=by
 unfold Ir at h;unfold J1
 rcases h with rfl|rfl|rfl|rfl|rfl|rfl|rfl<;>decide
theorem M8(h:Ay lo w r sx smx ys D R){q bx bmx:Nat}{bs:List Nat}{R':Rm}(i:Ac lo w q bx bmx bs R')(d:bmx≠smx)(l:sameBut w w' (El lo w bmx)):Ay lo w' r sx smx ys D R:=by
 refine TP h l λk t e=>⟨e.1,?_⟩
 rcases e.2 with rfl|⟨b,T,a,j⟩
 . have g:=F9 i.srv.2.2.2
   exact⟨λb c=>g b _ c,d,λb T c a=>absurd a (g _ _ _)⟩
 . obtain ⟨m,o⟩:=M5 j
   refine⟨C6 a o,λe=>?_,λn s c f=>?_⟩
   . subst e;exact F9 h.srv.2.2.2 _ _ _ a
   . have:=Cx a f
     subst this;exact m
theorem di{q bx bmx:Nat}{bs:List Nat}(g:Ac lo w q bx bmx bs R'){r sx smx:Nat}{ys:List Nat}{D:List (List UInt8)}{R:Rm}(h:Ay lo w r sx smx ys D R)(d:bmx≠smx)(l:sameBut w w' (Fd lo w smx)):Ac lo w' q bx bmx bs R':=by
 refine Zf g l λk t e=>⟨e.1,?_⟩
 rcases e.2 with rfl|⟨b,T,a,j⟩
 . have i:=F9 h.srv.2.2.2
   exact⟨λb c=>i b _ c,d.symm,λb T c a=>absurd a (i _ _ _)⟩
 . obtain ⟨m,o⟩:=Nd j
   refine⟨C6 a o,λe=>?_,λn s c f=>?_⟩
   . subst e;exact F9 g.srv.2.2.2 _ _ _ a
   . have:=Cx a f
     subst this;exact m
theorem UR(h:Ay lo w r sx smx ys D R)(o:ys[k]?=some y)(g:Cj lo w' y (k:Int) (Bo R k).1 S)(c:sameBut w w' λx=>x=y):Ay lo w' r sx smx ys D (setC R k S)/\sameBut w w' (Fd lo w smx):=by
 obtain⟨B,⟨vc,vf,m,n,z⟩,q,s⟩:=h;obtain⟨b,A,a⟩:=MJ q (BI o);have i:∀x f T j,w.heap[x]?=some (.cells f T j)->T≠69->¬x=y:=λx f T j d t e=>by
  subst e;exact t (Cx d a)
 refine⟨⟨B,⟨vc,vf,(c.2 r (As m) (i r _ _ _ m (by decide))).trans m,GZ n c λx d e=>?_,JB z c λx d e=>?_⟩,fa q o g c,MK s c λx d e=>?_⟩,c.mono λx d e=>?_⟩
 . obtain⟨_,_,f,l⟩:=ID n d
   exact i x _ _ _ l (by decide) e
 . subst e
   exact⟨b,C6 a (by decide),λf j g=>by have:=Cx a g;revert this;decide⟩
 . subst e
   refine⟨b,C6 a (by decide),λe=>?_,λf T j g=>?_⟩
   . subst e;exact F9 s.2.2.2 _ _ _ a
   . have:=Cx a g
     subst this
     decide
 . subst e
   exact⟨b,.inr ⟨_,_,a,by simp[Ir]⟩⟩
theorem dg{A:List (List UInt8)}(h:Ay lo w r sx smx ys D R)(C:Fq lo R'.n w' sx smx A R'.E R'.M)(l:sameBut w w' (Jw lo w smx))(F:R'.cl=R.cl)(J:R'.fl=R.fl)(L:R'.lost=R.lost):Ay lo w' r sx smx ys A R'/\sameBut w w' (Fd lo w smx):=by
 obtain⟨B,⟨vc,vf,m,z,s⟩,n,t⟩:=h
 have b:∀x a T j,w.heap[x]?=some (.cells a T j)->T≠67->T≠58->T≠9->¬Jw lo w smx x:=λx a T j f G I H e=>by
  rcases e.2 with rfl|⟨q,K,d,i⟩
  . exact F9 t.2.2.2 _ _ _ f
  . have:=Cx f d
    subst this
    rcases i with e|e|e
    . exact G e
    . exact I e
    . exact H e
 have c:∀x,Jw lo w smx x->lo<=x/\F7 w x:=λx e=>by
  refine⟨e.1,?_⟩
  rcases e.2 with rfl|⟨q,K,d,i⟩
  . exact λa j=>F9 t.2.2.2 a _ j
  . exact C6 d (by rcases i with rfl|rfl|rfl<;>decide)
 rw[←L]at m;rw[←J]at s;rw[←F]at n;refine⟨⟨B,⟨vc,vf,(l.2 r (As m) (b r _ _ _ m (by decide) (by decide) (by decide))).trans m,GZ z l λx f=>?_,JB s l λx f e=>⟨(c x e).1,(c x e).2,λa j g=>b x _ _ _ g (by decide) (by decide) (by decide) e⟩⟩,NO n l (λx _ e=>c x e) λy E=>?_,C⟩,l.mono λx f e=>?_⟩
 . obtain⟨_,_,a,o⟩:=ID z f
   exact b x _ _ _ o (by decide) (by decide) (by decide)
 . obtain⟨_,a,g⟩:=MJ n E
   exact b y _ _ _ g (by decide) (by decide) (by decide)
 . exact⟨e.1,e.2.imp id λ⟨a,T,g,i⟩=>⟨a,T,g,by rcases i with rfl|rfl|rfl<;>simp[Ir]⟩⟩
def touchW (lo:Nat) (w:World) (k:Nat):Prop:=lo<=k/\∃cs T,w.heap[k]?=some (Oc cs T)/\(T=45\/T=60)
theorem NA(h:sameBut w w' (touchW lo w)):sameBut w w' (Fd lo w smx):=h.mono λk _ ⟨a,b,T,c,d⟩=>⟨a,.inr ⟨b,T,c,by rcases d with rfl|rfl<;>simp[Ir]⟩⟩
theorem TQ{lo:Nat}{w w':World}{r sx smx:Nat}{ys:List Nat}{D:List (List UInt8)}{R R':Rm}{X:Nat->Prop}{vc vf:Value}(h:Ay lo w r sx smx ys D R)(L:w'.heap[r]?=some (Oc #[Pd sx 0,vc,vf,I6 (R'.lost:Int)] 45))(d:∃a b c,w.heap[r]?=some (Oc #[a,vc,b,c] 45))
    (I:Hk 60 lo w' vf R'.fl) (s:sameBut w w' X) (t:∀k,k<w.heap.size->X k->lo<=k/\∃f T,w.heap[k]?=some (Oc f T)/\(T=45\/T=60)) (U:R'.n=R.n) (Z:R'.t=R.t) (N:R'.E=R.E) (W:R'.M=R.M) (P:R'.cl=R.cl):Ay lo w' r sx smx ys D R':=by
 obtain⟨H,⟨l,G,J,E,g4⟩,C,F⟩:=h;have q:l=vc:=by
  obtain⟨a,b,c,d⟩:=d;rw[J]at d;injection d with d;injection d with d;have:=congrArg (λx:Array Value=>x[1]?) d;simpa using this
 subst q;have o:∀x f T z,x<w.heap.size->w.heap[x]?=some (.cells f T z)->T≠45->T≠60->¬X x:=λx f T z i g O Q e=>by
  obtain⟨_,B,Y,j,n⟩:=t x i e;have:=Cx g j;subst this
  rcases n with e|e
  . exact O e
  . exact Q e
 have m:∀x,x<w.heap.size->X x->lo<=x/\F7 w x:=λx g e=>by
  obtain⟨a,f,T,d,n⟩:=t x g e;exact⟨a,C6 d (by rcases n with rfl|rfl<;>decide)⟩
 refine⟨H,⟨l,vf,L,GZ E s λx g=>?_,I⟩,?_,?_⟩
 . obtain⟨_,i,f,A⟩:=ID E g
   exact o x _ _ _ i A (by decide) (by decide)
 . rw[P]
   refine NO C s m λy K=>?_;obtain⟨_,f,d⟩:=MJ C K;exact o y _ _ _ (As d) d (by decide) (by decide)
 . rw [U,N,W]
   refine MK F s λx g e=>?_;obtain⟨a,f,T,d,n⟩:=t x g e;refine⟨a,(m x g e).2,λe=>?_,λB Y z j=>?_⟩
   . subst e;exact F9 F.2.2.2 _ _ _ d
   . have:=Cx d j
     subst this
     rcases n with rfl|rfl<;>decide
theorem SK(h:sameBut w w1 (Fd lo w smx))(f:sameBut w1 w2 (Fd lo w1 smx)):sameBut w w2 (Fd lo w smx):=h.comp f λk g e=>by
 by_cases b:Fd lo w smx k
 . exact b
 . obtain ⟨a,e | ⟨d,T,c,i⟩⟩:=e
   . exact absurd ⟨a,.inl e⟩ b
   . rw[h.2 k g b]at c
     exact⟨a,.inr ⟨d,T,c,i⟩⟩
theorem SJ(a:Bw w w1)(h:sameBut w1 w2 (Fd lo w1 smx)):sameBut w w2 (Fd lo w smx) :=
 (Cf a (Fd lo w smx)).comp h λk d e=>⟨e.1,e.2.imp id λ⟨b,T,f,c⟩=>⟨b,T,(a.block k d).symm.trans f,c⟩⟩
theorem SI(h:sameBut w w1 (Fd lo w smx))(a:Bw w1 w2):sameBut w w2 (Fd lo w smx) :=
 h.comp (Cf a λ_=>False) λ_ _ e=>e.elim
theorem L4(h:Ay lo w r sx smx ys D R){k:Nat}(b:k<R.cl.length):∃y,ys[k]?=some y/\Cj lo w y (k:Int) (Bo R k).1 (Bo R k).2:=by
 have a:k<ys.length:=by rw[h.cls.len];exact b
 refine⟨ys[k],B7 a,h.cls.each k _ _ (B7 a) ?_⟩;unfold Bo;rw[B7 b];rfl
end
section
attribute [local go_sem] Oper.semAt_some Dz Dl
variable {lo r bx bmx β cf : Nat}{w w' : World}{bs : List Nat}{D : List (List UInt8)}{R : Rm}{p : Pk}{v : Value}{pf : Option Addr}
theorem Z6:(prog.info? 60).map (λi=>(i.zero,i.size,i.bytes))=some (some (.agg #[I6 0,I6 0,I6 0,I6 0,I6 0,I6 0,.slice none 0 0]),7,72):=by kernel_rfl
theorem Ll(h:Ay lo w r bx bmx bs D R){p:Pk}{vx:Value}(W:Ar lo w vx p.x.op)(G:R.fl.length<400){pf:Option Addr}{cf:Nat}(n:w.cell? (Ad r 2)=some (.slice pf R.fl.length cf)) :
    ∃ C,C.length=R.fl.length/\w.ownsRow lo 60 7 (.slice pf R.fl.length cf) R.fl.length (pkC R.fl C)/\∀z c,z.ownsRow lo 60 7 c (R.fl.length+1) (pkC R.fl C++Dq p vx)->w.grownBy z (Value.slice pf R.fl.length cf).ownBlock->(∀k,c.ownBlock=some k->(Value.slice pf R.fl.length cf).ownBlock=some k\/w.heap.size<=k)->∀d,Bw z d ->
     d.cell? (Ad r 2)=some (.slice pf R.fl.length cf)/\d.frozen? (Ad r 2)=false/\Ay lo (d.setCell (Ad r 2) c) r bx bmx bs D (Cm R p)/\keptF w (d.setCell (Ad r 2) c) r:=by
 obtain⟨L,O,q,s,m,h3,H⟩:=Ht h;have e:=n;rw[Az m 2]at e;have e:(Value.slice q R.fl.length s)=.slice pf R.fl.length cf:=by
  have:some (Value.slice q R.fl.length s)=some (.slice pf R.fl.length cf):=e;exact Bq this
 rw[e]at m H;obtain⟨C,N,K,U⟩:=id H;have j:=λk=>Kd (k:=k) H;refine⟨C,N,K,λz c B F J d l=>?_⟩;have Y:=Zx (Ze (x:=p) (by decide) N K U W F B) l;have g:=h.low;have I:some r≠(Value.slice pf R.fl.length cf).ownBlock:=λe=>by
  obtain⟨_,_,E,t⟩:=j r e.symm;have:=Cx m t;revert this;decide
 have f:z.heap[r]?=some (Oc #[Pd bx 0,.slice L bs.length O,.slice pf R.fl.length cf,I6 (R.lost:Int)] 45):=(F.block r (As m) I).trans m;have b:=(l.block r (Array.getElem?_eq_some_iff.1 f).1).trans f;have P:sameBut w (d.setCell (Ad r 2) c) (λk=>k=r\/(Value.slice pf R.fl.length cf).ownBlock=some k):=((IU (S:=λk=>k=r\/(Value.slice pf R.fl.length cf).ownBlock=some k) F λk e=>.inr e).comp (Cf l (λ_=>False)) λk _ h=>h.elim).comp (B6 (S:=λk=>k=r\/(Value.slice pf R.fl.length cf).ownBlock=some k) (.inl rfl)) λk _ h=>h;have o:Cm R p = { R with fl:=R.fl++[p] }:=by unfold Cm;rw[if_neg (by omega)]
 have i:=heap_setCell_same d r 2 _ _ c b;refine⟨Az b 2,Gf b,?_,P.mono λk _ e=>e.imp id λe=>⟨_,n,e⟩,λk A=>?_⟩
 . rw [o]
   refine TQ (X:=λk=>k=r\/(Value.slice pf R.fl.length cf).ownBlock=some k) (vc:=.slice L bs.length O) (vf:=c) h i ⟨_,_,_,m⟩ ?_ P (λk A e=>?_) rfl rfl rfl rfl rfl
   . refine JB (S:=λk=>k=r) Y (B6 rfl) λk A e=>?_
     subst e;exact⟨g,C6 b (by decide),λE Z t=>by have:=Cx b t;revert this;decide⟩
   . rcases e with rfl | e
     . exact⟨g,_,_,m,.inl rfl⟩
     . obtain⟨a,_,E,t⟩:=j k e
       exact⟨a,E,_,t,.inr rfl⟩
 . rcases A with rfl | ⟨v,e,A⟩
   . exact .inl (.inl rfl)
   . have Q:(d.setCell (Ad r 2) c).cell? (Ad r 2)=some c:=Az i 2
     rw[Q]at e;obtain rfl:=Bq e;exact(J k A).imp (λe=>.inr ⟨_,n,e⟩) id
theorem Lm(h:Ay lo w r bx bmx bs D R){p:Pk}(d:400<=R.fl.length) :
    Ay lo (w.setCell (Ad r 3) (I6 ((R.lost:Int)+1))) r bx bmx bs D (Cm R p)/\keptF w (w.setCell (Ad r 3) (I6 ((R.lost:Int)+1))) r:=by
 obtain⟨j,l,pf,cf,f,q,i⟩:=Ht h;have c:Cm R p = { R with lost:=R.lost+1 }:=by unfold Cm;rw[if_pos d]
 have b:=h.low;have a:=heap_setCell_same w r 3 _ _ (I6 ((R.lost:Int)+1)) f;refine⟨?_,B6 (.inl rfl),λk g=>?_⟩
 . rw [c]
   refine TQ (X:=λk=>k=r) (vc:=.slice j bs.length l) (vf:=.slice pf R.fl.length cf) h a ⟨_,_,_,f⟩ ?_ (B6 rfl) (λk g e=>?_) rfl rfl rfl rfl rfl
   . refine JB (S:=λk=>k=r) i (B6 rfl) λk g e=>?_
     subst e;exact⟨b,C6 f (by decide),λo s m=>by have:=Cx f m;revert this;decide⟩
   . subst e
     exact⟨b,_,_,f,.inl rfl⟩
 . rcases g with rfl | ⟨v,e,g⟩
   . exact .inl (.inl rfl)
   . refine .inl (.inr ⟨v,?_,g⟩)
     have n:(w.setCell (Ad r 3) (I6 ((R.lost:Int)+1))).cell? (Ad r 2)=some (.slice pf R.fl.length cf):=Az a 2;rw[n]at e;rw[←Bq e];exact Az f 2
structure ZFr (lo r bx bmx β:Nat) (bs:List Nat) (D:List (List UInt8)) (R:Rm) (p:Pk) (v:Value) (pf:Option Addr) (cf:Nat) (wx:World):Prop where
 rm:Ay lo wx r bx bmx bs D R
 fl:wx.cell? (Ad r 2)=some (.slice pf R.fl.length cf)
 box:wx.heap[β]?=some (.cells (Dq p v).toArray 60 (0,0))
 op:Ar lo wx v p.x.op
theorem ZFr.grow(h:ZFr lo r bx bmx β bs D R p v pf cf w)(a:Bw w w'):ZFr lo r bx bmx β bs D R p v pf cf w' :=
 ⟨Ii h.rm a,(zC a r 2 (Fu h.rm)).trans h.fl,(a.block β (As h.box)).trans h.box,Bt h.op a⟩
structure ZFk (r β:Nat) (p:Pk) (n:Nat) (v:Value) (pf:Option Addr) (cf:Nat) (wx:World):Prop where
 lt:r<wx.heap.size
 fl:wx.cell? (Ad r 2)=some (.slice pf n cf)
 box:wx.heap[β]?=some (.cells (Dq p v).toArray 60 (0,0))
theorem ZFk.grow{n:Nat}(h:ZFk r β p n v pf cf w)(a:Bw w w'):ZFk r β p n v pf cf w' :=
 ⟨AK h.lt a.size,(zC a r 2 h.lt).trans h.fl,(a.block β (As h.box)).trans h.box⟩
theorem ZFr.less(h:ZFr lo r bx bmx β bs D R p v pf cf w):ZFk r β p R.fl.length v pf cf w:=⟨Fu h.rm,h.fl,h.box⟩
theorem OH(h:Ay lo w r bx bmx bs D R)(p:Pk)(v:Value)(hx:Ar lo w v p.x.op)(J:R.lost<=1000000000000)(hfl:R.fl.length<=400) :
    Cg 49 #[Pd r 0,pkV p v] w λe w'=>e=.returned (.tuple #[])/\Ay lo w' r bx bmx bs D (Cm R p)/\keptF w w' r:=by
 obtain⟨c,d,rfl⟩:=C7 hx;obtain⟨pc,cc,pf,cf,h2,h3,h4⟩:=Ht h;have hfc:R.fl.length<=cf/\cf<=maxLen:=by
  obtain⟨vs,_,h5,_⟩:=h4
  rcases h5.2 with ⟨e,h0⟩|⟨g,cap,cur,e,_,_,h6,h7,_⟩
  . injection e with _ _ e3;rw[e3,h0];unfold maxLen;omega
  . injection e with _ _ e3;rw[e3];exact⟨h6,h7⟩
 obtain⟨hf1,hf2⟩:=hfc;unfold maxLen at hf2;have m:Bw w (w.alloc (.cells (Dq p (.slice c p.x.op.length d)).toArray 60)):=zA _ _;have HB:=Aa m
 have N:Hid (ZFr lo r bx bmx w.heap.size bs D R p (.slice c p.x.op.length d) pf cf (w.alloc (.cells (Dq p (.slice c p.x.op.length d)).toArray 60))) :=
  ⟨Ii h m,(zC m r 2 (Fu h)).trans (Az h2 2),heap_alloc_new _ _,Bt hx m⟩
 have HLT:=Aa (Fu h);obtain⟨i0,hi,hq0,hq1,hq2⟩:=info_parts Z6
 by_cases hroom:400<=R.fl.length
 case pos =>
  have hL:=λW (hz:ZFr lo r bx bmx w.heap.size bs D R p (.slice c p.x.op.length d) pf cf W)=>Lm (p:=p) hz.rm hroom;have HL:Hid (Ay lo ((w.alloc (.cells (Dq p (.slice c p.x.op.length d)).toArray 60)).setCell (Ad r 3) (I6 ((R.lost:Int)+1))) r bx bmx bs D (Cm R p)/\keptF w ((w.alloc (.cells (Dq p (.slice c p.x.op.length d)).toArray 60)).setCell (Ad r 3) (I6 ((R.lost:Int)+1))) r):=by
   obtain⟨a,b⟩:=hL _ N.out;exact⟨a,(Ip (Fu h) m).trans b⟩
  have hW:∃W,W=w.alloc (.cells (Dq p (.slice c p.x.op.length d)).toArray 60):=⟨_,rfl⟩;have x2:(w.alloc (.cells (Dq p (.slice c p.x.op.length d)).toArray 60)).cell? (Ad r 2)=some (.slice pf R.fl.length cf):=N.out.fl;have Y:=(m.block r HLT.out).trans h2;have x3:(w.alloc (.cells (Dq p (.slice c p.x.op.length d)).toArray 60)).cell? (Ad r 3)=some (I6 (R.lost:Int)):=Az Y 3;have xf:(w.alloc (.cells (Dq p (.slice c p.x.op.length d)).toArray 60)).frozen? (Ad r 3)=false:=Gf Y;have hge:(400:Int)<=(R.fl.length:Int):=by omega
  have hwr:wrap64 ((R.lost:Int)+1)=(R.lost:Int)+1:=E0 (by omega) (by omega);have i:(Dq p (.slice c p.x.op.length d)).toArray=#[I6 p.kind,I6 (p.c:Int),I6 p.rev,I6 p.id,I6 p.x.c,I6 p.x.i,.slice c p.x.op.length d]:=rfl;rw[i]at HL x2 x3 xf;unfold pkV;generalize p.kind=a0 at *;generalize p.rev=a2 at *;generalize p.id=a3 at *;generalize p.x.c=a4 at *;generalize p.x.i=a5 at *;generalize p.x.op.length=a6 at *;clear h h2 h3 h4 hx hL hW Y i m N hi hq0 hq1 hq2 J hfl
  go_enter func49,ntmps49
  go_wp2;go_end0;exact⟨rfl,HL.out⟩
 case neg =>
  have hlt:¬(400:Int)<=(R.fl.length:Int):=by omega
  have x2:(w.alloc (.cells (Dq p (.slice c p.x.op.length d)).toArray 60)).cell? (Ad r 2)=some (.slice pf R.fl.length cf):=N.out.fl;have HR:Hid (R.fl.length<400):=by show R.fl.length<400;omega
  have i:(Dq p (.slice c p.x.op.length d)).toArray=#[I6 p.kind,I6 (p.c:Int),I6 p.rev,I6 p.id,I6 p.x.c,I6 p.x.i,.slice c p.x.op.length d]:=rfl;rw[i]at x2 HB;have HZ':=N.out;rw[i]at HZ';have N:Hid _:=HZ';obtain⟨β,L⟩:∃β,w.heap.size=β:=⟨_,rfl⟩;have HBT:=Aa L;have HOWN:Hid (∀k,(Value.slice pf R.fl.length cf).ownBlock=some k->k≠r/\k<β):=λk hk=>by
   obtain⟨_,hlt,cs,hc⟩:=Kd h4 hk;refine⟨λe=>?_,by rw[←L];exact hlt⟩;subst e;have:=Cx h2 hc;revert this;decide
  rw[L]at N;have HLO:Hid (lo<=w.heap.size):=CW (DV h.low (Fu h));clear h h2 h3 h4 hx m L HZ' J;unfold pkV
  go_enter func49,ntmps49
  go_wp2;refine Kh (λwx:World=>ZFk r β p R.fl.length (.slice c p.x.op.length d) pf cf wx) 8 11 (by kernel_rfl) rfl ?_;intro w30 F;have X:=N.out.grow F;have hbA:=HB.out.trans (F.mono HB.out.size);have l:=X.less;obtain⟨G,o⟩:=JC (Z:=λwx:World=>ZFk r β p R.fl.length (.slice c p.x.op.length d) pf cf wx) l (λ{w w'} h hb=>ZFk.grow h hb);have y2:∀y,(G y).cell? (Ad r 2)=some (.slice pf R.fl.length cf):=λy=>(o.but y).fl;have b0:=λy=>cQ (o.but y).box 0 rfl;have b1:=λy=>cQ (o.but y).box 1 rfl;have b2:=λy=>cQ (o.but y).box 2 rfl;have b3:=λy=>cQ (o.but y).box 3 rfl;have b4:=λy=>cQ (o.but y).box 4 rfl;have b5:=λy=>cQ (o.but y).box 5 rfl;have b6:=λy=>cQ (o.but y).box 6 rfl;rw[HBT.out];refine az o l 0 λ_ k=>?_;go_simp;apply k;clear k;refine az o l 1 λ_ k=>?_;go_simp;apply k;clear k;refine az o l 2 λ_ k=>?_;go_simp;apply k;clear k;refine az o l 3 λ_ k=>?_;go_simp;apply k;clear k;refine az o l 4 λ_ k=>?_;go_simp;apply k;clear k;refine az o l 5 λ_ k=>?_;go_simp;apply k;clear k;clear y2 b0 b1 b2 b3 b4 b5 b6 o;refine aO 6 ⟨_,rfl,?_⟩;intro I C K x;have hz2:=X.grow C;have U:=hbA.trans (C.mono hbA.size)
  go_simp
  refine x _ _ (λhz=>hz.grow (zA _ _)) ?_;clear x K;refine aO 7 ⟨_,rfl,?_⟩;intro w32 A K x;have E:Bw I (I.alloc (Oc #[I6 p.kind,I6 (p.c:Int),I6 p.rev,I6 p.id,I6 p.x.c,I6 p.x.i,.slice c p.x.op.length d] 60)):=zA _ _;have Q:=(A.block I.heap.size (by rw[Bb];omega)).trans (heap_alloc_new I (Oc #[I6 p.kind,I6 (p.c:Int),I6 p.rev,I6 p.id,I6 p.x.c,I6 p.x.i,.slice c p.x.op.length d] 60));have q:=E.trans (A.mono E.size);have f:=hz2.grow q;have hbC:=U.trans (q.mono U.size);obtain⟨vs,v1,v2,v3⟩:=Ll f.rm f.op HR.out f.fl;obtain ⟨v',w',hrun,t,z,hvn⟩:=U8 (P:=prog) w32 lo 43 43 60 i0 (.agg #[I6 0,I6 0,I6 0,I6 0,I6 0,I6 0,.slice none 0 0]) 7 72 underlying43 hi hq0 hq1 hq2 rfl (by decide) (.slice pf R.fl.length cf) R.fl.length _ v2 (Ad I.heap.size 0) 1 1 (Dq p (.slice c p.x.op.length d)) rfl (λj u hj=>by
   have hjl:j<7:=(De hj);have:=Az Q j;rw[DG,DC,this];have e:(#[I6 p.kind,I6 (p.c:Int),I6 p.rev,I6 p.id,I6 p.x.c,I6 p.x.i,.slice c p.x.op.length d]:Array Value)[j]?=(Dq p (.slice c p.x.op.length d))[j]?:=by rw[←CE];rfl
   rw[e,hj]) (UU p c p.x.op.length d) (by unfold maxLen;omega) (by omega) (AF HLO.out hbC.size) (by omega)
  have HVN:=Aa hvn;have V3:=Aa v3;have HG:=Aa z;have HO:Hid _:=t;have HBC:=Aa hbC;have s:r<w32.heap.size:=f.less.lt;have hz4:ZFk r β p R.fl.length (.slice c p.x.op.length d) pf cf w':=by
   have hno:=HOWN.out;refine⟨AK s z.size,?_,?_⟩
   . exact(AE (w:=w32) (a:=(Ad r 2)) (z.block r s λe=>(hno r e.symm).1 rfl)).trans f.fl
   . exact(z.block β (As f.box) λe=>absurd (hno β e.symm).2 (Nat.lt_irrefl _)).trans f.box
  refine Ox rfl rfl rfl rfl hrun ?_;refine x _ _ (λ_=>hz4) ?_;clear x K X hz2 f hbA U hbC F C A E q Q v3 v2 v1 l hi hq0 hq1 hq2 hz4 z s hvn;obtain⟨p',c',rfl⟩:=Bm t;clear t;refine Qt (by kernel_rfl) ?_;refine aO 8 ⟨_,rfl,?_⟩;intro w33 n K x
  go_simp
  refine x _ _ (λ_=>trivial) ?_;clear x K;refine aO 9 ⟨_,rfl,?_⟩;intro w34 H K x
  go_simp
  refine x _ _ (λ_=>trivial) ?_;clear x K;refine aO 10 ⟨_,rfl,?_⟩;intro w35 O K x;obtain⟨u1,u2,u3,u4⟩:=V3.out w' _ HO.out HG.out HVN.out w35 ((n.trans (H.mono n.size)).trans (O.mono (n.trans (H.mono n.size)).size));have U3:=Aa u3;have U4:=Aa u4;clear u3 u4 n H O
  go_simp
  refine x _ _ (λ_=>trivial) ?_;clear x K;refine ae ?_;intro w36 B
  have FIN:Hid (Ay lo w36 r bx bmx bs D (Cm R p)/\keptF w w36 r) :=
   ⟨Ii U3.out B,((Ip HLT.out HBC.out).trans U4.out).trans (Ip (Fu U3.out) B)⟩
  clear B;go_wp2;go_end0;exact⟨rfl,FIN.out⟩
theorem keptF.touchW{lo:Nat}{w w':World}{r bx bmx:Nat}{bs:List Nat}{D:List (List UInt8)}{R:Rm}(i:keptF w w' r)(h:Ay lo w r bx bmx bs D R):sameBut w w' (touchW lo w):=i.1.mono λk _ c=>by
 obtain⟨m,⟨vc,vf,d,n,g⟩,_,_⟩:=h
 rcases c with rfl|⟨v,e,c⟩
 . exact⟨m,_,_,d,.inl rfl⟩
 . have j:=cQ d 2 rfl
   rw[j]at e;obtain rfl:=Bq e;obtain⟨a,b,f,l⟩:=Kd g c;exact⟨a,f,_,l,.inr rfl⟩
end
section
attribute [local go_sem] Oper.semAt_some Dz Dl
variable {lo g c : Nat}{w : World}{x0 : Value}
theorem Wy:(prog.info? 37).map (·.zero)=some (some (.slice none 0 0)):=by kernel_rfl
theorem SV{E m1:Nat}{C:Option Addr}(h:w.ownsRow lo 37 1 (Sl g 2 c) 2 [x0,.slice C E m1]) :
    Cg 162 #[Sl g 2 c,I6 0,I6 1] w λe w'=>e=.returned (Sl g 1 c)/\w'.ownsRow lo 37 1 (Sl g 1 c) 1 [.slice C E m1]/\w.grownBy w' (some g):=by
 have hc:2<=c/\c<=maxLen/\lo<=g/\∃d,w.heap[g]?=some (Oc d 37)/\d.size=c/\d.toList.take 2=[x0,.slice C E m1]:=by
  rcases h.2 with ⟨e,_⟩|⟨g',cap,d,e,e1,e2,e3,e4,e5,e6⟩
  . cases e
  . injection e with e7 e8 e9
    injection e7 with e7;injection e7 with e7;subst e7 e9;exact⟨e3,e4,e1,d,e2,by simpa using e5,by simpa using e6⟩
 obtain⟨c2,c3,W,d,m,I,J⟩:=hc;unfold maxLen at c3;have hc1:¬c=1:=by omega
 have k0:w.cell? (Ad g 0)=some x0:=by have:=World.ownsRow.cellAt h 0 (by omega);exact this
 have k1:w.cell? (Ad g 1)=some (.slice C E m1):=by have:=World.ownsRow.cellAt h 1 (by omega);exact this
 have z0:=fZ m 0;have z1:=fZ m 1;have HC:=Aa m;have Z:=Aa I;have Y:=Aa J;clear h m I J
 go_enter func162,ntmps162
 go_wp2;refine wz (λ_:World=>True) 8 trivial (λ_ _=>trivial) λw30 x _ G hG=>?_;(iterate 6 (refine ay hG trivial λ_ k=>?_;go_simp;apply k;clear k));clear hG;refine aO 6 ⟨_,rfl,?_⟩;intro H A K L;have s:=x.trans (A.mono x.size);have HBA:=Aa s;have F:g<w.heap.size:=(As HC.out);have i:=(s.block g F).trans HC.out;have O:Hid _:=i;have y0:=(zC s g 0 F).trans k0;have y1:=(zC s g 1 F).trans k1;have f0:=fZ i 0;have h1c:1<=c:=by omega
 clear x A s i k0 k1 z0 z1
 go_simp
 refine L _ _ (λ_=>trivial) ?_;clear L K;refine aO 7 ⟨_,rfl,?_⟩;intro w32 t K L
 go_simp
 refine L _ _ (λ_=>trivial) ?_;clear L K;refine ae ?_;intro q B;have z:=t.trans (B.mono t.size);have n:=heap_setCell_same H g 0 d _ (.slice C E m1) O.out;have f:=(z.block g (As n)).trans n;have U:=Aa f;have X:=Aa z;have u1:q.cell? (Ad g 1)=some (.slice C E m1):=(zC z g 1 (As n)).trans ((FV (w:=H) (Ad g 0) (Ad g 1) _ (by simp)).trans y1);have uf:=fZ f 1
 have hcl:∀N,(Builtin.clear_ #[93] N #[.slice (some (Ad g 1)) 1 (c - 1)]).run prog q=.ok (.tuple #[]) (q.setCell (Ad g 1) (.slice none 0 0)):=λN=>by
  have:=Lib.run_clear_slice (P:=prog) q 93 37 N (.slice none 0 0) underlying93 (λw=>Ns Wy w) rfl rfl g 1 1 (c - 1) (by omega) (λj hj=>by
   obtain rfl:j=0:=by omega
   rw[u1];rfl) (λj hj=>by
   obtain rfl:j=0:=by omega
   exact uf)
  rw[this];rfl
 clear t B z n f y0 y1 f0;go_wp2;go_ret;refine⟨rfl,?_,?_⟩
 . have Q:=heap_setCell_same q g 1 _ _ (.slice none 0 0) U.out
   refine⟨rfl,.inr ⟨g,c,_,rfl,W,Q,by omega,by unfold maxLen;omega,?_,?_⟩⟩
   . rw[Array.size_setIfInBounds,Array.size_setIfInBounds,Z.out,GJ]
   . rw [Array.toList_setIfInBounds,Array.toList_setIfInBounds]
     have ht:=Y.out
     match hl:d.toList,ht with
     | a :: b :: l,ht =>
      rfl
 . have h:sameBut w (q.setCell (Ad g 1) (.slice none 0 0)) (λk=>k=g):=((Cf HBA.out _).trans (B6 (b:=g) (o:=0) (v:=.slice C E m1) (S:=λk=>k=g) rfl)).trans ((Cf X.out _).trans (B6 (S:=λk=>k=g) rfl))
   exact⟨h.os,h.tape,h.output,h.size,λk hk hn=>h.block k hk λe=>hn (by rw[e])⟩
theorem SW(h:w.ownsRow lo 37 1 (Sl g 1 c) 1 [x0]) :
    Cg 162 #[Sl g 1 c,I6 0,I6 1] w λe w'=>e=.returned (Sl g 0 c)/\w'.ownsRow lo 37 1 (Sl g 0 c) 0 []/\w.grownBy w' (some g):=by
 have X:1<=c/\c<=maxLen/\lo<=g/\∃f,w.heap[g]?=some (Oc f 37)/\f.size=c:=by
  rcases h.2 with ⟨e,_⟩|⟨g',U,f,e,e1,N,Y,e4,e5,e6⟩
  . cases e
  . injection e with e7 e8 e9
    injection e7 with e7;injection e7 with e7;subst e7 e9;exact⟨Y,e4,e1,f,N,by simpa using e5⟩
 obtain⟨c2,c3,C,f,n,s⟩:=X;unfold maxLen at c3;have Z:w.cell? (Ad g 0)=some x0:=by have:=World.ownsRow.cellAt h 0 (by omega);exact this
 have J:=Aa n;have F:=Aa s;clear h n s
 by_cases q:c=1
 all_goals
  go_enter func162,ntmps162
  go_wp2;refine wz (λ_:World=>True) 8 trivial (λ_ _=>trivial) λQ l _ G I=>?_;(iterate 6 (refine ay I trivial λ_ k=>?_;go_simp;apply k;clear k));clear I;refine aO 6 ⟨_,rfl,?_⟩;intro O i K t
  go_simp
  refine t _ _ (λ_=>trivial) ?_;clear t K;refine aO 7 ⟨_,rfl,?_⟩;intro w32 d K t
  go_simp
  refine t _ _ (λ_=>trivial) ?_;clear t K;refine ae ?_;intro b o;have m:=l.trans ((i.trans ((d.trans (o.mono d.size)).mono i.size)).mono l.size);have x:g<w.heap.size:=(As J.out);have a:=(m.block g x).trans J.out;have B:=Aa a;have E:=Aa m;have u1:b.cell? (Ad g 0)=some x0:=(zC m g 0 x).trans Z;have L:=fZ a 0
  have H:∀z,(Builtin.clear_ #[93] z #[Sl g 1 c]).run prog b=.ok (.tuple #[]) (b.setCell (Ad g 0) (.slice none 0 0)):=λz=>by
   have:=Lib.run_clear_slice (P:=prog) b 93 37 z (.slice none 0 0) underlying93 (λw=>Ns Wy w) rfl rfl g 0 1 c (by omega) (λj W=>by
    obtain rfl:j=0:=by omega
    rw[u1];rfl) (λj W=>by
    obtain rfl:j=0:=by omega
    exact L)
   rw[this];rfl
  clear l i d o m a
  try rw[q]at H
  go_wp2;go_ret;refine⟨by first | rfl | (rw[q];rfl),?_,?_⟩
  . have A:=heap_setCell_same b g 0 _ _ (.slice none 0 0) B.out
    refine⟨rfl,.inr ⟨g,_,_,rfl,C,A,by omega,by unfold maxLen;omega,?_,rfl⟩⟩;rw[Array.size_setIfInBounds,F.out];omega
  . have h:sameBut w (b.setCell (Ad g 0) (.slice none 0 0)) (λk=>k=g):=(Cf E.out _).trans (B6 (S:=λk=>k=g) rfl)
    exact⟨h.os,h.tape,h.output,h.size,λk hk hn=>h.block k hk λe=>hn (by rw[e])⟩
end
section
attribute [local go_sem] Oper.semAt_some Dz Dl
variable {w : World}{lo e c : Nat}{p : Option Addr}{ps : List Pk}
theorem gZ{size g m a:Nat}{i:List Value}(h:w.ownsRow lo e size (Sl g m a) m i){o:Nat}(q:m*size<=o)(v:Value):(w.setCell (Ad g o) v).ownsRow lo e size (Sl g m a) m i:=by
 obtain⟨t,b⟩:=h
 rcases b with ⟨e,_⟩|⟨A,f,d,e,j,n,x,z,l,s⟩
 . cases e
 . injection e with e1 _ e3
   injection e1 with e1;injection e1 with e1;subst e1 e3;refine⟨t,.inr ⟨g,a,_,rfl,j,heap_setCell_same w g o d _ v n,x,z,?_,?_⟩⟩
   . rw[Array.size_setIfInBounds];exact l
   . rw[Array.toList_setIfInBounds,List.take_set_of_le q];exact s
theorem UT{lo e size g m a:Nat}{d:List Value}:∀(b:List Value)(w:World)(o:Nat),w.ownsRow lo e size (Sl g m a) m d->m*size<=o->(w.setCells g o b).ownsRow lo e size (Sl g m a) m d
 | [],_,_,h,_=>h
 | v :: b,w,o,h,ho=>UT b _ (o+1) (gZ h ho v) (by omega)
theorem Vh{g:Nat}:∀(a:List Value)(w:World)(o:Nat),sameBut w (w.setCells g o a) λk=>k=g
 | [],w,o=>OT _ _
 | v :: a,w,o=>(B6 (S:=λk=>k=g) rfl).trans (Vh a _ (o+1))
def Jm:List Value:=[I6 0,I6 0,I6 0,I6 0,I6 0,I6 0,.slice none 0 0]
theorem ag(P:Program)(w:World)(t e h:TypeId)(i:P.underlying t=some (.slice e))(l:(zeroValue e).run P w=.ok (.agg #[I6 0,I6 0,I6 0,I6 0,I6 0,I6 0,.slice none 0 0]) w)(b o c:Nat)
    (n:∀j,j<7->(w.cell? (Ad b (o+j))).isSome=true) (m:∀j,j<7->w.frozen? (Ad b (o+j))=false) :
    (Builtin.clear_ #[t] h #[.slice (some (Ad b o)) 1 c]).run P w=.ok (.tuple #[]) (w.setCells b o Jm):=by
 have f:(Builtin.zeroCells (Value.cells (.agg #[I6 0,I6 0,I6 0,I6 0,I6 0,I6 0,.slice none 0 0])) 1).toList=Jm:=by kernel_rfl
 have d:=run_storeCells_cells (P:=P) b o Jm 0 w (by simpa[Jm] using n) (by simpa[Jm] using m) (by intro v a;simp only[Jm,DR,DL,or_false]at a;rcases a with rfl|rfl|rfl|rfl|rfl|rfl|rfl<;>rfl);simp only[EI]at d;simp[Builtin.clear_,run_underlying i,l,f,d]
theorem Tt{n:Nat}(h:Hk e lo w (.slice p n c) ps)(f:ps≠[]):∃g b,p=some (Ad g 0)/\n=ps.length/\b.length=ps.length/\(∀(i:Nat)(x:Pk)(v:Value),ps[i]?=some x->b[i]?=some v->Ar lo w v x.x.op)/\lo<=g/\g<w.heap.size/\ps.length<=c/\c<=maxLen/\∃a,w.heap[g]?=some (Oc a e)/\a.size=c*7/\a.toList.take (ps.length*7)=pkC ps b:=by
 obtain⟨b,C,⟨E,d⟩,o⟩:=h
 rcases d with ⟨_,l⟩|⟨g,t,a,A,s,j,z,q,B,m⟩
 . exact absurd (BC l) f
 . injection A with hp hn hc
   subst hp hn hc;exact⟨g,b,rfl,rfl,C,o,s,(As j),z,q,a,j,B,m⟩
theorem Z9:(prog.info? 111).map (·.zero)=some (some (.agg #[I6 0,I6 0,I6 0,I6 0,I6 0,I6 0,.slice none 0 0])):=by kernel_rfl
theorem P7{lo:Nat}{w:World}:∀{ps:List Pk}{vs:List Value},(∀(i:Nat)(x:Pk)(v:Value),ps[i]?=some x->vs[i]?=some v->Ar lo w v x.x.op)->vs.length=ps.length->∀u∈pkC ps vs,u.oneCell'=true
 | [],_,_,_,u,a=>by simp[pkC]at a
 | _ :: _,[],_,h,u,a=>by simp at h
 | p :: ps,v :: vs,h,hl,u,a=>by
  have e:pkC (p :: ps) (v :: vs)=Dq p v++pkC ps vs:=rfl;rw[e]at a
  rcases List.mem_append.1 a with a|a
  . obtain⟨q,c,rfl⟩:=C7 (h 0 p v rfl rfl)
    exact UU p q _ c u a
  . exact P7 (λi x v d b=>h (i+1) x v (by simpa using d) (by simpa using b)) (by simpa using hl) u a
theorem PA(h:Hk 111 lo w (.slice p ps.length c) ps){i:Nat}(hi:i<ps.length)(hm:ps.length<=1000) :
    Cg 88 #[.slice p ps.length c,I6 (i:Int),I6 ((i:Int)+1)] w λe w'=>e=.returned (.slice p (ps.length - 1) c)/\Hk 111 lo w' (.slice p (ps.length - 1) c) (ps.eraseIdx i)/\w.grownBy w' (Value.slice p ps.length c).ownBlock:=by
 have hne:ps≠[]:=λe=>by rw[e]at hi;exact absurd hi (AP _)
 obtain⟨g,o,rfl,_,hvs,hop,hlg,hgl,hnc,hcm,cur,hcur,hcs,htk⟩:=Tt h hne;unfold maxLen at hcm;obtain⟨n,hn⟩:∃n,ps.length=n:=⟨_,rfl⟩;rw[hn]at hi hm hnc hvs htk ⊢;have H:=Aa hn;have h1:(i:Int)<(n:Int):=by omega
 have h2:(n:Int)<=1000:=by omega
 have h3:(n:Int)<=(c:Int):=by omega
 have h4:(c:Int)<=9223372036854775807:=by omega
 by_cases hcj:c=i+1
 . subst hcj
   have HNI:Hid (n=i+1):=by show n=i+1;omega
   clear h3 h4;have hz:=Ns (z:=.agg #[I6 0,I6 0,I6 0,I6 0,I6 0,I6 0,.slice none 0 0]) (t:=111) Z9;have CLR:Hid (∀(W:World) (ty:TypeId) (cc:Nat),(∃a,W.heap[g]?=some (Oc a 111)/\a.size=(i+1)*7)->(Builtin.clear_ #[76] ty #[.slice (some (Ad g (i*7))) 1 cc]).run prog W=.ok (.tuple #[]) (W.setCells g (i*7) Jm)):=λW ty cc ⟨a,O,e2⟩=>by
    refine ag prog W _ _ ty underlying76 (hz W) g _ cc (λj hj=>?_) λj hj=>Gf O;have hl:i*7+j<a.size:=by rw[e2];have:=HNI.out;omega
    rw[Az O,FW hl];rfl
   have HQ:=Aa HNI.out;obtain⟨i0,hi0,hq0,hq1,hq2⟩:=info_parts UP;have hg0:(Sl g n (i+1)).ownBlock=some g:=rfl;rw[hg0];have I:=Aa hcur;have HCS:=Aa hcs;have HTK:=Aa htk;have d:=Aa hvs;have HOP:=Aa hop;have Z:Hid (lo<=g/\g<w.heap.size):=⟨hlg,hgl⟩;clear h hne hop hcur hcs htk hvs hlg hgl hz;have n1:i<=(i+1):=by omega
   have n2:i+1<=n:=by omega
   have m0:(0:Int)<=(i:Int):=by omega
   have m1:(0:Int)<=(i:Int)+1:=by omega
   have m2:(i:Int)+1<=(n:Int):=by omega
   have m3:(i:Int)<=(i:Int)+1:=by omega
   go_enter func88,ntmps88
   go_wp2;refine wz (λ_:World=>True) 8 trivial (λ_ _=>trivial) λw30 E _ G hG=>?_;(iterate 6 (refine ay hG trivial λ_ k=>?_;go_simp;apply k;clear k));clear hG;refine aO 6 ⟨_,rfl,?_⟩;intro Y J K hK;have X:=E.trans (J.mono E.size);have HBA:=Aa X;have f:=(X.block g Z.out.2).trans I.out;have N:Y.ownsRow lo 111 7 (Sl g i (i+1)) i (pkC (ps.take i) (o.take i)):=by
    refine⟨by rw[Nr _ _ (by rw[AO,AO,d.out,H.out]),AO,H.out,FA (CW hi)],.inr ⟨g,(i+1),cur,rfl,Z.out.1,f,by omega,by unfold maxLen;omega,HCS.out,?_⟩⟩;have e:(cur.toList.take (n*7)).take (i*7)=(pkC ps o).take (i*7):=by rw[HTK.out]
    rw[List.take_take,FA (by omega),Qj ps o i (by rw[d.out,H.out])]at e;exact e
   have C:∀(j:Nat) (u:Value),(pkC (ps.drop (i+1)) (o.drop (i+1)))[j]?=some u->Y.cell? (((Ad g 0):Addr).add j)=some u:=λj u hj=>by
    have e0:ps.drop (i+1)=[]:=DT (by rw[H.out,HNI.out];omega);rw[e0]at hj;simp[pkC]at hj
   obtain⟨w',s,F,U⟩:=run_append_fits (P:=prog) Y lo 76 76 111 i0 7 underlying76 hi0 hq1 g i (i+1) (pkC (ps.take i) (o.take i)) N (Ad g 0) 0 ((i+1) - (i+1)) (pkC (ps.drop (i+1)) (o.drop (i+1))) (by rw[Nr _ _ (by rw[AM,AM,d.out,H.out]),AM,H.out]<;>omega) C (λu hu=>P7 HOP.out (by rw[d.out,H.out]) u (DJ (by rw[←Og ps o (i+1) (by rw[d.out,H.out])]at hu;exact hu))) (by omega);refine Ox rfl rfl rfl rfl (by first | exact s | (simpa using s)) ?_;refine hK _ _ (λ_=>trivial) ?_;clear hK K;refine aO 7 ⟨_,rfl,?_⟩;intro w32 A K hK
   go_simp
   refine hK _ _ (λ_=>trivial) ?_;clear hK K;refine ae ?_;intro B Q;have l:=A.trans (Q.mono A.size);have HB23:=Aa l;have b:=Fe F l;have HROW:=Aa b
   have L:∃a,B.heap[g]?=some (Oc a 111)/\a.size=(i+1)*7:=by
    rcases b.2 with ⟨e,_⟩|⟨g',cap',a,e,_,e4,_,_,e7,_⟩
    . cases e
    . injection e with O _ e3
      injection O with O;injection O with O;subst O;exact⟨a,e4,by rw[e7,←e3]⟩
   have hclr:=λty cc=>CLR.out B ty cc L;have HG31:=Aa U;have m:Hid (sameBut w (B.setCells g (i*7) Jm) λk=>k=g):=((Cf HBA.out _).trans (IU (S:=λk=>k=g) U λk e=>(Bq e).symm)).trans ((Cf l _).trans (Vh Jm B (i*7)));have hq1':n - i=1:=by have:=HQ.out;omega
   have hq3:i<=n:=by have:=HQ.out;omega
   have hq4:(i:Int)<=(n:Int):=by omega
   have hq5:(n:Int)<=(((i+1):Nat):Int):=by omega
   have hq6:n<=(i+1):=by omega
   clear F b L l A Q U f N C X E J hi0 hq0 hq1 hq2 n2 m0 m1 m2 m3 s
   skip
   go_wp2;go_ret;refine⟨by (rw[show n - 1=i by have:=HQ.out;omega];rfl),?_,⟨m.out.os,m.out.tape,m.out.output,m.out.size,λk hk hn=>m.out.block k hk λe=>hn (by rw[e])⟩⟩;have hl:(ps.eraseIdx i).length=i:=by rw[List.length_eraseIdx_of_lt (by rw[H.out];omega),H.out];have:=HQ.out;omega
   have hlv:(o.eraseIdx i).length=i:=by rw[List.length_eraseIdx_of_lt (by rw[d.out];omega),d.out];have:=HQ.out;omega
   have hfin:=UT Jm B (i*7) HROW.out (by omega);refine⟨o.eraseIdx i,by rw[hl,hlv],?_,λj x v hx hv=>?_⟩
   . rw [hl]
     have epk:pkC (ps.eraseIdx i) (o.eraseIdx i)=pkC (ps.take i) (o.take i)++pkC (ps.drop (i+1)) (o.drop (i+1)):=by
      rw[List.eraseIdx_eq_take_drop_succ,List.eraseIdx_eq_take_drop_succ,Rp _ _ _ _ (by rw[AO,AO,d.out,H.out])]
     rw[epk];have e2:n - 1=i:=by have:=HQ.out;omega
     rw[e2]
     skip
     exact hfin
   . have hcg:=I.out
     refine Eu (S:=λk=>k=g) ?_ m.out λk hk e=>?_
     . obtain ⟨j',h1',h2'⟩:∃j',ps[j']?=some x/\o[j']?=some v:=by
         rw[List.getElem?_eraseIdx]at hx hv
         split at hx
         . rename_i hlt;rw[if_pos hlt]at hv;exact⟨j,hx,hv⟩
         . rename_i hlt;rw[if_neg hlt]at hv;exact⟨j+1,hx,hv⟩
       exact HOP.out j' x v h1' h2'
     . subst e
       exact⟨Z.out.1,C6 hcg (by decide)⟩
 . obtain ⟨q,hqn⟩:∃q,n=q+1:=⟨n - 1,by omega⟩
   have hz:=Ns (z:=.agg #[I6 0,I6 0,I6 0,I6 0,I6 0,I6 0,.slice none 0 0]) (t:=111) Z9;have CLR:Hid (∀(W:World) (ty:TypeId) (cc:Nat),(∃a,W.heap[g]?=some (Oc a 111)/\a.size=c*7)->(Builtin.clear_ #[76] ty #[.slice (some (Ad g (q*7))) 1 cc]).run prog W=.ok (.tuple #[]) (W.setCells g (q*7) Jm)):=λW ty cc ⟨a,O,e2⟩=>by
    refine ag prog W _ _ ty underlying76 (hz W) g _ cc (λj hj=>?_) λj hj=>Gf O;have hl:q*7+j<a.size:=by rw[e2];have:=hqn;omega
    rw[Az O,FW hl];rfl
   have HQ:=Aa hqn;obtain⟨i0,hi0,hq0,hq1,hq2⟩:=info_parts UP;have hg0:(Sl g n c).ownBlock=some g:=rfl;rw[hg0];have I:=Aa hcur;have HCS:=Aa hcs;have HTK:=Aa htk;have d:=Aa hvs;have HOP:=Aa hop;have Z:Hid (lo<=g/\g<w.heap.size):=⟨hlg,hgl⟩;clear h hne hop hcur hcs htk hvs hlg hgl hz hqn;have n1:i<=c:=by omega
   have n2:i+1<=n:=by omega
   have m0:(0:Int)<=(i:Int):=by omega
   have m1:(0:Int)<=(i:Int)+1:=by omega
   have m2:(i:Int)+1<=(n:Int):=by omega
   have m3:(i:Int)<=(i:Int)+1:=by omega
   go_enter func88,ntmps88
   go_wp2;refine wz (λ_:World=>True) 8 trivial (λ_ _=>trivial) λw30 E _ G hG=>?_;(iterate 6 (refine ay hG trivial λ_ k=>?_;go_simp;apply k;clear k));clear hG;refine aO 6 ⟨_,rfl,?_⟩;intro Y J K hK;have X:=E.trans (J.mono E.size);have HBA:=Aa X;have f:=(X.block g Z.out.2).trans I.out;have N:Y.ownsRow lo 111 7 (Sl g i c) i (pkC (ps.take i) (o.take i)):=by
    refine⟨by rw[Nr _ _ (by rw[AO,AO,d.out,H.out]),AO,H.out,FA (CW hi)],.inr ⟨g,c,cur,rfl,Z.out.1,f,by omega,by unfold maxLen;omega,HCS.out,?_⟩⟩;have e:(cur.toList.take (n*7)).take (i*7)=(pkC ps o).take (i*7):=by rw[HTK.out]
    rw[List.take_take,FA (by omega),Qj ps o i (by rw[d.out,H.out])]at e;exact e
   have C:∀(j:Nat) (u:Value),(pkC (ps.drop (i+1)) (o.drop (i+1)))[j]?=some u->Y.cell? (((Ad g ((i+1)*7)):Addr).add j)=some u:=λj u hj=>by
    rw[←Og ps o (i+1) (by rw[d.out,H.out]),List.getElem?_drop,←HTK.out,DU]at hj
    split at hj
    . rw[DG,Az f,←CE];exact hj
    . cases hj
   obtain⟨w',s,F,U⟩:=run_append_fits (P:=prog) Y lo 76 76 111 i0 7 underlying76 hi0 hq1 g i c (pkC (ps.take i) (o.take i)) N (Ad g ((i+1)*7)) (n - (i+1)) (c - (i+1)) (pkC (ps.drop (i+1)) (o.drop (i+1))) (by rw[Nr _ _ (by rw[AM,AM,d.out,H.out]),AM,H.out]<;>omega) C (λu hu=>P7 HOP.out (by rw[d.out,H.out]) u (DJ (by rw[←Og ps o (i+1) (by rw[d.out,H.out])]at hu;exact hu))) (by omega);refine Ox rfl rfl rfl rfl (by first | exact s | (simpa using s)) ?_;refine hK _ _ (λ_=>trivial) ?_;clear hK K;refine aO 7 ⟨_,rfl,?_⟩;intro w32 A K hK
   go_simp
   refine hK _ _ (λ_=>trivial) ?_;clear hK K;refine ae ?_;intro B Q;have l:=A.trans (Q.mono A.size);have HB23:=Aa l;have b:=Fe F l;have HROW:=Aa b
   have L:∃a,B.heap[g]?=some (Oc a 111)/\a.size=c*7:=by
    rcases b.2 with ⟨e,_⟩|⟨g',cap',a,e,_,e4,_,_,e7,_⟩
    . cases e
    . injection e with O _ e3
      injection O with O;injection O with O;subst O;exact⟨a,e4,by rw[e7,←e3]⟩
   have hclr:=λty cc=>CLR.out B ty cc L;have HG31:=Aa U;have m:Hid (sameBut w (B.setCells g (q*7) Jm) λk=>k=g):=((Cf HBA.out _).trans (IU (S:=λk=>k=g) U λk e=>(Bq e).symm)).trans ((Cf l _).trans (Vh Jm B (q*7)));have hq1':n - q=1:=by have:=HQ.out;omega
   have hq3:q<=n:=by have:=HQ.out;omega
   have hq4:(q:Int)<=(n:Int):=by omega
   have hq5:(n:Int)<=((c:Nat):Int):=by omega
   have hq6:n<=c:=by omega
   clear F b L l A Q U f N C X E J hi0 hq0 hq1 hq2 n2 m0 m1 m2 m3 s;rw[show i+(n - (i+1))=q by have:=HQ.out;omega]at *;go_wp2;go_ret;refine⟨by (rw[show n - 1=q by have:=HQ.out;omega];rfl),?_,⟨m.out.os,m.out.tape,m.out.output,m.out.size,λk hk hn=>m.out.block k hk λe=>hn (by rw[e])⟩⟩;have hl:(ps.eraseIdx i).length=q:=by rw[List.length_eraseIdx_of_lt (by rw[H.out];omega),H.out];have:=HQ.out;omega
   have hlv:(o.eraseIdx i).length=q:=by rw[List.length_eraseIdx_of_lt (by rw[d.out];omega),d.out];have:=HQ.out;omega
   have hfin:=UT Jm B (q*7) HROW.out (by omega);refine⟨o.eraseIdx i,by rw[hl,hlv],?_,λj x v hx hv=>?_⟩
   . rw [hl]
     have epk:pkC (ps.eraseIdx i) (o.eraseIdx i)=pkC (ps.take i) (o.take i)++pkC (ps.drop (i+1)) (o.drop (i+1)):=by
      rw[List.eraseIdx_eq_take_drop_succ,List.eraseIdx_eq_take_drop_succ,Rp _ _ _ _ (by rw[AO,AO,d.out,H.out])]
     rw[epk];have e2:n - 1=q:=by have:=HQ.out;omega
     rw[e2]
     skip
     exact hfin
   . have hcg:=I.out
     refine Eu (S:=λk=>k=g) ?_ m.out λk hk e=>?_
     . obtain ⟨j',h1',h2'⟩:∃j',ps[j']?=some x/\o[j']?=some v:=by
         rw[List.getElem?_eraseIdx]at hx hv
         split at hx
         . rename_i hlt;rw[if_pos hlt]at hv;exact⟨j,hx,hv⟩
         . rename_i hlt;rw[if_neg hlt]at hv;exact⟨j+1,hx,hv⟩
       exact HOP.out j' x v h1' h2'
     . subst e
       exact⟨Z.out.1,C6 hcg (by decide)⟩
end
section
attribute [local go_sem] Oper.semAt_some Dz Dl
variable {w : World}
theorem Xq{B f e size n:Nat}{v:Value}{i:List Value}(h:w.ownsRow B e size v n i)(a:f<=B):w.ownsRow f e size v n i :=
 ⟨h.1,h.2.imp id λ⟨g,b,d,l,m,j⟩=>⟨g,b,d,l,AF a m,j⟩⟩
theorem fo(ps:List Pk)(a:List Value)(h:a.length=ps.length)(i:Nat):pkC (ps.take i) (a.take i)++pkC (ps.drop (i+1)) (a.drop (i+1))=pkC (ps.eraseIdx i) (a.eraseIdx i):=by
 rw[List.eraseIdx_eq_take_drop_succ,List.eraseIdx_eq_take_drop_succ,Rp _ _ _ _ (by simp[h])]
theorem cu{α:Type}{β:Type}{b:List α}{ys:List β}{i j:Nat}{x:α}{y:β}(h:(b.eraseIdx i)[j]?=some x)(a:(ys.eraseIdx i)[j]?=some y):∃k:Nat,b[k]?=some x/\ys[k]?=some y:=by
 rw[List.getElem?_eraseIdx]at h a
 split at h
 . rw[if_pos (by assumption)]at a;exact⟨_,h,a⟩
 . rw[if_neg (by assumption)]at a;exact⟨_,h,a⟩
theorem Nc{lo:Nat}{r bx bmx:Nat}{bs:List Nat}{D:List (List UInt8)}{R:Rm}(h:Ay lo w r bx bmx bs D R){i:Nat}{s:List Value}(K:s.length=R.fl.length)(B:∀(i:Nat)(x:Pk)(v:Value),R.fl[i]?=some x->s[i]?=some v->Ar lo w v x.x.op){d:World}{f:Value}(q:Bw w d){n:Nat}(O:n=(R.fl.eraseIdx i).length)(m:d.ownsRow w.heap.size 60 7 f n (pkC (R.fl.eraseIdx i) (s.eraseIdx i))) :
    (∃u,d.cell? (Ad r 2)=some u)/\d.frozen? (Ad r 2)=false/\Ay lo (d.setCell (Ad r 2) f) r bx bmx bs D (outR R i)/\keptF w (d.setCell (Ad r 2) f) r:=by
 subst O;obtain⟨J,L,pf,cf,H,W,Q⟩:=Ht h;have b:=h.low;have I:=Ii h q;have a:=(q.block r (Fu h)).trans H;have l:=heap_setCell_same d r 2 _ _ f a;have t:lo<=w.heap.size:=CW (DV b (Fu h));have z:Hk 60 lo d f (R.fl.eraseIdx i):=⟨s.eraseIdx i,by simp[List.length_eraseIdx,K],Xq m t,λj x v E C=>by
  obtain⟨k,N,F⟩:=cu E C;exact Bt (B k x v N F) q⟩
 refine⟨⟨_,Az a 2⟩,Gf a,?_,(Cf q (IY w r)).trans (B6 (.inl rfl)),λk o=>?_⟩
 . refine TQ (X:=λk=>k=r) (vc:=.slice J bs.length L) (vf:=f) I l ⟨_,_,_,a⟩ ?_ (B6 rfl) (λk o e=>?_) rfl rfl rfl rfl rfl
   . refine JB (S:=λk=>k=r) z (B6 rfl) λk o e=>?_
     subst e;exact⟨b,C6 a (by decide),λP U G=>by have:=Cx a G;revert this;decide⟩
   . subst e
     exact⟨b,_,_,a,.inl rfl⟩
 . rcases o with rfl | ⟨v,e,o⟩
   . exact .inl (.inl rfl)
   . have A:(d.setCell (Ad r 2) f).cell? (Ad r 2)=some f:=Az l 2
     rw[A]at e;obtain rfl:=Bq e;exact .inr (ID m o).1
end
section
variable {D : List (List UInt8)}{l0 n : Int}{R : Rm}{p : Pk}{fl : List Pk}
def Ext (D D':List (List UInt8)):Prop:=∀(i:Nat) (d:List UInt8),D[i]?=some d->D'[i]?=some d
theorem Ext.refl(D:List (List UInt8)):Ext D D:=λ_ _ h=>h
theorem Ext.trans{b a:List (List UInt8)}(h:Ext D b)(f:Ext b a):Ext D a:=λi d e=>f i d (h i d e)
theorem Yx(l0:Int)(R:Rm)(p:Pk):(E9 l0 R p).cl=R.cl/\(E9 l0 R p).E=(srvR l0 R p).E/\(E9 l0 R p).t=(srvR l0 R p).t/\(E9 l0 R p).M=(srvR l0 R p).M/\(E9 l0 R p).n=R.n+1:=by
 obtain⟨a,b,c,d,e⟩:=OQ (srvR l0 R p) p.c p.rev;unfold E9
 split
 . obtain⟨l,i,j,f,h⟩:=JP (tellR (srvR l0 R p) p.c p.rev) (Jy p)
   exact⟨h.trans e,i.trans b,l.trans a,j.trans c,f.trans d⟩
 . exact⟨e,b,a,c,d⟩
theorem Inv.comes(h:Inv l0 n D R){p:Pk}(l:okPk R.E D R.cl.length p) :
    ∃ m,Inv l0 n m (Fz l0 R p)/\Ext D m/\(Fz l0 R p).cl.length=R.cl.length/\(∀(i:Nat) (x:SE),R.E[i]?=some x->(Fz l0 R p).E[i]?=some x) /\
     (m=D/\(Fz l0 R p).E=R.E/\(Fz l0 R p).t=R.t\/m=D++[(Fz l0 R p).t]/\(Fz l0 R p).E.length=R.E.length+1):=by
 unfold Fz
 by_cases s:p.kind=1
 . rw [if_pos s]
   obtain⟨m,O,N,P,L⟩:=h.srvK l s;obtain⟨a,b,c,d,e⟩:=Yx l0 R p;have o:(srvR l0 R p).cl.length=R.cl.length:=rfl;have G:=O.tellK (k:=p.c) (by rw[o];exact l.c) p.rev;obtain⟨E,C,I,J,A⟩:=OQ (srvR l0 R p) p.c p.rev;refine⟨m,?_,N,by rw[a],λi x j=>by rw[b];exact P i x j,?_⟩
   . unfold E9
     split
     . refine G.send ⟨?_,.inr (.inr (.inr rfl)),⟨BO _,by show(0:Int)<=_;omega⟩,λe=>(by cases e),λe=>(by cases e)⟩
       rw[A,o];exact l.c
     . exact G
   . rw[b,c]
     rcases L with ⟨B,t,K⟩|⟨B,t⟩
     . exact .inl ⟨K,B,t⟩
     . exact .inr ⟨t,B⟩
 rw[if_neg s]
 by_cases z:p.kind=2
 . rw[if_pos z]
   obtain⟨E,C,I,J,A⟩:=OQ R p.c p.rev;exact⟨D,h.tellK l.c p.rev,Ext.refl D,by rw[A],λi x j=>by rw[C];exact j,.inl ⟨rfl,C,E⟩⟩
 rw[if_neg z];obtain⟨Q,F⟩:=h.clk l.c;have f:∀S,(setC R p.c S).cl.length=R.cl.length:=λS=>List.length_set
 by_cases q:p.kind=3
 . rw[if_pos q]
   exact⟨D,h.setK (BO _) (fi F h.lk p.c (l.told q)),Ext.refl D,f _,λi x j=>j,.inl ⟨rfl,rfl,rfl⟩⟩
 rw[if_neg q]
 by_cases H:p.kind=4
 . rw[if_pos H]
   exact⟨D,h.setK (BO _) (jF F p.id),Ext.refl D,f _,λi x j=>j,.inl ⟨rfl,rfl,rfl⟩⟩
 . rcases l.kind with e|e|e|e
   . exact absurd e s
   . exact absurd e z
   . exact absurd e q
   . exact absurd e H
theorem Inv.askK(h:Inv l0 n D R){k:Nat}(b:k<R.cl.length):okPk R.E D R.cl.length (Et R k):=by
 obtain⟨i,a⟩:=h.clk b;have d:=a.revle h.lk;unfold Et
 split
 . exact⟨b,.inr (.inl rfl),⟨a.rev,d⟩,λe=>(by cases e),λe=>(by cases e)⟩
 . rename_i hm
   obtain⟨g,f⟩:=NM a.ok hm;exact⟨b,.inl rfl,⟨a.rev,d⟩,λ_=>⟨rfl,rfl,_,a.seen,g,f⟩,λe=>(by cases e)⟩
theorem Inv.sendK(h:Inv l0 n D R){k:Nat}(a:k<R.cl.length):Inv l0 n D (sendC R k):=h.send (h.askK a)
theorem Inv.edit(h:Inv l0 n D R){k:Nat}(a:k<R.cl.length)(q:List Pt):Inv l0 (n+1) D (JJ R k q) :=
 h.setK (by omega) (fh (h.clk a).2 q)
theorem Inv.deliv(h:Inv l0 n D R)(i:Nat) :
    ∃ f,Inv l0 n f (Er l0 R i)/\Ext D f/\(Er l0 R i).cl.length=R.cl.length /\
     (f=D/\(Er l0 R i).E=R.E/\(Er l0 R i).t=R.t\/f=D++[(Er l0 R i).t]/\(Er l0 R i).E.length=R.E.length+1):=by
 unfold Er
 cases hp:R.fl[i]? with
 | none=>exact⟨D,h,Ext.refl D,rfl,.inl ⟨rfl,rfl,rfl⟩⟩
 | some p =>
  obtain⟨f,a,b,c,_,d⟩:=(h.out i).comes (p:=p) (h.pks p (BI hp));exact⟨f,a,b,c,d⟩
theorem Inv.twice(h:Inv l0 n D R){i:Nat}{p:Pk}(a:R.fl[i]?=some p):Inv l0 n D (Cm R p):=h.send (h.pks p (BI a))
/-! how much there may be -/
theorem UM(a b:List Pk):Cr (a++b)=Cr a+Cr b:=by simp[Cr]
theorem Ra(p:Pk):1<=wP p/\wP p<=400:=by unfold wP;split<;>omega
theorem YQ:∀fl:List Pk,fl.length<=Cr fl/\Cr fl<=400*fl.length
 | []=>by simp[Cr]
 | p :: fl=>by
  have:=YQ fl;have:=Ra p;have e:Cr (p :: fl)=wP p+Cr fl:=by simp[Cr]
  rw[e,AJ];omega
theorem WU(R:Rm)(p:Pk)(a:wP p=1):Ap (Cm R p)=Ap R+1:=by
 unfold Ap Cm
 split
 . simp only;omega
 . simp only[UM]
   have:Cr [p]=1:=by simp[Cr,a]
   omega
theorem aw(R:Rm)(p:Pk):Cr (Cm R p).fl<=Cr R.fl+wP p:=by
 unfold Cm
 split
 . simp only;omega
 . simp only[UM]
   have:Cr [p]=wP p:=by simp[Cr]
   omega
theorem QN(R:Rm)(p:Pk):Ap (Cm R p)<=Ap R+400:=by
 have:=Ra p;unfold Ap Cm
 split
 . simp only;omega
 . simp only[UM]
   have:Cr [p]=wP p:=by simp[Cr]
   omega
theorem Xu(k:Nat):∀(a:List SE)(f:Int)(R:Rm),Ap (tellL k f a R)=Ap R+a.length/\Cr (tellL k f a R).fl<=Cr R.fl+a.length
 | [],_,_=>⟨rfl,Ai _⟩
 | x :: a,f,R=>by
  obtain⟨b,d⟩:=Xu k a (f+1) (Cm R ⟨3,k,f,0,x⟩);have e:wP ⟨3,k,f,0,x⟩=1:=rfl;have h:=WU R ⟨3,k,f,0,x⟩ e;have i:=aw R ⟨3,k,f,0,x⟩;have u:tellL k f (x :: a) R=tellL k (f+1) a (Cm R ⟨3,k,f,0,x⟩):=rfl;rw[u,AJ];omega
theorem Xv(R:Rm)(k:Nat)(f:Int):Ap (tellR R k f)<=Ap R+R.E.length/\Cr (tellR R k f).fl<=Cr R.fl+R.E.length:=by
 unfold tellR
 split
 . omega
 . obtain⟨b,a⟩:=Xu k (R.E.drop f.toNat) f R
   have:=AM (i:=f.toNat) (l:=R.E);omega
theorem RW(l0:Int)(R:Rm)(p:Pk)(f:(Fz l0 R p).E.length<=300):Ap (Fz l0 R p)+1<=Ap R+wP p+(if p.kind=1\/p.kind=2 then 0 else 1)/\Cr (Fz l0 R p).fl+1<=Cr R.fl+wP p:=by
 unfold Fz at *
 by_cases h:p.kind=1
 . rw [if_pos h]at f ⊢
   have w1:wP p=400:=by unfold wP;rw[if_pos (.inl h)]
   obtain⟨a,b,c,d,e⟩:=Yx l0 R p;rw[b]at f;obtain⟨s,t⟩:=Xv (srvR l0 R p) p.c p.rev;have E:Ap (srvR l0 R p)=Ap R+1:=by unfold Ap;show R.n+1+R.lost+Cr R.fl=_;omega
   have w0:Cr (srvR l0 R p).fl=Cr R.fl:=rfl;rw[w1,if_pos (.inl h)];unfold E9
   split
   . have C:=WU (tellR (srvR l0 R p) p.c p.rev) (Jy p) rfl
     have B:=aw (tellR (srvR l0 R p) p.c p.rev) (Jy p);have:wP (Jy p)=1:=rfl;omega
   . omega
 rw[if_neg h]at f ⊢
 by_cases i:p.kind=2
 . rw[if_pos i]at f ⊢
   have w1:wP p=400:=by unfold wP;rw[if_pos (.inr i)]
   obtain⟨s,t⟩:=Xv R p.c p.rev;obtain⟨F,q,z,A,x⟩:=OQ R p.c p.rev;rw[q]at f;rw[w1,if_pos (.inr i)];omega
 rw[if_neg i]at f ⊢;have l:¬(p.kind=1\/p.kind=2):=λe=>e.elim h i;have w1:wP p=1:=by unfold wP;rw[if_neg l]
 have o:∀S,Ap (setC R p.c S)=Ap R/\Cr (setC R p.c S).fl=Cr R.fl:=λS=>⟨rfl,rfl⟩;rw[if_neg l,w1]
 by_cases m:p.kind=3
 . rw[if_pos m];have:=o (Fm p.c (Bo R p.c).2 p.rev p.x.c p.x.i p.x.op);omega
 rw[if_neg m]
 by_cases j:p.kind=4
 . rw[if_pos j];have:=o (Fh (Bo R p.c).2 p.id);omega
 . rw[if_neg j];omega
/-! until nothing is under way -/
theorem Sj(l0:Int)(n:Nat)(R:Rm)(h:R.fl=[]):Jz l0 n R=R:=by
 cases n with
 | zero=>rfl
 | succ n=>unfold Jz;rw[h]
theorem U0(l0:Int)(n:Nat)(R:Rm)(p:Pk)(fl:List Pk)(h:R.fl=p :: fl):Jz l0 (n+1) R=Jz l0 n (Fz l0 { R with fl:=fl } p):=by
 conv=>lhs;unfold Jz
 rw[h]
theorem TZ(h:R.fl=p :: fl):outR R 0 = { R with fl:=fl }:=by
 unfold outR;rw[h];rfl
theorem YZ(h:R.fl=p :: fl):Er l0 R 0=Fz l0 { R with fl:=fl } p:=by
 have e:R.fl[0]?=some p:=by rw[h];rfl
 unfold Er;rw[e,←TZ h]
theorem Inv.settleM{l0 n:Int}:∀(m:Nat)(D:List (List UInt8))(R:Rm),Inv l0 n D R->Cr R.fl<=m ->
    ∃l,Inv l0 n l (Jz l0 m R)/\Ext D l/\(Jz l0 m R).cl.length=R.cl.length/\(Jz l0 m R).fl=[]/\Ap (Jz l0 m R)<=Ap R/\∀d,Cr R.fl<=d->Jz l0 d R=Jz l0 m R
 | 0, D,R,h,hw=>by
  have a:R.fl=[]:=by
   have:=(YQ R.fl).1;exact BC (by omega)
  exact⟨D,h,Ext.refl D,rfl,a,Ai _,λd _=>Sj l0 d R a⟩
 | m + 1, D,R,h,hw=>by
  cases a:R.fl with
  | nil =>
   rw[Sj l0 (m+1) R a];exact⟨D,h,Ext.refl D,rfl,a,Ai _,λd _=>Sj l0 d R a⟩
  | cons p fl =>
   have C:=h.pks p (by rw[a];simp);have j:=h.out 0;rw[TZ a]at j;obtain⟨F,o,B,G,_,_⟩:=j.comes (p:=p) C;obtain⟨z,J⟩:=RW l0 { R with fl:=fl } p o.few;have K:Cr R.fl=wP p+Cr fl:=by rw[a];simp[Cr]
   have i:Cr (Fz l0 { R with fl:=fl } p).fl<=m:=by
    have:Cr ({ R with fl:=fl }:Rm).fl=Cr fl:=rfl;omega
   obtain⟨E,s,x,t,q,H,A⟩:=Inv.settleM m F _ o i;rw[U0 l0 m R p fl a];refine⟨E,s,B.trans x,by rw[t,G],q,?_,λd f=>?_⟩
   . have I:Ap ({ R with fl:=fl }:Rm)+wP p=Ap R:=by
       unfold Ap;show R.n+R.lost+Cr fl+wP p=R.n+R.lost+Cr R.fl;omega
     split at z<;>omega
   . have:=Ra p
     rw[←a]at f;obtain⟨b,rfl⟩:∃b,d=b+1:=⟨d - 1,by omega⟩;rw[U0 l0 b R p fl a];refine A b ?_;have:Cr ({ R with fl:=fl }:Rm).fl=Cr fl:=rfl;omega
theorem Inv.settle(h:Inv l0 n D R):∃f,Inv l0 n f (Em l0 R)/\Ext D f/\(Em l0 R).cl.length=R.cl.length/\(Em l0 R).fl=[]/\Ap (Em l0 R)<=Ap R:=by
 obtain⟨f,a,b,c,d,e,_⟩:=Inv.settleM _ D R h (Ai _);exact⟨f,a,b,c,d,e⟩
theorem Inv.stepM(h:Inv l0 n D R)(j:R.fl≠[]):Em l0 (Er l0 R 0)=Em l0 R/\Cr (Er l0 R 0).fl<Cr R.fl:=by
 cases hfl:R.fl with
 | nil=>exact absurd hfl j
 | cons p fl =>
  have o:=h.pks p (by rw[hfl];simp);have b:=h.out 0;rw[TZ hfl]at b;obtain⟨l,d,A,t,_,_⟩:=b.comes (p:=p) o;obtain⟨z,s⟩:=RW l0 { R with fl:=fl } p d.few;have B:Cr R.fl=wP p+Cr fl:=by rw[hfl];simp[Cr]
  have x:Cr ({ R with fl:=fl }:Rm).fl=Cr fl:=rfl;rw[YZ hfl];refine⟨?_,by rw[←hfl];omega⟩;unfold Em;obtain⟨m,f⟩:∃m,Cr R.fl=m+1:=⟨Cr R.fl - 1,by have:=Ra p;omega⟩;have a:Cr (Fz l0 { R with fl:=fl } p).fl<=m:=by omega
  obtain⟨q,_,_,_,_,_,i⟩:=Inv.settleM _ l _ d (Ai (Cr (Fz l0 { R with fl:=fl } p).fl));rw[f,U0 l0 m R p fl hfl];exact(i m a).symm
theorem Inv.quietM{l0 n:Int}:∀(m k:Nat)(D:List (List UInt8))(R:Rm),Inv l0 n D R->k+m=R.cl.length->∃b,Inv l0 n b (Gl l0 m k R)/\Ext D b/\(Gl l0 m k R).cl.length=R.cl.length/\(R.fl=[]->(Gl l0 m k R).fl=[])/\Ap (Gl l0 m k R)<=Ap R+400*m
 | 0,k,D,R,h,_=>⟨D,h,Ext.refl D,rfl,λh=>h,Ai _⟩
 | m+1,k,D,R,h,hk=>by
  have z:=h.sendK (k:=k) (by omega);have d:(sendC R k).cl.length=R.cl.length:=by unfold sendC;rw[(JP _ _).2.2.2.2]
  obtain⟨x,q,s,a,j,C⟩:=z.settle;obtain⟨i,o,A,t,l,B⟩:=Inv.quietM m (k+1) x _ q (by rw[a,d];omega);have f:=QN R (Et R k);refine⟨i,o,s.trans A,by show(Gl l0 m (k+1) _).cl.length=_;rw[t,a,d],λ_=>l j,?_⟩;show Ap (Gl l0 m (k+1) _)<=_;have f:Ap (sendC R k)<=Ap R+400:=f;omega
theorem Inv.quiet(h:Inv l0 n D R):∃a,Inv l0 n a (Hs l0 R)/\Ext D a/\(Hs l0 R).cl.length=R.cl.length/\(Hs l0 R).fl=[]/\Ap (Hs l0 R)<=Ap R+400*R.cl.length:=by
 obtain⟨s,l,o,b,i,x⟩:=h.settle;obtain⟨f,m,d,q,j,t⟩:=Inv.quietM R.cl.length 0 s _ l (by rw[b];omega);exact⟨f,m,o.trans d,by rw[show(Hs l0 R).cl.length=(Gl l0 R.cl.length 0 (Em l0 R)).cl.length from rfl,q,b],j i,by show Ap (Gl l0 R.cl.length 0 (Em l0 R))<=_;omega⟩
end
section
structure Pr (E:List SE) (M:Cd) (k:Int) (S:Cl):Prop where
 le:(Ew M k).1<=S.id
 none_:S.mine=[]->(Ew M k).1=S.id
 ent:∀(j:Nat) (x:SE),S.rev.toNat<=j->E[j]?=some x->x.c=k->S.mine≠[]/\x.i=S.id/\Ew M k=(S.id,0)/\x.op=Bh (Eb S) ((E.drop S.rev.toNat).take (j - S.rev.toNat))/\∀(j':Nat) (x':SE),S.rev.toNat<=j'->E[j']?=some x'->x'.c=k->j'=j
 has:S.mine≠[]->Ew M k=(S.id,0)->∃(j:Nat) (x:SE),S.rev.toNat<=j/\E[j]?=some x/\x.c=k
 no8:(Ew M k).2≠8
structure Pq (E:List SE) (M:Cd) (p:Pk) (S:Cl):Prop where
 ask:p.kind=1->p.id<=S.id/\p.rev<=S.rev/\((Ew M p.c).1<p.id->p.id=S.id/\S.mine≠[]/\Bh p.x.op ((E.drop p.rev.toNat).take (S.rev.toNat - p.rev.toNat))=Eb S)
 refuse:p.kind=4->p.id<=S.id/\(p.id=S.id->S.mine≠[]->(Ew M p.c).1=S.id/\(Ew M p.c).2≠0)
structure Vk (R:Rm):Prop where
 pr:∀(k:Nat) (q:Int×Cl),R.cl[k]?=some q->Pr R.E R.M k q.2
 pq:∀p∈R.fl,Pq R.E R.M p (Bo R p.c).2
theorem aj{l0:Int}{R:Rm}(h:R.fl=[]):Em l0 R=R:=Sj l0 _ R h
variable {R : Rm}
def askOk (R:Rm):Prop:=∀p∈R.fl,p.kind=1->1<=p.id
theorem askOk.send{p:Pk}(h:askOk R)(b:p.kind=1->1<=p.id):askOk (Cm R p):=by
 unfold Cm
 split
 . exact h
 . intro q a
   rcases List.mem_append.1 a with a|a
   . exact h q a
   . rw[List.mem_singleton.1 a];exact b
theorem askOk.tellL(k:Nat):∀(a:List SE)(f:Int)(R:Rm),askOk R->askOk (tellL k f a R)
 | [],_,_,h=>h
 | x :: a,f,R,h=>askOk.tellL k a (f+1) _ (h.send λe=>(by cases e))
theorem askOk.tellR{R:Rm}(h:askOk R)(k:Nat)(f:Int):askOk (tellR R k f):=by
 unfold Go.Proofs.YtkcpjanmemdjlaaGreatDoor.tellR
 split
 . exact h
 . exact askOk.tellL k _ _ _ h
theorem askOk.comes(h:askOk R)(l0:Int)(p:Pk):askOk (Fz l0 R p):=by
 have a:askOk (srvR l0 R p):=h;unfold Fz
 split
 . unfold E9
   split
   . exact(a.tellR _ _).send λe=>(by cases e)
   . exact a.tellR _ _
 split
 . exact h.tellR _ _
 split
 . exact h
 split
 . exact h
 . exact h
theorem askOk.out(h:askOk R)(i:Nat):askOk (outR R i):=λp a=>h p (List.mem_of_mem_eraseIdx a)
theorem askOk.sendC{l0 n:Int}{D:List (List UInt8)}{R:Rm}(h:askOk R)(b:Inv l0 n D R){k:Nat}(f:k<R.cl.length):askOk (sendC R k):=by
 obtain⟨_,q⟩:=b.clk f;refine h.send λe=>?_;unfold Et at e ⊢
 by_cases a:(Bo R k).2.mine=[]
 . rw[if_pos a]at e;cases e
 . rw[if_neg a]
   have d:=q.dr;rw[if_neg a]at d;show(1:Int)<=(Bo R k).2.id;omega
theorem askOk.edit(h:askOk R)(k:Nat)(q:List Pt):askOk (JJ R k q):=h
end
section
attribute [local go_sem] Oper.semAt_some Dz Dl
variable {L : List (Addr × Value)}{w w' : World}{l0 : Int}{lo r bx bmx : Nat}{bs : List Nat}{R : Rm}{D : List (List UInt8)}
def ZK (L:List (Addr×Value)) (wx:World):Prop:=∀q∈L,wx.cell? q.1=some q.2
theorem ZK.grow(h:ZK L w)(b:Bw w w'):ZK L w':=λq a=>(b.cell (p:=q.1) (Ca w q.1 (h q a))).trans (h q a)
theorem ZK.same{L:List (Addr×Value)}{w w':World}{X:Nat->Prop}(h:ZK L w)(d:sameBut w w' X)(f:∀q∈L,¬X q.1.block):ZK L w':=λq b=>(AE (w:=w) (a:=q.1) (d.2 _ (Ca w q.1 (h q b)) (f q b))).trans (h q b)
theorem ZK.nil(w:World):ZK [] w:=λq a=>(by cases a)
theorem ZK.cons{a:Addr}{v:Value}(h:w.cell? a=some v)(d:ZK L w):ZK ((a,v) :: L) w:=λq b=>by
 rcases List.mem_cons.1 b with rfl|b
 . exact h
 . exact d q b
theorem fI{P:Program}{d:Operand->Value}{o:Oper}{t:TypeId}{a:Array (Nat×Operand)}(f:o.op=.build t a){b:Array (Nat×Value)}(i:a.map (λp=>(p.1,d p.2))=b){cells:Array Value}(h:P.built t b.toList=some cells)(x:World):Dz P x (.agg cells) ((execOp d o).run P x):=by
 subst i;unfold execOp;simp only[f,FU];rw[run_build x t _ cells h];simp[Dz]
theorem Yq{P:Program}{d:Array Oper}{m:Nat}{Z:World->Prop}{Q:Exit->Act->World->Prop}{j:Nat}{o:Oper}{b:Array Bool}{a:Act}{w:World}{G:World->World}(B:G7 Z G)(l:Z w)(i:Nat){t:TypeId}{f:Array (Nat×Operand)}(s:Array (Nat×Value))(cells:Array Value)
    (h:C8 Z P .any d m Q j (b.setIfInBounds i true) (a.put o.dst (.agg cells)) w) (z:d[i]?=some o:=by rfl) (q:decide (i<m)=true:=by kernel_rfl) (F:(Region.noSelect d && Kq .any d m)=true:=by kernel_rfl) (H:(Region.free .any d b i && (Region.ready .any d b).contains i)=true:=by kernel_rfl)
    (C:Region.wanted o (yielded d a.tmps)=true:=by kernel_rfl) (E:o.op=.build t f:=by rfl) (J:f.map (λp=>(p.1,a.eval p.2))=s:=by kernel_rfl) (I:P.built t s.toList=some cells:=by kernel_rfl):C8 Z P .any d m Q (j+1) b a w :=
 Ui B l z q F H λK A=>by rw[if_pos C];exact⟨_,λx=>fI E J I (G x),A _ h⟩
def isFd (l0:Int) (lo:Nat) (w:World) (r bx bmx:Nat) (bs:List Nat) (R:Rm):Prop:=∃D,Ay lo w r bx bmx bs D R/\Hx l0 R.t R.E D
theorem isFd.below(h:isFd l0 lo w r bx bmx bs R)(d:Bw w w'):isFd l0 lo w' r bx bmx bs R:=by
 obtain⟨D,a,b⟩:=h;exact⟨D,Ii a d,b⟩
theorem TY(h:Hx l0 R.t R.E D)(p:Pk):Hx l0 (Cm R p).t (Cm R p).E D:=by
 obtain⟨a,b,_⟩:=JP R p;rw[a,b];exact h
theorem bA(h:Hx l0 R.t R.E D)(k:Nat)(f:Int):Hx l0 (tellR R k f).t (tellR R k f).E D:=by
 obtain⟨a,b,_⟩:=OQ R k f;rw[a,b];exact h
theorem ll(h:Ay lo w r bx bmx bs D R){k y:Nat}(j:bs[k]?=some y)(f:keptF w w' r){L:List (Addr×Value)}(o:∀q∈L,q.1.block=y)(b:ZK L w):ZK L w' :=
 b.same (f.touchW h) λq i e=>by
  obtain⟨_,s,m⟩:=MJ h.cls (BI j);obtain⟨_,l,T,a,d⟩:=e;rw[o q i]at a;have:=Cx m a;subst this
  rcases d with e|e<;>revert e<;>decide
theorem N6{a:Option Addr}{d k b:Nat}(h:w.ownsRow lo 52 1 (.slice a bs.length d) bs.length (Ef bs))(f:bs[k]?=some b):∃g,a=some (Ad g 0)/\w.cell? (Ad g k)=some (Pd b 0):=by
 obtain⟨g,e,_,i⟩:=WR h (T4 f);exact⟨g,e,i⟩
end
section
attribute [local go_sem] Oper.semAt_some Dz Dl
variable {r lo bx bmx : Nat}{w w' : World}{bs : List Nat}{D : List (List UInt8)}{R : Rm}
theorem Up{α:Type}{l:List α}{m j:Nat}{u:α}(h:(l.take m)[j]?=some u):l[j]?=some u:=by
 rw[DU]at h
 split at h
 . exact h
 . cases h
structure ZOu (r g n cf:Nat) (Bg:Obj) (wx:World):Prop where
 lt:r<wx.heap.size
 fl:wx.cell? (Ad r 2)=some (Sl g n cf)
 row:wx.heap[g]?=some Bg
theorem ZOu.grow{g n cf:Nat}{b:Obj}(h:ZOu r g n cf b w)(a:Bw w w'):ZOu r g n cf b w' :=
 ⟨AK h.lt a.size,(zC a r 2 h.lt).trans h.fl,(a.block g (As h.row)).trans h.row⟩
theorem eY(h:Ay lo w r bx bmx bs D R){β:Nat}{j:Array Value}(d:w.heap[β]?=some (Oc j 60))(C:lo<=β)(B:∀v,w.cell? (Ad r 2)=some v->v.ownBlock≠some β)(m:sameBut w w' λk=>k=β):Ay lo w' r bx bmx bs D R:=by
 obtain⟨H,⟨vc,vf,q,G,P,O,K,J⟩,E,F⟩:=h;have l:∀x j T z,w.heap[x]?=some (.cells j T z)->T≠60->¬x=β:=λx j T z f t e=>by
  subst e;exact t (Cx f d)
 have o:∀k,k<w.heap.size->k=β->lo<=k/\F7 w k:=λk _ e=>by subst e;exact⟨C,C6 d (by decide)⟩
 refine⟨H,⟨vc,vf,(m.2 r (As q) (l r _ _ _ q (by decide))).trans q,GZ G m λx f e=>?_,P,O,GZ K m λx f e=>?_,λi x v a b=>Eu (J i x v a b) m o⟩,NO E m o λy N=>?_,MK F m λx f e=>?_⟩
 . obtain⟨_,_,j,A⟩:=ID G f
   exact l x _ _ _ A (by decide) e
 . subst e
   exact B _ (Az q 2) f
 . obtain⟨_,j,s⟩:=MJ E N
   exact l y _ _ _ s (by decide)
 . refine ⟨(o x f e).1,(o x f e).2,λI=>?_,λj T z s=>?_⟩
   . subst e I;exact F9 F.2.2.2 _ _ _ d
   . subst e
     have:=Cx d s;subst this
     decide
theorem XQ(h:Ay lo w r bx bmx bs D R){i:Nat}{p:Pk}(hp:R.fl[i]?=some p)(hfl:R.fl.length<=400) :
    Cg 16 #[Pd r 0,I6 (i:Int)] w λe w'=>∃v,e=.returned (pkV p v)/\Ar lo w' v p.x.op/\Ay lo w' r bx bmx bs D (outR R i)/\sameBut w w' (touchW lo w):=by
 obtain⟨pc,cc,pf,cf,h2,h3,h4⟩:=Ht h;have hi:i<R.fl.length:=(De hp);have hne:R.fl≠[]:=λe=>by rw[e]at hi;exact absurd hi (AP _)
 obtain⟨g',e',hgl',_,_,_,hat⟩:=Rv h4 hne;subst e';obtain⟨vp,a0,a1,a2,a3,a4,a5,a6,hop⟩:=hat i p hp;obtain⟨pv,cv,rfl⟩:=C7 hop;obtain⟨g,z,e2,_,Y,g3,hlog,hgl,hfc,hcm,X,hg,hcs,htk⟩:=Tt h4 hne;obtain rfl:g'=g:=by injection e2 with e2;injection e2
 unfold maxLen at hcm;have HOP:=Aa hop;have x2:=cQ h2 2 rfl;have C1:Hid (∀j u,(pkC (R.fl.take i) (z.take i))[j]?=some u->X[j]?=some u):=λj u I=>by
  rw[←Qj _ _ _ Y,←htk]at I;have:=Up (Up I);rwa[CE]at this
 have C2:Hid (∀j u,(pkC (R.fl.drop (i+1)) (z.drop (i+1)))[j]?=some u->X[(i+1)*7+j]?=some u):=λj u I=>by
  rw[←Og _ _ _ Y,←htk,List.getElem?_drop]at I;have:=Up I;rwa[CE]at this
 have O1:Hid (∀u∈pkC (R.fl.take i) (z.take i),u.oneCell'=true):=λu I=>by
  rw[←Qj _ _ _ Y]at I;exact P7 g3 Y u (BZ I)
 have O2:Hid (∀u∈pkC (R.fl.drop (i+1)) (z.drop (i+1)),u.oneCell'=true):=λu I=>by
  rw[←Og _ _ _ Y]at I;exact P7 g3 Y u (DJ I)
 have L1:Hid ((pkC (R.fl.take i) (z.take i)).length=i*7):=by
  show _=_;rw[Nr _ _ (by simp[Y]),AO,FA (CW hi)]
 have L2:Hid ((pkC (R.fl.drop (i+1)) (z.drop (i+1))).length=(R.fl.length - (i+1))*7):=by
  show _=_;rw[Nr _ _ (by simp[Y]),AM]
 have HAPP:Hid (pkC (R.fl.take i) (z.take i)++pkC (R.fl.drop (i+1)) (z.drop (i+1))=pkC (R.fl.eraseIdx i) (z.eraseIdx i)):=fo _ _ Y i;have HER:Hid (i+(R.fl.length - (i+1))=(R.fl.eraseIdx i).length):=by
  show _=_;rw[List.length_eraseIdx,if_pos hi];omega
 have HFIN:Hid (∀(w6:World) (v2:Value),Bw w w6->w6.ownsRow w.heap.size 60 7 v2 (i+(R.fl.length - (i+1))) (pkC (R.fl.take i) (z.take i)++pkC (R.fl.drop (i+1)) (z.drop (i+1)))->(∃u,w6.cell? (Ad r 2)=some u)/\w6.frozen? (Ad r 2)=false/\Ay lo (w6.setCell (Ad r 2) v2) r bx bmx bs D (outR R i)/\keptF w (w6.setCell (Ad r 2) v2) r):=λw6 v2 hb hrow=>by
  rw[HAPP.out]at hrow;exact Nc h Y g3 hb HER.out hrow
 have HTW:Hid (∀wx,keptF w wx r->sameBut w wx (touchW lo w)):=λwx c=>c.touchW h;have HGL:Hid (g'<w.heap.size/\r<w.heap.size):=⟨hgl,Fu h⟩;have HZ0:Hid (ZOu r g' R.fl.length cf (Oc X 60) w):=⟨Fu h,x2,hg⟩;have hi1:(i:Int)<(R.fl.length:Int):=by omega
 have hi2:(R.fl.length:Int)<=400:=by omega
 have hi3:(R.fl.length:Int)<=(cf:Int):=by omega
 have hi4:(cf:Int)<=9223372036854775807:=by omega
 obtain⟨x,hi5⟩:∃x,i+1=x:=⟨_,rfl⟩;have hi6:(x:Int)<=(R.fl.length:Int):=by omega
 have hi7:(i:Int)<=(cf:Int):=by omega
 have hrl:r<w.heap.size:=Fu h;have HW2:Hid (IntKind.i64.wrap ((i:Int)+1)=(x:Int)):=by
  show _=_;rw[BG];omega
 have hwr:wrap64 ((i:Int)+1)=(x:Int):=by rw[E0 (by omega) (by omega)];omega
 rw[hi5]at C2 O2 L2 HAPP HER HFIN;obtain⟨i0,hin,hq0,hq1,hq2⟩:=info_parts Z6;generalize outR R i=R' at *;generalize pkC (R.fl.take i) (z.take i)=n1 at *;generalize pkC (R.fl.drop x) (z.drop x)=n2 at *;generalize pkC (R.fl.eraseIdx i) (z.eraseIdx i)=n3 at *;generalize (R.fl.eraseIdx i).length=el at *;generalize R.fl.length=n at *;unfold pkV;generalize p.kind=b0 at *;generalize (p.c:Int)=b1 at *;generalize p.rev=b2 at *;generalize p.id=b3 at *;generalize p.x.c=b4 at *;generalize p.x.i=b5 at *;generalize hb6:p.x.op.length=b6 at *;clear h h2 h3 h4 hp hne hat hop hgl' Y g3 hlog hfc hcm hg hcs htk e2 hfl hi hi5 hb6 z
 go_enter func16,ntmps16
 go_upto_region 2 with (fail)
 have hbw:Bw w ((w.alloc (Oc #[I6 0,I6 0,I6 0,I6 0,I6 0,I6 0,.slice none 0 0] 60)).alloc (Oc #[I6 b0,I6 b1,I6 b2,I6 b3,I6 b4,I6 b5,.slice pv b6 cv] 60)):=(zA _ _).alloc (by rw[Bb];omega) _;have B:=Aa hbw;have HX0:Hid (((w.alloc (Oc #[I6 0,I6 0,I6 0,I6 0,I6 0,I6 0,.slice none 0 0] 60)).alloc (Oc #[I6 b0,I6 b1,I6 b2,I6 b3,I6 b4,I6 b5,.slice pv b6 cv] 60)).heap[w.heap.size]?=some (Oc #[I6 0,I6 0,I6 0,I6 0,I6 0,I6 0,.slice none 0 0] 60)):=(heap_alloc_old _ _ (by rw[Bb];omega)).trans (heap_alloc_new w _);have HX1:Hid (((w.alloc (Oc #[I6 0,I6 0,I6 0,I6 0,I6 0,I6 0,.slice none 0 0] 60)).alloc (Oc #[I6 b0,I6 b1,I6 b2,I6 b3,I6 b4,I6 b5,.slice pv b6 cv] 60)).heap[w.heap.size+1]?=some (Oc #[I6 b0,I6 b1,I6 b2,I6 b3,I6 b4,I6 b5,.slice pv b6 cv] 60)):=by
  have:=heap_alloc_new (w.alloc (Oc #[I6 0,I6 0,I6 0,I6 0,I6 0,I6 0,.slice none 0 0] 60)) (Oc #[I6 b0,I6 b1,I6 b2,I6 b3,I6 b4,I6 b5,.slice pv b6 cv] 60);rwa[AN]at this
 generalize hW1:((w.alloc (Oc #[I6 0,I6 0,I6 0,I6 0,I6 0,I6 0,.slice none 0 0] 60)).alloc (Oc #[I6 b0,I6 b1,I6 b2,I6 b3,I6 b4,I6 b5,.slice pv b6 cv] 60))=W1 at *;have J:=Aa (HZ0.out.grow B.out);refine Kh (λwx:World=>ZOu r g' n cf (Oc X 60) wx) 17 20 (by kernel_rfl) rfl ?_;intro w30 f;have d:=J.out.grow f;have hbA:=B.out.trans (f.mono B.out.size);obtain⟨G,s⟩:=JC (Z:=λwx:World=>ZOu r g' n cf (Oc X 60) wx) d (λ{w w'} h hb=>ZOu.grow h hb);have hwr2:=HW2.out;have hi0:(0:Int)<=(x:Int):=by exact Int.natCast_nonneg _
 have y2:∀y,(G y).cell? (Ad r 2)=some (Sl g' n cf):=λy=>(s.but y).fl;refine az s d 0 λ_ k=>?_;go_simp;apply k;clear k;refine az s d 2 λ_ k=>?_;go_simp;apply k;clear k;refine az s d 3 λ_ k=>?_;go_simp;apply k;clear k;refine az s d 4 λ_ k=>?_;go_simp;apply k;clear k;refine az s d 5 λ_ k=>?_;go_simp;apply k;clear k;refine az s d 6 λ_ k=>?_;go_simp;apply k;clear k;refine az s d 7 λ_ k=>?_;go_simp;apply k;clear k;refine az s d 9 λ_ k=>?_;go_simp;apply k;clear k;refine az s d 10 λ_ k=>?_;go_simp;apply k;clear k;refine az s d 11 λ_ k=>?_;go_simp;apply k;clear k;refine az s d 12 λ_ k=>?_;go_simp;apply k;clear k;refine az s d 13 λ_ k=>?_;go_simp;apply k;clear k;refine az s d 14 λ_ k=>?_;go_simp;apply k;clear k;refine az s d 15 λ_ k=>?_;go_simp;apply k;clear k;clear y2 s hwr2;refine aO 1 ⟨_,rfl,?_⟩;intro w31 hb31 K m;have E:=f.trans (hb31.mono f.size)
 go_simp
 refine m _ _ (λF=>F.grow (zA _ _)) ?_;clear m K;refine aO 8 ⟨_,rfl,?_⟩;intro w32 Q K m;have U:=(E.alloc E.size _).trans (Q.mono (E.alloc E.size _).size);have hz2:=J.out.grow U;have ho0:w32.ownsRow W1.heap.size 60 7 (Sl w31.heap.size 0 0) 0 []:=Fe (GA w31 #[] 0 E.size (AV _) rfl) Q;obtain⟨v1,w1,O,ho1,hg1,_⟩:=run_append_own (P:=prog) w32 W1.heap.size 43 43 60 i0 (.agg #[I6 0,I6 0,I6 0,I6 0,I6 0,I6 0,.slice none 0 0]) 7 72 underlying43 hin hq0 hq1 hq2 rfl (by decide) _ 0 [] ho0 (Ad g' 0) i cf n1 L1.out (λj u hj=>by rw[DG,DC,Az hz2.row j];exact C1.out j u hj) O1.out (by unfold maxLen;omega) (by omega) U.size;have hb3:=U.grown hg1 U.size λk H=>(ho0.lt k H).1;refine Ox rfl rfl rfl rfl O ?_;refine m _ _ (λ_=>J.out.grow hb3) ?_;clear m K;obtain⟨p1,c1,rfl⟩:=Bm ho1;refine aO 16 ⟨_,rfl,?_⟩;intro w33 hb33 K m;have N:=hb3.trans (hb33.mono hb3.size);have hz4:=J.out.grow N;have ho2:=Fe ho1 hb33
 obtain ⟨a2,ha2,hn2⟩:∃a2,(if cf=x then some ((Ad g' 0):Addr) else some (Ad g' (x*7)))=some a2/\∀j u,n2[j]?=some u->w33.cell? (a2.add j)=some u:=by
  by_cases C:cf=x
  . refine⟨_,if_pos C,λj u hj=>?_⟩
    have:=(De hj);have:=L2.out;omega
  . refine⟨_,if_neg C,λj u hj=>?_⟩
    rw[DG,Az hz4.row];exact C2.out j u hj
 rw[ha2];obtain⟨v2,w2,O,ho3,hg2,_⟩:=run_append_own (P:=prog) w33 W1.heap.size 43 43 60 i0 (.agg #[I6 0,I6 0,I6 0,I6 0,I6 0,I6 0,.slice none 0 0]) 7 72 underlying43 hin hq0 hq1 hq2 rfl (by decide) _ (0+i) _ ho2 a2 (n - x) (cf - x) n2 L2.out hn2 O2.out (by unfold maxLen;omega) (by omega) N.size;have hb5:=N.grown hg2 N.size λk H=>(ho2.lt k H).1;refine Ox rfl rfl rfl rfl O ?_;refine m _ _ (λ_=>J.out.grow hb5) ?_;clear m K;rw[DC,BA]at ho3;obtain⟨p2,c2,rfl⟩:=Bm ho3;have HB5:=Aa hb5;have HO3:Hid _:=Xq ho3 B.out.size;have HOL:Hid (∀k,(Value.slice p2 (i+(n - x)) c2).ownBlock=some k->W1.heap.size<=k):=λk H=>(ho3.lt k H).1;clear d hbA f hb31 Q hb33 E U hb3 N hb5 hz2 hz4 ho0 ho1 ho2 ho3 hg1 hg2 ha2 hn2 hin hq0 hq1 hq2;refine Qt (by kernel_rfl) ?_;refine aO 17 ⟨_,rfl,?_⟩;intro w34 l K m
 go_simp
 refine m _ _ (λ_=>trivial) ?_;clear m K;refine aO 18 ⟨_,rfl,?_⟩;intro w35 hb35 K m
 go_simp
 refine m _ _ (λ_=>trivial) ?_;clear m K;refine aO 19 ⟨_,rfl,?_⟩;intro w36 hb36 K m;have hb6:=(l.trans (hb35.mono l.size)).trans (hb36.mono (l.trans (hb35.mono l.size)).size);have hb7:=HB5.out.trans (hb6.mono HB5.out.size);obtain⟨⟨u1,u2⟩,u3,u4,u5⟩:=HFIN.out w36 _ (B.out.trans (hb7.mono B.out.size)) (Fe HO3.out hb6);have U4:=Aa u4;have U5:=Aa u5;clear u4 u5
 go_simp
 refine m _ _ (λ_=>trivial) ?_;clear m K;have H:∀k,k<W1.heap.size->k≠r->(w36.setCell (Ad r 2) (.slice p2 (i+(n - x)) c2)).heap[k]?=W1.heap[k]?:=λk h1 h2=>(BF _ _ _ k h2).trans (hb7.block k h1);have X2:Hid _:=AU w36 (Ad r 2) (.slice p2 (i+(n - x)) c2) u2;have h0:=Nat.lt_irrefl w.heap.size;have HSZ:Hid (w.heap.size<W1.heap.size):=(As HX0.out);have B0:Hid _:=(H w.heap.size (As HX0.out) (by omega)).trans HX0.out;have B1:Hid _:=(H (w.heap.size+1) (As HX1.out) (by omega)).trans HX1.out;clear H u2 u3 l hb35 hb36 hb6 hb7 HX0 HX1 h0;refine ae ?_;intro w37 A;have HB37:=Aa A;have C:=(A.block _ (As B1.out)).trans B1.out;have c0:=cQ C 0 rfl;have c1:=cQ C 1 rfl;have c2:=cQ C 2 rfl;have c3:=cQ C 3 rfl;have c4:=cQ C 4 rfl;have c5:=cQ C 5 rfl;have c6:=cQ C 6 rfl;have F:=(A.block _ (As B0.out)).trans B0.out;have HZ:=Aa F;have ff:∀o,w37.frozen? (Ad w.heap.size o)=false:=λo=>Gf F;have z0:=cQ F 0 rfl;have z1:=cQ F 1 rfl;have z2:=cQ F 2 rfl;have z3:=cQ F 3 rfl;have z4:=cQ F 4 rfl;have z5:=cQ F 5 rfl;have z6:=cQ F 6 rfl;clear A C F;go_wp2;have hf:=heap_setCell_same _ w.heap.size 6 _ _ (.slice pv b6 cv) (heap_setCell_same _ w.heap.size 5 _ _ (I6 b5) (heap_setCell_same _ w.heap.size 4 _ _ (I6 b4) (heap_setCell_same _ w.heap.size 3 _ _ (I6 b3) (heap_setCell_same _ w.heap.size 2 _ _ (I6 b2) (heap_setCell_same _ w.heap.size 1 _ _ (I6 b1) (heap_setCell_same _ w.heap.size 0 _ _ (I6 b0) HZ.out))))));have hcs:=λo=>Az hf o;refine bodyPost_ret (v:=.agg #[I6 b0,I6 b1,I6 b2,I6 b3,I6 b4,I6 b5,.slice pv b6 cv]) (by simp[results,results16,go_sem,hcs]) rfl ?_;have fin:∀W,sameBut w37 W (λk=>k=w.heap.size)->Ar lo W (.slice pv b6 cv) p.x.op/\Ay lo W r bx bmx bs D R'/\sameBut w W (touchW lo w):=λW hs=>by
  have h37:=Ii U4.out HB37.out;have t:=HTW.out _ (keptF.trans U5.out (Ip (Fu U4.out) HB37.out));have hlo:lo<=w.heap.size:=CW (DV h37.low HGL.out.2);have x2:=(zC HB37.out r 2 (Fu U4.out)).trans X2.out;refine⟨Eu (Eu HOP.out t λk _ ⟨a,cs,T,C,hT⟩=>⟨a,C6 C (by rcases hT with rfl|rfl<;>decide)⟩) hs λk _ e=>by subst e;exact⟨hlo,C6 HZ.out (by decide)⟩,eY h37 HZ.out hlo (λv hv e=>?_) hs,AF t.1 hs.1,λk H hn=>(hs.2 k (AK H t.1) (by omega)).trans (t.2 k H hn),hs.os.trans t.os,hs.tape.trans t.tape,hs.output.trans t.output⟩;rw[x2]at hv;obtain rfl:=Bq hv;have:=HOL.out _ e;have:=HSZ.out;omega
 have q:=λ(W:World) (o:Nat) (v:Value)=>B6 (w:=W) (S:=λk=>k=w.heap.size) (b:=w.heap.size) (o:=o) (v:=v) rfl;exact⟨_,rfl,fin _ (((((((q _ _ _).trans (q _ _ _)).trans (q _ _ _)).trans (q _ _ _)).trans (q _ _ _)).trans (q _ _ _)).trans (q _ _ _))⟩
end
section
attribute [local go_sem] Oper.semAt_some
variable {lo b : Nat}{w : World}{who u : Int}{S : Cl}
theorem TW{f:Value}{d:List (List Pt)}(h:Hr lo w f d)(i:d≠[]):∃g c,f=Sl g d.length c:=by
 obtain⟨m,_,l,_⟩:=h
 rcases l.2 with ⟨_,e⟩|⟨g,a,j,e,_⟩
 . exact absurd (BC e) i
 . exact⟨g,a,e⟩
theorem MX{α:Type}{l:List α}(h:l.length=2):∃a b,l=[a,b]:=by
 match l,h with
 | [a,b],_=>exact⟨a,b,rfl⟩
theorem ZX{w':World}{g:Nat}(h:w.grownBy w' (some g)):sameBut w w' λk=>k=g:=IU h λk e=>(Bq e).symm
theorem LB(h:Bf lo w b who u S){m1:List Pt}(G:S.mine=[m1]) :
    Cg 124 #[Pd b 0] w λe w'=>e=.returned (.tuple #[])/\Bf lo w' b who u { S with mine:=[] }/\keptC w w' b:=by
 have F:=IA h;obtain⟨z,vm,A,E⟩:=h;obtain⟨g,c,rfl⟩:=TW E (by rw[G];simp);have N:=Jc E (k:=g) rfl;have C:g≠b:=λe=>by
  obtain⟨_,_,cs,Y⟩:=N;subst e;have:=Cx A Y;revert this;decide
 obtain⟨vs,P,I,q3⟩:=E;have l:S.mine.length=1:=by rw[G];rfl
 rw[l]at I A;obtain⟨x0,rfl⟩:∃x0,vs=[x0]:=List.length_eq_one_iff.1 (by rw[P,l]);have X:Hid _:=SW I;obtain⟨_,_,_,_,x4,_,_,_,O⟩:=Ds A;have f4:=O 4;have Q:=Aa A;have K:=Aa z;clear A P I q3 l O G z N
 go_enter func124,ntmps124
 go_wp2_with (go_at_call 9999)
 refine AC X.out ?_;rintro e w1 ⟨rfl,f,o⟩;have H:=ZX o;have a:w1.heap[b]?=some (Oc (Gu who u S (Sl g 1 c)) 95):=(H.2 b F λe=>C e.symm).trans Q.out;have y4:w1.cell? (Ad b 4)=some (Sl g 1 c):=(Ds a).2.2.2.2.1;have z4:=fZ a 4;have U:=heap_setCell_same w1 b 4 _ _ (Sl g 0 c) a;have j:sameBut w1 (w1.setCell (Ad b 4) (Sl g 0 c)) (λk=>k=b):=B6 (S:=λk=>k=b) rfl;have s:Hr lo (w1.setCell (Ad b 4) (Sl g 0 c)) (Sl g 0 c) []:=⟨[],rfl,GZ f j (λk J e=>C ((Bq J).trans e)),λi m x Z=>by simp at Z⟩
 have d:Hid (Bf lo (w1.setCell (Ad b 4) (Sl g 0 c)) b who u { S with mine:=[] }/\keptC w (w1.setCell (Ad b 4) (Sl g 0 c)) b) :=
  Kr K.out Q.out U s ((H.mono λk _ e=>.inr (congrArg some e.symm)).comp j λk _ e=>.inl e) λk J=>.inl J
 have W:Hid _:=Ml d.out.1;have q:decide (0<({ S with mine:=[] }:Cl).mine.length)=false:=rfl;rw[q]at W;clear f o H a U j s q
 go_wp2_with (go_at_call 30;refine AC W.out ?_;rintro e w2 ⟨rfl,t⟩;have B:=Aa t;clear t)
 go_end0;exact⟨rfl,IP d.out.1 B.out,d.out.2.trans (Kx B.out (IA d.out.1))⟩
theorem LA(h:Bf lo w b who u S){m1 m2:List Pt}(Q:S.mine=[m1,m2])(X:0<=S.id/\S.id<=1000000) :
    Cg 124 #[Pd b 0] w λe w'=>e=.returned (.tuple #[])/\Bf lo w' b who u { S with mine:=[m2],id:=S.id+1 }/\keptC w w' b:=by
 have hlt:=IA h;obtain⟨N,vm,O,h4⟩:=h;obtain⟨g,c,rfl⟩:=TW h4 (by rw[Q];simp);have W:=Jc h4 (k:=g) rfl;have B:g≠b:=λe=>by
  obtain⟨_,_,cs,hc⟩:=W;subst e;have:=Cx O hc;revert this;decide
 have G:lo<=g/\F7 w g:=by
  obtain⟨e,_,cs,hc⟩:=W;exact⟨e,C6 hc (by decide)⟩
 obtain⟨vs,q1,q2,q3⟩:=h4;have A:S.mine.length=2:=by rw[Q];rfl
 rw[A]at q2 O;obtain⟨x0,U,rfl⟩:∃x0 U,vs=[x0,U]:=MX (by rw[q1,A]);have s:Ar lo w U m2:=q3 1 m2 U (by rw[Q];rfl) rfl;obtain⟨p1,c1,rfl⟩:=C7 s;have CD:Hid _:=SV q2;have HO1:=Aa s;obtain⟨_,_,_,_,x4,_,_,_,xf⟩:=Ds O;have H3:=Aa O;have o:=Aa N;have Z:=Aa G;have hid1:wrap64 (S.id+1)=S.id+1:=E0 (by omega) (by omega);obtain⟨i0,i1⟩:=X;generalize hln:m2.length=ln at *;clear O q1 q2 q3 A xf Q N W s G
 go_enter func124,ntmps124
 go_wp2_with (go_at_call 9999)
 refine AC CD.out ?_;rintro e w1 ⟨rfl,q,E⟩;have hs:=ZX E;have d:w1.heap[b]?=some (Oc (Gu who u S (Sl g 2 c)) 95):=(hs.2 b hlt λe=>B e.symm).trans H3.out;have y4:w1.cell? (Ad b 4)=some (Sl g 2 c):=(Ds d).2.2.2.2.1;have z4:=fZ d 4;have b2:=heap_setCell_same w1 b 4 _ _ (Sl g 1 c) d;have t:sameBut w1 (w1.setCell (Ad b 4) (Sl g 1 c)) (λk=>k=b):=B6 (S:=λk=>k=b) rfl;have C:sameBut w (w1.setCell (Ad b 4) (Sl g 1 c)) (λk=>k=b\/k=g):=(hs.mono λk _ e=>.inr e).comp t λk _ e=>.inl e
 have I:Hr lo (w1.setCell (Ad b 4) (Sl g 1 c)) (Sl g 1 c) [m2]:=⟨[.slice p1 ln c1],rfl,GZ q t (λk a e=>B ((Bq a).trans e)),λi m x hi hx=>by
  cases i with
  | succ i=>simp at hi
  | zero =>
   obtain rfl:m2=m:=by simpa using hi
   obtain rfl:Value.slice p1 ln c1=x:=by simpa using hx
   exact Eu HO1.out C λk _ a=>by
    rcases a with rfl|rfl
    . exact⟨o.out,C6 H3.out (by decide)⟩
    . exact Z.out⟩
 have j:Hid (Bf lo (w1.setCell (Ad b 4) (Sl g 1 c)) b who u { S with mine:=[m2] }/\keptC w (w1.setCell (Ad b 4) (Sl g 1 c)) b) :=
  Kr o.out H3.out b2 I (C.mono λk _ e=>e.imp id λe=>congrArg some e.symm) λk a=>.inl a
 have J:Hid ((w1.setCell (Ad b 4) (Sl g 1 c)).heap[b]?=some (Oc (Gu who u { S with mine:=[m2] } (Sl g 1 c)) 95)):=b2;have CP:Hid _:=Ml j.out.1;have H:decide (0<({ S with mine:=[m2] }:Cl).mine.length)=true:=by simp
 rw[H]at CP;clear q E hs d b2 t I H C
 go_wp2_with (go_at_call 30;refine AC CP.out ?_;rintro e w2 ⟨rfl,z⟩;have P:=Aa z;have l:=(z.block b (As J.out)).trans J.out;have f:=Aa l;have u6:w2.cell? (Ad b 6)=some (I6 S.id):=(Ds l).2.2.2.2.2.2.1;have uf:=fZ l 6;clear z l)
 go_end0;refine⟨rfl,?_⟩;have b3:=heap_setCell_same w2 b 6 _ _ (I6 (S.id+1)) f.out;have Y:=IP j.out.1 P.out;obtain⟨_,vm,e3,e4⟩:=Y;have hvm:vm=Sl g 1 c:=by
  have h1:=(Ds e3).2.2.2.2.1;rw[(Ds f.out).2.2.2.2.1]at h1;exact(Bq h1).symm
 subst hvm;have F:sameBut w2 (w2.setCell (Ad b 6) (I6 (S.id+1))) (λk=>k=b):=B6 (S:=λk=>k=b) rfl;have K:=Kr (S':={ S with mine:=[m2],id:=S.id+1 }) o.out f.out b3 (NS e4 F (λk _ a=>by obtain rfl:=a;exact⟨o.out,C6 f.out (by decide)⟩) λk a e=>B ((Bq a).trans e)) (F.mono λk _ e=>.inl e) λk a=>.inl a;exact⟨K.1,(j.out.2.trans (Kx P.out (IA j.out.1))).trans K.2⟩
end
section
attribute [local go_sem] Oper.semAt_some Dz Dl
theorem YI:∀(d:List (List Pt))(m x:List Pt),Di (d++[m]) x=((Di d x).1++[Aq (Bv false m (Di d x).2)],Aq (Bv true (Di d x).2 m))
 | [],m,x=>rfl
 | a :: d,m,x=>by
  rw[BR,Di,YI d m];rfl
theorem Wx:∀(ms:List (List Pt))(t:List UInt8)(k:Nat)(hk:k<ms.length),JF ms t->JF (ms.take k) t/\good ms[k] (Eo (ms.take k) t)
 | m :: ms,t,0,_,h=>⟨trivial,h.1⟩
 | m :: ms,t,k+1,hk,h=>by
  obtain⟨d,a⟩:=Wx ms _ k (by simpa using hk) h.2;exact⟨⟨h.1,d⟩,a⟩
structure SN (lo:Nat) (w:World) (b g:Nat) (VM:Value) (ms:List (List Pt)) (x:List Pt) (CB:Obj) (k:Nat) (v1:Value) (wr:World):Prop where
 le:k<=ms.length
 blk:wr.heap[b]?=some CB
 mine:Hr lo wr VM ((Di (ms.take k) x).1++ms.drop k)
 op:Ar lo wr v1 (Di (ms.take k) x).2
 same:sameBut w wr λj=>VM.ownBlock=some j
theorem kN(A:List (List Pt))(a:List (List Pt))(k:Nat)(f:k<a.length)(y:List Pt)(d:A.length=k):(A++a.drop k).set k y=(A++[y])++a.drop (k+1):=by
 rw[BK f,List.set_append,if_neg (by omega),d,BP,AH];rfl
theorem fD{lo:Nat}{w:World}{b:Nat}{who u:Int}{S:Cl}(h:Bf lo w b who u S)(hk:okK 2000 S)(v:Value)(x:List Pt)(hx:Ar lo w v x)(hg:good x S.seen)(H:S.seen.length+Al x<=500000)(hG:1<lo/\2<lo)(hT:Lib.Utf8Tabs 1 2 w) :
    Cg 125 #[Pd b 0,v] w λe w'=>e=.returned (.tuple #[])/\Bf lo w' b who u { S with mine:=(Di S.mine x).1,doc:=Aj (Di S.mine x).2 S.doc }/\keptC w w' b:=by
 have hlt:=IA h;obtain⟨hlo,vm,h3,h4⟩:=h;obtain⟨p,c,rfl⟩:=MQ h4;obtain⟨n,hn⟩:∃n,S.mine.length=n:=⟨_,rfl⟩;have hn2:n<=2:=by have:=hk.two;omega
 rw[hn]at h3 h4;have x4:=(Ds h3).2.2.2.2.1;have HN:=Aa hn;have H3:=Aa h3;have HK:=Aa hk;have HGX:=Aa hg;have HSZ:=Aa H;have HLO:=Aa hlo;have HT:=Aa hT;have HGG:=Aa hG;have H0:Hid (SN lo w b 0 (.slice p n c) S.mine x (Oc (Gu who u S (.slice p n c)) 95) 0 v w):=⟨AV _,h3,h4,hx,OT _ _⟩;have E:Hid (∀k,(Value.slice p n c).ownBlock=some k->lo<=k/\k<w.heap.size/\∃cs,w.heap[k]?=some (Oc cs 37)):=λk hk=>Jc h4 hk;obtain⟨pv,cv,rfl⟩:=C7 hx;have hni:(n:Int)<=2:=by omega
 generalize x.length=xn at *;clear h3 h4 hn hk hg H hlo hT hx hG
 go_enter func125,ntmps125
 go_wp2
 go_loopw [1,13] (λv1 i wr=>∃k:Nat,i=.int .i64 k/\SN lo w b 0 (.slice p n c) S.mine x (Oc (Gu who u S (.slice p n c)) 95) k v1 wr) (λ_ i _=>n - (intOf i).toNat)
 case atStart=>exact⟨0,rfl,H0.out⟩
 case round =>
  obtain⟨k,rfl,a⟩:=hrel;have HI:=Aa a;have hkn:k<=n:=by have:=a.le;have:=HN.out;omega
  obtain⟨pv1,cv1,hv1⟩:=C7 a.op;subst hv1;generalize (Di (S.mine.take k) x).2.length=xl at *;clear H0
  by_cases hlt':k<n
  . have s:k<S.mine.length:=by rw[HN.out];exact hlt'
    have F:=a.mine;have htl:(S.mine.take k).length=k:=by rw[AO];omega
    have hAl:(Di (S.mine.take k) x).1.length=k:=by rw[Ss,htl]
    obtain⟨vs,q1,q2,q3⟩:=F;have Z:((Di (S.mine.take k) x).1++S.mine.drop k).length=n:=by rw[AA,hAl,AM,HN.out];omega
    obtain ⟨g,rfl⟩:∃g,p=some (Ad g 0):=by
     rcases q2.2 with ⟨_,e⟩|⟨g,cap,cur,e,_⟩
     . rw[Z]at e;omega
     . injection e with e1 _ _;exact⟨g,e1⟩
    have hgm:=E.out g rfl;have hgb:g≠b:=λe=>by
     obtain⟨_,_,cs,hc⟩:=hgm;subst e;have:=Cx H3.out hc;revert this;decide
    have hvk:k<vs.length:=by rw[q1,Z];omega
    have W:Ar lo wr vs[k] S.mine[k]:=q3 k S.mine[k] vs[k] (by rw[AL (by omega),hAl,BP,List.getElem?_drop,EI];exact B7 s) (B7 hvk);have hck:wr.cell? (Ad g k)=some vs[k]:=by
     rw[Z]at q2;rw[World.ownsRow.cellAt q2 k (by omega)];exact B7 hvk
    obtain⟨gA,gm⟩:=Wx S.mine S.seen k s HK.out.all;obtain⟨_,gX,_⟩:=OM (S.mine.take k) x S.seen HGX.out gA;have hpA:∀m∈S.mine.take k,Al m<=2000:=λm hm=>HK.out.puts m (BZ hm);have H:=HSZ.out;have Q:=(ON 2000 (S.mine.take k) x S.seen HGX.out gA hpA (by rw[htl];omega) (by omega)).2;have J:=Rr 2000 (S.mine.take k) S.seen gA hpA;rw[htl]at J;have hpm:=HK.out.puts S.mine[k] (BE s);have C:Lib.Utf8Tabs 1 2 wr:=Sq HT.out a.same (λe=>by have:=(E.out _ e).1;have:=HGG.out.1;omega) (λe=>by have:=(E.out _ e).1;have:=HGG.out.2;omega);obtain⟨X,hX⟩:∃X,(Di (S.mine.take k) x).2=X:=⟨_,rfl⟩;obtain⟨mk,hmk⟩:∃mk,S.mine[k]=mk:=⟨_,rfl⟩;have l:=a.op;rw[hX]at gX Q l;rw[hmk]at gm hpm W;have CT1:=Aa λwx (hb:Bw wr wx)=>V4 _ _ true X mk _ wx (Go.Proofs.Utf8Tabs_below C hb) (Bt l hb).1 (Bt W hb).1 gX gm (by omega) (by omega);have CT2:=Aa λwx (hb:Bw wr wx)=>V4 _ _ false mk X _ wx (Go.Proofs.Utf8Tabs_below C hb) (Bt W hb).1 (Bt l hb).1 gm gX (by omega) (by omega);have HTK:Hid (Di (S.mine.take (k+1)) x=((Di (S.mine.take k) x).1++[Aq (Bv false mk X)],Aq (Bv true X mk))):=by
     show _=_;rw[AD s,YI,hX,hmk]
    have HSET:Hid (∀y,((Di (S.mine.take k) x).1++S.mine.drop k).set k y=((Di (S.mine.take k) x).1++[y])++S.mine.drop (k+1)):=λy=>kN _ _ k s y hAl;generalize hXv:vs[k]=xv at *;obtain⟨pk,ck,rfl⟩:=C7 W;generalize Aq (Bv true X mk)=Y1 at *;generalize Aq (Bv false mk X)=Y2 at *;have HMN:=Aa a.mine;have Y:=Aa a.blk;have HSM:=Aa a.same;have HGM:=Aa hgm;have HLL:Hid (k+1<=S.mine.length):=s;have hki:(k:Int)<(n:Int):=by omega
    have w4:=(Ds a.blk).2.2.2.2.1;have hglr:g<wr.heap.size:=AK hgm.2.1 a.same.size;have d:b<wr.heap.size:=AK hlt a.same.size;have hcn:n<=c/\c<=maxLen:=by
     rw[Z]at q2
     rcases q2.2 with ⟨e,_⟩|⟨g',cap,cur,e,_,_,e5,e6,_⟩
     . cases e
     . injection e with _ _ e;subst e;exact⟨e5,e6⟩
    obtain⟨hcn,hcm⟩:=hcn;unfold maxLen at hcm;generalize mk.length=ml at *;clear a HI q1 q2 q3 hvk W gA gm gX hpA H Q J hpm C hX hmk l hXv htl hAl Z s hgm
    go_wp2_with (go_at_call 163;refine(CT1.out _ (A9 _ _)).mono ?_;rintro e w5 ⟨v5,rfl,hn5,hb5⟩;obtain⟨p5,c5,rfl⟩:=IC hn5;have HN5:=Aa hn5;have HB5:=Aa hb5;have u4:=((zC hb5 b 4 d).trans w4);clear hn5 hb5)
    have hB5:=HB5.out;refine wz (λwx:World=>wx.heap[b]?=some (Oc (Gu who u S (Sl g n c)) 95)) 13 ((hB5.block b d).trans Y.out) Mn λw30 A hz0 G hG=>?_;have O:=hB5.trans (A.mono hB5.size);have y4:∀x,(G x).cell? (Ad b 4)=some (Sl g n c):=λx=>(Ds (hG.but x)).2.2.2.2.1;(iterate 7 (refine ay hG hz0 λ_ k=>?_;go_simp;apply k;clear k));clear y4;refine aO 7 ⟨_,rfl,?_⟩;intro w31 z K hK
    go_simp
    have f:=O.trans (z.mono O.size);refine(CT2.out w31 f).mono ?_;rintro e w32 ⟨v',rfl,hn6,o⟩;obtain⟨p6,c6,rfl⟩:=IC hn6;have HN6:=Aa hn6;have N:w32.heap[b]?=some (Oc (Gu who u S (Sl g n c)) 95):=((f.trans (o.mono f.size)).block b d).trans Y.out;refine⟨_,rfl,hK _ _ (λ_=>N) ?_⟩;clear hK K hn6 hz0;refine az hG N 8 λ_ k=>?_;go_simp;apply k;clear k;refine az hG N 9 λ_ k=>?_;go_simp;apply k;clear k;refine az hG N 10 λ_ k=>?_;go_simp;apply k;clear k;refine az hG N 11 λ_ k=>?_;go_simp;apply k;clear k;clear hG N;refine aO 12 ⟨_,rfl,?_⟩;intro I B K hK;have P:=f.trans (o.mono f.size);have U:Bw wr I:=P.trans (B.mono P.size);have hA3:=(U.block b d).trans Y.out;have HA4:Hid _:=Mc HMN.out U;have hgr:∃cs,I.heap[g]?=some (Oc cs 37):=by obtain⟨_,_,e⟩:=Jc HA4.out (k:=g) rfl;exact e
    obtain⟨cs,hcs⟩:=hgr;have zr:=(zC U g k hglr).trans hck;have zf:I.frozen? (Ad g k)=false:=Gf hcs;have HN33:Hid (Ar lo I (.slice p6 Y2.length c6) Y2):=Bt (Ev HN6.out) B;have HO33:Hid (Ar lo I (.slice p5 Y1.length c5) Y1):=Bt (Ev HN5.out) (A.trans ((z.trans ((o.trans (B.mono o.size)).mono z.size)).mono A.size));have HA3:=Aa hA3;have HBA:=Aa U;clear U hA3 A z o B hcs O f P hB5
    go_simp
    refine hK _ _ (λ_=>?_) ?_
    . exact(BF I (Ad g k) _ b (λe=>hgb e.symm)).trans HA3.out
    clear hK K;refine ae ?_;intro w34 q;obtain⟨vs',r1,r2,r3⟩:=HA4.out;obtain⟨s1,s2⟩:=WI r1 r2 r3 HN33.out k;rw[HSET.out]at s1;have hbn:=(s2.2 b (As HA3.out) λe=>hgb (Bq e)).trans HA3.out
    have FIN:Hid (SN lo w b 0 (Sl g n c) S.mine x (Oc (Gu who u S (Sl g n c)) 95) (k+1) (.slice p5 Y1.length c5) w34):=by
     refine⟨HLL.out,(q.block b (As hbn)).trans hbn,?_,?_,?_⟩
     . rw[HTK.out];exact Mc s1 q
     . rw [HTK.out]
       exact Bt (Eu HO33.out s2 λj _ hj=>by
        obtain rfl:g=j:=Bq hj;obtain⟨e1,_,cs',e3⟩:=HGM.out;obtain⟨_,_,cs'',e4⟩:=Jc HA4.out (k:=g) rfl
        exact⟨e1,C6 e4 (by decide)⟩) q
     . exact((HSM.out.trans (Cf HBA.out _)).trans s2).trans (Cf q _)
    have HLT2:=Aa hlt';clear r1 r2 r3 s1 s2 hbn q zr zf;go_wp2
    go_roundw
    case rel=>exact⟨k+1,by go_num,FIN.out⟩
    case measure=>have:=HLT2.out;simp[intOf];omega
  . obtain rfl:k=n:=by omega
    have htk:S.mine.take k=S.mine:=AQ (by rw[HN.out];exact Ai _);have l:=a.op;have F:=a.mine;rw[htk]at l F;have hdr:S.mine.drop k=[]:=DH (by rw[HN.out];exact Ai _);rw[hdr,AZ]at F;obtain⟨_,gX,_⟩:=OM S.mine x S.seen HGX.out HK.out.all;have H:=HSZ.out;have Q:=(ON 2000 S.mine x S.seen HGX.out HK.out.all HK.out.puts (by rw[HN.out];omega) (by omega)).2;have J:=Rr 2000 S.mine S.seen HK.out.all HK.out.puts;rw[HN.out]at J;rw[←HK.out.doc]at gX J;have C:Lib.Utf8Tabs 1 2 wr:=Sq HT.out a.same (λe=>by have:=(E.out _ e).1;have:=HGG.out.1;omega) (λe=>by have:=(E.out _ e).1;have:=HGG.out.2;omega);obtain⟨X,hX⟩:∃X,(Di S.mine x).2=X:=⟨_,rfl⟩;rw[hX]at gX Q l;have HXX:=Aa hX;have CA:Hid _:=Nn _ X S.doc wr C l.1 gX (by omega);have d:b<wr.heap.size:=AK hlt a.same.size;have w5':=(Ds a.blk).2.2.2.2.2.1;have HMN:=Aa F;have Y:=Aa a.blk;have HSM:=Aa a.same;have hki:¬((k:Int)<(k:Int)):=by omega
    clear a HI gX l F htk hdr H Q J C hX
    go_wp2_with (go_at_call 44;refine AC CA.out ?_;rintro e w2 ⟨rfl,hb2⟩;have HB2:=Aa hb2;have t:=(hb2.block b d).trans Y.out;have HBK2:=Aa t;have u5:=(Ds t).2.2.2.2.2.1;have uf:=fZ t 5;clear hb2 t)
    go_end0;refine⟨rfl,?_⟩;rw[HXX.out];have b1:=heap_setCell_same w2 b 5 _ _ (Sx (Aj X S.doc)) HBK2.out;have hs1:sameBut w2 (w2.setCell (Ad b 5) (Sx (Aj X S.doc))) (λk=>k=b):=B6 (S:=λk=>k=b) rfl;refine Kr HLO.out H3.out b1 (NS (Mc HMN.out HB2.out) hs1 (λj _ hj=>by obtain rfl:=hj;exact⟨HLO.out,C6 HBK2.out (by decide)⟩) λj hj e=>?_) ?_ λj hj=>.inl hj
    . obtain⟨_,_,cs,hc⟩:=E.out j hj
      subst e;have:=Cx H3.out hc;revert this;decide
    . exact((HSM.out.mono λj _ e=>.inr e).trans (Cf HB2.out _)).comp hs1 λj _ e=>.inl e
theorem KJ{u n:Int}(x:Ck u){f a m:List Nat}(h:f=a++m)(B:n<=by_ u a)(t:∀i,i<a.length->by_ u (f.take i)<n):A8 f u n=a:=by
 have j:n<=by_ u f:=by rw[h,IB];have:=Jj u m;omega
 have l:f.take a.length=a:=by rw[h,DP rfl]
 obtain⟨k,z,s,A,o⟩:=OO f u n j
 have q:k=a.length:=by
  rcases Nat.lt_trichotomy k a.length with d|e|d
  . have:=t k d;omega
  . exact e
  . have:=o a.length d
    rw[l]at this;omega
 rw[s,q,l]
def Py (W4:World) (B:Nat) (u n:Int) (rs:List Nat) (pre:List (Nat×Nat)) (W:World):Prop :=
 Below (B+2) W4 W/\∃c1 c2,rs=c1++c2/\pre=wide c1/\counted W (B+2) (C1 c1) (C2 c1) (C3 c1) (C4 c1)/\∀i,i<c1.length->by_ u (rs.take i)<n
def Px (W4:World) (B:Nat) (u n:Int) (rs:List Nat) (W:World):Prop :=
 Below (B+2) W4 W/\B+6<=W.heap.size/\∃c1 c2,rs=c1++c2/\n<=by_ u c1/\counted W (B+2) (C1 c1) (C2 c1) (C3 c1) (C4 c1)/\∀i,i<c1.length->by_ u (rs.take i)<n
theorem cY(q:List Nat)(hr:∀r∈q,Df r)(hz:C1 q<=10000000)(u n:Int)(hu:Ck u)(hn:n<=by_ u q)(w:World)(hT:Lib.Utf8Tabs 1 2 w) :
    Cg 70 #[.string (Fs q),I6 u,I6 n] w (Rt w (.tuple #[I6 (by_ 1 (A8 q u n)),.bool (Eh q u n)])):=by
 have HZ:=Aa hz;have HT:=Aa hT;have HSC:Hid ((scan (Fs q).data.toList).1=wide q):=by show _=_;rw[Su,MN q hr]
 have hsz:(Fs q).size<=100000000:=by rw[Sv];rw[Ie]at hz;omega
 have FIN:Hid (∀d J,q=d++J->(n<=by_ u d\/J=[])->(∀i,i<d.length->by_ u (q.take i)<n)->by_ 1 (A8 q u n)=C1 d/\Eh q u n=decide (by_ u d=n)):=λd J X U h3=>by
  have U:n<=by_ u d:=U.elim id λe=>by subst e;rw[AZ]at X;rw[←X];exact hn
  have:=KJ hu X U h3;unfold Eh;rw[this];exact⟨by unfold by_;rw[if_pos rfl],rfl⟩
 clear hr hz hT hn hu;refine(callsIn_wide (n:=3)).1 ?_;refine callsIn_of_wp_marks func70 rfl trivial ?_ rfl;simp only[ntmps70,EL,AJ,AR,Nat.reduceAdd,Nat.reduceSub,Array.replicate_succ,FD,FP,ET,BA,BR]
 gi_wp2_with (refine⟨trivial,?_⟩;gi_at_call 106;refine(callsIn_wide.2 (aW (Fs q) _)).mono ?_;rintro e w13 ⟨rfl,rfl⟩)
 obtain⟨W4,Q⟩:∃W4,W4=(((w.alloc (Oc #[Value.int IntKind.i64 u] 3)).alloc (Oc #[Value.int IntKind.i64 n] 3)).alloc (Oc #[Value.int IntKind.i64 0,Value.int IntKind.i64 0,Value.int IntKind.i64 0,Value.int IntKind.i64 0] 118)).alloc (Oc #[.string (Fs q)] 9):=⟨_,rfl⟩;have hb4:Bw w W4:=by rw[Q];exact((((A9 _ w).alloc (Ai _) _).alloc (by simp) _).alloc (by simp;omega) _).alloc (by simp;omega) _
 have z:W4.heap.size=w.heap.size+4:=by rw[Q];simp
 have u4:W4.cell? (Ad w.heap.size 0)=some (I6 u):=by rw[Q];simp[go_sem]
 have n4:W4.cell? (Ad (w.heap.size+1) 0)=some (I6 n):=by rw[Q];simp[go_sem]
 have r4:counted W4 (w.heap.size+2) 0 0 0 0:=by rw[Q];refine⟨⟨?_,?_,?_,?_⟩,?_,?_,?_,?_⟩<;>simp[go_sem]
 have s4:W4.cell? (Ad (w.heap.size+3) 0)=some (.string (Fs q)):=by rw[Q];simp[go_sem]
 rw[←Q];clear Q
 refine ai (gf:=150) (lb:=#[.pointer (some (Ad (w.heap.size+3) 0))]) rfl (enters_of func150 (by kernel_rfl) rfl) (encs:=Qp) (λ_ _=>rfl)
  (It:=Below (w.heap.size+6)) (Kp:=KeepUp (w.heap.size+6)) (Z:=Below w.heap.size w) (S:=λxs=>xs=(scan (Fs q).data.toList).1) (Sp:=λE=>∃rest,(scan (Fs q).data.toList).1=E++rest)
  ?seq ?its (λh k=>h.trans k) (λA o=>KeepUp.putObj A (.loop o) (by rw[z];omega))
  (Py W4 w.heap.size u n q)
  (λk E W=>k=.exit 0/\Px W4 w.heap.size u n q W) ?iz ?ixz ?ii ?ib ?ix ?ixb ?h0 ?round ?done ?stop
 case seq =>
  intro W hs1 hb1;rw[z]at hs1 hb1;have:=dU (Fs q) (by omega) w HT.out (w.heap.size+3) W ((zC hb1 (w.heap.size+3) 0 (by show w.heap.size+3<_;omega)).trans s4);rw[hs1]at this;exact this
 case its=>exact λA B h=>Same2.of_below h (by rw[z];omega)
 case iz=>exact λE A h=>hb4.trans (h.1.mono (by omega))
 case ixz=>exact λk E A h=>hb4.trans (h.2.1.mono (by omega))
 case ii =>
  rintro E A B ⟨X,d,J,U,h3,h4,h5⟩ N;exact⟨X.trans (N.mono (by omega)),d,J,U,h3,JR h4 N (by omega),h5⟩
 case ib =>
  rintro E A o ⟨X,d,J,U,h3,h4,h5⟩;have N:Below (w.heap.size+5) A (A.putObj (w.heap.size+5) (.loop o)):=(Put1.putObj _ A (.loop o)).below (Ai _);rw[z];exact⟨X.trans (N.mono (by omega)),d,J,U,h3,JR h4 N (by omega),h5⟩
 case ix =>
  rintro k E A B ⟨h0,X,hs,d,J,U,h3,h4,h5⟩ N;exact⟨h0,X.trans (N.mono (by omega)),AF hs N.size,d,J,U,h3,JR h4 N (by omega),h5⟩
 case ixb =>
  rintro k E A o ⟨h0,X,hs,d,J,U,h3,h4,h5⟩;have N:Below (w.heap.size+5) A (A.putObj (w.heap.size+5) (.loop o)):=(Put1.putObj _ A (.loop o)).below (Ai _);rw[z];exact⟨h0,X.trans (N.mono (by omega)),AF hs N.size,d,J,U,h3,JR h4 N (by omega),h5⟩
 case h0=>exact λW hs N _=>by rw[z]at N;exact⟨N.mono (by omega),[],q,rfl,rfl,JR r4 N (by omega),λi hi=>absurd hi (AP _)⟩
 case round =>
  rintro l E x W ⟨hI,d,J,s,rfl,I,m⟩ hlW ⟨rest,hsp⟩;rw[z]at hlW ⊢;rw[HSC.out,AH,s,QH]at hsp;have hsp2:=List.append_cancel_left hsp;obtain ⟨r,d2,rfl,rfl⟩:∃r d2,J=r :: d2/\x=(r,(enc r).length):=by
   cases J with
   | nil=>simp[wide]at hsp2
   | cons r d2=>simp only[wide,AY,GC,List.cons.injEq]at hsp2;exact⟨r,d2,rfl,hsp2.1.symm⟩
  have HW:Hid (wide d++[(r,(enc r).length)]=wide (d++[r])):=by show _=_;rw[QH];rfl
  have HCC:Hid (q=(d++[r])++d2):=by show _=_;rw[s];simp
  have HCC0:=Aa s;have HLOW:=Aa m;have HTC:Hid (q.take d.length=d):=by show _=_;rw[s,DP rfl]
  have hzc:C1 (d++[r])<=100000000:=by have:=HZ.out;rw[HCC.out]at this;have:=Mm this;omega
  have HP1:=Aa λwx=>bG d [r] (by omega) wx;have O:=Aa λwx=>PW u d wx;rw[kL];clear hsp hsp2 s m hzc;unfold D5 at HP1 O ⊢;have HCN:=Aa I;clear I;generalize hy1:C1 d=y1 at *;generalize hy2:C2 d=y2 at *;generalize hy3:C3 d=y3 at *;generalize hy4:C4 d=y4 at *;have HY:Hid (C1 d=y1/\C2 d=y2/\C3 d=y3/\C4 d=y4):=⟨hy1,hy2,hy3,hy4⟩;clear hy1 hy2 hy3 hy4;generalize C1 [r]=u1 at *;generalize C2 [r]=u2 at *;generalize C3 [r]=u3 at *;generalize C4 [r]=u4' at *
  gi_wp2
  refine⟨(((Same2.refl _ W).alloc (by omega) _).alloc (by rw[Bb];omega) _),((KeepUp.refl _ W).alloc _).alloc _,?_⟩;intro P F _;have hww:Bw W ((W.alloc (Oc #[I6 y1,I6 y2,I6 y3,I6 y4] 118)).alloc (Oc #[I6 u1,I6 u2,I6 u3,I6 u4'] 118)):=((A9 _ W).alloc (Ai _) _).alloc (by rw[Bb];exact BX _) _;have hs20:P.heap.size=W.heap.size+2:=by rw[F.size,AN,AN]
  have hWW:Below (w.heap.size+2) W4 P:=hI.trans ((hww.mono (by omega)).trans (F.below (by omega)));have hW5:Below (w.heap.size+5) W P:=(hww.mono (by omega)).trans (F.below (by omega));have hKU:KeepUp (w.heap.size+6) W P:=⟨by omega,λk X U=>(F.block k (by omega)).trans (hww.block k U)⟩;have u20:=(zC hWW w.heap.size 0 (by show w.heap.size<_;omega)).trans u4;have n20:=(zC hWW (w.heap.size+1) 0 (by show w.heap.size+1<_;omega)).trans n4;have r20:=JR HCN.out hW5 (by omega);have a20:counted P W.heap.size y1 y2 y3 y4:=by
   have h:counted ((W.alloc (Oc #[I6 y1,I6 y2,I6 y3,I6 y4] 118)).alloc (Oc #[I6 u1,I6 u2,I6 u3,I6 u4'] 118)) W.heap.size y1 y2 y3 y4:=Hp (NT W y1 y2 y3 y4 _) (zA _ _);obtain⟨⟨h0,X,U,h3⟩,k0,k1,k2,k3⟩:=h;exact⟨⟨(F.cell (by omega)).trans h0,(F.cell (by omega)).trans X,(F.cell (by omega)).trans U,(F.cell (by omega)).trans h3⟩,(F.frozen (by omega)).trans k0,(F.frozen (by omega)).trans k1,(F.frozen (by omega)).trans k2,(F.frozen (by omega)).trans k3⟩
  have o20:counted P (W.heap.size+1) u1 u2 u3 u4':=by
   have h:counted ((W.alloc (Oc #[I6 y1,I6 y2,I6 y3,I6 y4] 118)).alloc (Oc #[I6 u1,I6 u2,I6 u3,I6 u4'] 118)) (W.heap.size+1) u1 u2 u3 u4':=by have:=NT (W.alloc (Oc #[I6 y1,I6 y2,I6 y3,I6 y4] 118)) u1 u2 u3 u4' 118;rwa[AN]at this
   obtain⟨⟨h0,X,U,h3⟩,k0,k1,k2,k3⟩:=h;exact⟨⟨(F.cell (by omega)).trans h0,(F.cell (by omega)).trans X,(F.cell (by omega)).trans U,(F.cell (by omega)).trans h3⟩,(F.frozen (by omega)).trans k0,(F.frozen (by omega)).trans k1,(F.frozen (by omega)).trans k2,(F.frozen (by omega)).trans k3⟩
  have hSize:w.heap.size+8<=P.heap.size:=by omega
  clear F hww u4 n4 r4 s4
  gi_wp2
  refine lu 5 5 (by kernel_rfl) rfl (by kernel_rfl) ?_;intro w21 H;obtain⟨G,f⟩:=Vc w21;have HR20:=Aa r20;have r21:=Hp r20 H;have u21:=(zC H w.heap.size 0 (by show w.heap.size<_;omega)).trans u20;have n21:=(zC H (w.heap.size+1) 0 (by show w.heap.size+1<_;omega)).trans n20;obtain⟨⟨f0,f1,f2,f3⟩,_⟩:=r21;have gf0:=f.cell f0;have gf1:=f.cell f1;have gf2:=f.cell f2;have gf3:=f.cell f3;have gu:=f.cell u21;have gn:=f.cell n21;clear f0 f1 f2 f3 u21 n21;generalize hYY:by_ u d=YY at *;have HYY:=Aa hYY;clear hYY
  by_cases hge:n<=YY
  all_goals
   (refine G6 f (i:=0) rfl (by kernel_rfl) (by kernel_rfl) (by kernel_rfl) (λK a=>?_);go_simp;refine a _ ?_;clear a K)
   (refine G6 f (i:=1) rfl (by kernel_rfl) (by kernel_rfl) (by kernel_rfl) (λK a=>?_);go_simp;refine a _ ?_;clear a K)
   (refine G6 f (i:=2) rfl (by kernel_rfl) (by kernel_rfl) (by kernel_rfl) (λK a=>?_);go_simp;apply Exists.intro;refine⟨λ_=>?_,a _ ?_⟩;exact O.out _;clear a K)
   (refine G6 f (i:=3) rfl (by kernel_rfl) (by kernel_rfl) (by kernel_rfl) (λK a=>?_);go_simp;refine a _ ?_;clear a K)
   (refine G6 f (i:=4) rfl (by kernel_rfl) (by kernel_rfl) (by kernel_rfl) (λK a=>?_);go_simp;refine a _ ?_;clear a K)
   clear gf0 gf1 gf2 gf3 gu gn f;refine TA (by kernel_rfl) ?_;intro w24 hb24;have C:=H.trans (hb24.mono H.size);have HBF:=Aa C;have HWW:=Aa hWW;have HSZ:=Aa hSize;have HA24:=Aa (Hp a20 C);have HO24:=Aa (Hp o20 C);have HR24:Hid (counted w24 (w.heap.size+2) y1 y2 y3 y4):=Hp HR20.out C;clear H hb24 C r20 a20 o20 u20 n20
  . gi_wp2
    have hy:=HY.out;exact⟨Same2.of_below HBF.out (by have:=HSZ.out;omega),KeepUp.of_below HBF.out,rfl,HWW.out.trans (HBF.out.mono (by have:=HSZ.out;omega)),by have:=HBF.out.size;have:=HSZ.out;omega,d,r :: d2,HCC0.out,by rw[HYY.out];exact hge,by rw[hy.1,hy.2.1,hy.2.2.1,hy.2.2.2];exact HR24.out,HLOW.out⟩
  . obtain ⟨⟨a0,a1,a2,a3⟩,_⟩:=HA24.out
    obtain⟨⟨o0,o1,o2,o3⟩,_⟩:=HO24.out;obtain⟨⟨z0,z1,z2,z3⟩,t0,t1,t2,t3⟩:=HR24.out;have HGE:Hid (YY<n):=by show YY<n;omega
    clear hge
    have hnl:∀i,i<(d++[r]).length->by_ u (q.take i)<n:=λi hi=>by
     rw[AA,DN]at hi
     rcases CQ i d.length with hlt|hge'
     . exact HLOW.out i hlt
     . obtain rfl:i=d.length:=by omega
       rw[HTC.out,HYY.out];exact HGE.out
    have HNL:=Aa hnl;clear hnl
    gi_wp2
    refine⟨trivial,rfl,?_⟩;refine(EN l (callsIn_wide.2 (HP1.out _))).mono ?_;rintro e w25 ⟨rfl,hb25⟩;have hr25:=Hp HR24.out hb25;have HR25:=Aa hr25;have hbZ:=HBF.out.trans (hb25.mono HBF.out.size);have HBZ:=Aa hbZ;clear a0 a1 a2 a3 o0 o1 o2 o3 z0 z1 z2 z3 t0 t1 t2 t3 hb25 hbZ;obtain⟨⟨z0,z1,z2,z3⟩,t0,t1,t2,t3⟩:=hr25;generalize hX1:C1 (d++[r])=X1 at *;generalize hX2:C2 (d++[r])=X2 at *;generalize hX3:C3 (d++[r])=X3 at *;generalize hX4:C4 (d++[r])=X4 at *;have HX:Hid (C1 (d++[r])=X1/\C2 (d++[r])=X2/\C3 (d++[r])=X3/\C4 (d++[r])=X4):=⟨hX1,hX2,hX3,hX4⟩;clear hX1 hX2 hX3 hX4
    gi_wp2
    have hx:=HX.out;have hkk:KeepUp (w.heap.size+6) P w25:=KeepUp.of_below HBZ.out;have hszz:=HSZ.out
    refine ⟨((((Same2.of_below HBZ.out (by omega)).setCell (by show w.heap.size+2≠_;omega) (by show w.heap.size+2≠_;omega) _).setCell (by show w.heap.size+2≠_;omega) (by show w.heap.size+2≠_;omega) _).setCell (by show w.heap.size+2≠_;omega) (by show w.heap.size+2≠_;omega) _).setCell (by show w.heap.size+2≠_;omega) (by show w.heap.size+2≠_;omega) _,
     (((hkk.setCell (by show w.heap.size+2<_;omega) _).setCell (by show w.heap.size+2<_;omega) _).setCell (by show w.heap.size+2<_;omega) _).setCell (by show w.heap.size+2<_;omega) _,?_,d++[r],d2,HCC.out,HW.out,?_,HNL.out⟩
    . exact Ux (HWW.out.trans (HBZ.out.mono (by omega))) (by omega) _ _ _ _
    . rw[hx.1,hx.2.1,hx.2.2.1,hx.2.2.2]
      exact QI HR25.out
 case done =>
  rintro xs W rfl ⟨hI,d,J,s,hx,I,m⟩ t;rw[z]at t ⊢;have hc2:J=[]:=by
   rw[HSC.out]at hx;have:=congrArg List.length hx;rw[s]at this;simp only[wide,BS,AA]at this;exact List.length_eq_zero_iff.1 (by omega)
  have hsW:w.heap.size+5<=W.heap.size:=by
   rcases CQ (w.heap.size+4) W.heap.size with h|h
   . omega
   . rw[EU h]at t;cases t
  have HFN:Hid _:=FIN.out d J s (.inr hc2) m;clear hx hc2;have hu5:=(zC hI w.heap.size 0 (by show w.heap.size<_;omega)).trans u4;have hn5:=(zC hI (w.heap.size+1) 0 (by show w.heap.size+1<_;omega)).trans n4;have hs5:=hI.size;rw[z]at hs5;have hbW:Bw w W:=hb4.trans (hI.mono (by omega));have O:=Aa λwx=>PW u d wx;unfold D5 at O;clear hI u4 n4 r4 s4 s m;generalize C1 d=y1 at *;generalize C2 d=y2 at *;generalize C3 d=y3 at *;generalize C4 d=y4 at *
  gi_wp2
  refine wpIn_wide.2 ?_;refine aN 9 9 (by kernel_rfl) rfl ?_;intro w41 j;obtain⟨G,f⟩:=Vc w41;obtain⟨⟨f0,f1,f2,f3⟩,_⟩:=Hp I j;have u41:=(zC j w.heap.size 0 (by show w.heap.size<_;omega)).trans hu5;have n41:=(zC j (w.heap.size+1) 0 (by show w.heap.size+1<_;omega)).trans hn5;have gf0:=f.cell f0;have gf1:=f.cell f1;have gf2:=f.cell f2;have gf3:=f.cell f3;have gu:=f.cell u41;have gn:=f.cell n41;clear f0 f1 f2 f3 u41 n41 hu5 hn5
  (refine G6 f (i:=0) rfl (by kernel_rfl) (by kernel_rfl) (by kernel_rfl) (λK a=>?_);go_simp;refine a _ ?_;clear a K)
  (refine G6 f (i:=1) rfl (by kernel_rfl) (by kernel_rfl) (by kernel_rfl) (λK a=>?_);go_simp;refine a _ ?_;clear a K)
  (refine G6 f (i:=2) rfl (by kernel_rfl) (by kernel_rfl) (by kernel_rfl) (λK a=>?_);go_simp;refine a _ ?_;clear a K)
  (refine G6 f (i:=3) rfl (by kernel_rfl) (by kernel_rfl) (by kernel_rfl) (λK a=>?_);go_simp;refine a _ ?_;clear a K)
  (refine G6 f (i:=4) rfl (by kernel_rfl) (by kernel_rfl) (by kernel_rfl) (λK a=>?_);go_simp;apply Exists.intro;refine⟨λ_=>?_,a _ ?_⟩;exact O.out _;clear a K)
  (refine G6 f (i:=5) rfl (by kernel_rfl) (by kernel_rfl) (by kernel_rfl) (λK a=>?_);go_simp;refine a _ ?_;clear a K)
  (refine G6 f (i:=6) rfl (by kernel_rfl) (by kernel_rfl) (by kernel_rfl) (λK a=>?_);go_simp;refine a _ ?_;clear a K)
  (refine G6 f (i:=7) rfl (by kernel_rfl) (by kernel_rfl) (by kernel_rfl) (λK a=>?_);go_simp;refine a _ ?_;clear a K)
  (refine G6 f (i:=8) rfl (by kernel_rfl) (by kernel_rfl) (by kernel_rfl) (λK a=>?_);go_simp;refine a _ ?_;clear a K)
  clear gf0 gf1 gf2 gf3 gu gn f;refine TA (by kernel_rfl) ?_;intro w44 hb44;have C:=j.trans (hb44.mono j.size)
  gi_wp2
  have Y:w44.heap[w.heap.size+4]?=some (.deferred (some [])):=(C.block _ (by omega)).trans t;have hP:=Put1.putObj (w.heap.size+4) w44 (.deferred none);have hFin:Bw w (w44.putObj (w.heap.size+4) (.deferred none)):=(hbW.trans (C.mono hbW.size)).trans (hP.below (by omega));refine⟨by simp,.inl ⟨_,_,rfl,run_takeDeferred Y,?_⟩⟩;refine⟨.tuple #[I6 y1,.bool (by_ u d==n)],by simp[results,results70,go_sem],?_,hFin⟩;have hf:=HFN.out;rw[hf.1,hf.2];rfl
 case stop =>
  rintro k E W hsp ⟨rfl,hI,hsW,d,J,s,hge,I,m⟩ t;rw[z]at t ⊢;have HFN:Hid _:=FIN.out d J s (.inl hge) m;clear hge;have hu5:=(zC hI w.heap.size 0 (by show w.heap.size<_;omega)).trans u4;have hn5:=(zC hI (w.heap.size+1) 0 (by show w.heap.size+1<_;omega)).trans n4;have hs5:=hI.size;rw[z]at hs5;have hbW:Bw w W:=hb4.trans (hI.mono (by omega));have O:=Aa λwx=>PW u d wx;unfold D5 at O;clear hI u4 n4 r4 s4 s m;generalize C1 d=y1 at *;generalize C2 d=y2 at *;generalize C3 d=y3 at *;generalize C4 d=y4 at *
  gi_wp2
  refine wpIn_wide.2 ?_;refine aN 9 9 (by kernel_rfl) rfl ?_;intro w41 j;obtain⟨G,f⟩:=Vc w41;obtain⟨⟨f0,f1,f2,f3⟩,_⟩:=Hp I j;have u41:=(zC j w.heap.size 0 (by show w.heap.size<_;omega)).trans hu5;have n41:=(zC j (w.heap.size+1) 0 (by show w.heap.size+1<_;omega)).trans hn5;have gf0:=f.cell f0;have gf1:=f.cell f1;have gf2:=f.cell f2;have gf3:=f.cell f3;have gu:=f.cell u41;have gn:=f.cell n41;clear f0 f1 f2 f3 u41 n41 hu5 hn5
  (refine G6 f (i:=0) rfl (by kernel_rfl) (by kernel_rfl) (by kernel_rfl) (λK a=>?_);go_simp;refine a _ ?_;clear a K)
  (refine G6 f (i:=1) rfl (by kernel_rfl) (by kernel_rfl) (by kernel_rfl) (λK a=>?_);go_simp;refine a _ ?_;clear a K)
  (refine G6 f (i:=2) rfl (by kernel_rfl) (by kernel_rfl) (by kernel_rfl) (λK a=>?_);go_simp;refine a _ ?_;clear a K)
  (refine G6 f (i:=3) rfl (by kernel_rfl) (by kernel_rfl) (by kernel_rfl) (λK a=>?_);go_simp;refine a _ ?_;clear a K)
  (refine G6 f (i:=4) rfl (by kernel_rfl) (by kernel_rfl) (by kernel_rfl) (λK a=>?_);go_simp;apply Exists.intro;refine⟨λ_=>?_,a _ ?_⟩;exact O.out _;clear a K)
  (refine G6 f (i:=5) rfl (by kernel_rfl) (by kernel_rfl) (by kernel_rfl) (λK a=>?_);go_simp;refine a _ ?_;clear a K)
  (refine G6 f (i:=6) rfl (by kernel_rfl) (by kernel_rfl) (by kernel_rfl) (λK a=>?_);go_simp;refine a _ ?_;clear a K)
  (refine G6 f (i:=7) rfl (by kernel_rfl) (by kernel_rfl) (by kernel_rfl) (λK a=>?_);go_simp;refine a _ ?_;clear a K)
  (refine G6 f (i:=8) rfl (by kernel_rfl) (by kernel_rfl) (by kernel_rfl) (λK a=>?_);go_simp;refine a _ ?_;clear a K)
  clear gf0 gf1 gf2 gf3 gu gn f;refine TA (by kernel_rfl) ?_;intro w44 hb44;have C:=j.trans (hb44.mono j.size)
  gi_wp2
  have Y:w44.heap[w.heap.size+4]?=some (.deferred (some [])):=(C.block _ (by omega)).trans t;have hP:=Put1.putObj (w.heap.size+4) w44 (.deferred none);have hFin:Bw w (w44.putObj (w.heap.size+4) (.deferred none)):=(hbW.trans (C.mono hbW.size)).trans (hP.below (by omega));refine⟨by simp,.inl ⟨_,_,rfl,run_takeDeferred Y,?_⟩⟩;refine⟨.tuple #[I6 y1,.bool (by_ u d==n)],by simp[results,results70,go_sem],?_,hFin⟩;have hf:=HFN.out;rw[hf.1,hf.2];rfl
end
end Go.Proofs.YtkcpjanmemdjlaaGreatDoor
