/-
  A part of the texts that the proof uses.
-/
import Derived.Test.YtkcpjanmemdjlaaGreatDoorPartJ
set_option maxRecDepth 100000
set_option maxHeartbeats 40000000
set_option linter.all false
namespace Go.Proofs.YtkcpjanmemdjlaaGreatDoor
open Go.Proofs.Tryz Go.RowKit Go.Maps
section
attribute [local go_sem] Oper.semAt_some
theorem kV(v1 v2:Value)(a b:List Pt)(w:World)(h1:Ae w v1 a)(h2:Ae w v2 b)(w1:∀p∈a,Cp p)(w2:∀p∈b,Cp p)(s1:∀p∈a,p.put.length<100000000)(s2:∀p∈b,p.put.length<100000000)(f1:Bs a)(f2:Bs b)(he:Dy a b=0)(hl:(Be b).1=(Be a).2)(n:Nat)(hn:Ak a=n) :
    Cg 48 #[v1,v2] w λe w'=>∃v',e=.returned (.tuple #[v',I6 0])/\opN w.heap.size w' v' (JA (Dk n (Bz (Ax 0 a) b) [] 0))/\Bw w w':=by
 have cB:Hid _:=QG v1 v2 a b w h1 h2 w1 w2 s1 s2 f1.len f2.len;rw[he]at cB;have cL1:=Aa λwx (hb:Bw w wx)=>Ki v1 a wx (E5 h1 hb) f1.len;have cL2:=Aa λwx (hb:Bw w wx)=>Ki v2 b wx (E5 h2 hb) f2.len;have F1:=Aa f1;have F2:=Aa f2;have HA1:=Aa ((Hm f1).1.trans hn);have HN:=Aa hn;have HLE:=Aa hl;rw[hl]at cL2;generalize (Be a).1=N1 at *;have hN1: -9223372036854775808<=N1:=by have:=HA1.out;omega
 have hn9:n<3000000:=by
  have e1:=(Mg a (Da f1.one) (by have:=f1.w;omega)).2.2.1;rw[JE]at e1;have e2:=JL a (Da f1.one);unfold Hb at e2;have e3:=f1.w;omega
 obtain⟨A2,hA2⟩:∃A,(Be a).2=A:=⟨_,rfl⟩;obtain⟨B2,hB2⟩:∃A,(Be b).2=A:=⟨_,rfl⟩;rw[hA2]at cL1 cL2;rw[hB2]at cL2;clear hA2 hB2;obtain⟨p1,c1,rfl,ha1,ha2,ha3⟩:=h1;obtain⟨p2,c2,rfl,hb1',hb2',hb3'⟩:=h2;have R1:=Aa ha3;have R2:=Aa hb3';obtain⟨la,hla⟩:∃la,a.length=la:=⟨_,rfl⟩;obtain⟨lb,hlb⟩:∃lb,b.length=lb:=⟨_,rfl⟩;have HLA:=Aa hla;have HLB:=Aa hlb;have hla9:la<10000000:=by have:=f1.len;omega
 have hlb9:lb<10000000:=by have:=f2.len;omega
 rw[hla]at cB cL1 ⊢;rw[hlb]at cB cL2 ⊢;clear w1 w2 s1 s2 f1 f2 he hl ha3 hb3' hla hlb hn
 go_enter func48,ntmps48
 go_wp2_with (first
  | (have _:=HB2;go_at_call 83;refine(cL2.out _ HB2.out).mono ?_;rintro e w3 ⟨rfl,hb3⟩;have HB3:=Aa (HB2.out.trans (hb3.mono HB2.out.size));clear hb3)
  | (have _:=HB1;go_at_call 83;refine(cL1.out _ HB1.out).mono ?_;rintro e w2 ⟨rfl,hb2⟩;have HB2:=Aa (HB1.out.trans (hb2.mono HB1.out.size));clear hb2)
  | (go_at_call 82;refine AC cB.out ?_;rintro e w1 ⟨rfl,hb1⟩;have HB1:=Aa hb1;clear hb1))
 have N:PG w3 w3.heap.size a la (.slice none 0 0) (I6 0) (I6 0) w3:=⟨0,rfl,by rw[DC];exact HLA.out.symm,rfl,BL _ _ _ _,.refl _ _⟩;have Z:=Aa N;clear N HB1 HB2 cB cL1 cL2
 go_loopg [11,12,46] la (λk u11 u12 u46 wr=>PG w3 w3.heap.size a k u11 u12 u46 wr)
 case atStart=>exact Z.out
 case round =>
  obtain⟨j,rfl,hjk,rfl,m,C⟩:=hrel;have HBW:=Aa C;have HOW:=Aa m;have hws:w3.heap.size<=wr.heap.size:=C.size;clear Z
  by_cases hj:j<la
  . have hja : j<a.length:=by rw[HLA.out];exact hj
    have hne:a≠[]:=by intro e;rw[e]at hja;exact absurd hja (AP _)
    obtain⟨b0,o,rfl,hb0,X⟩:=R1.out hne;obtain⟨c0,c1',c2'⟩:=X j a[j] (B7 hja);have hbb:=HB3.out.trans (HBW.out.mono HB3.out.size);have g0:=(zC hbb b0 (o+j*3) hb0).trans c0;have g1:=(zC hbb b0 (o+j*3+1) hb0).trans c1';have g2:=(zC hbb b0 (o+j*3+2) hb0).trans c2';have hone:=F1.out.one a[j] (BE _);have hso:=Da F1.out.one a[j] (BE _);have hts:a.take (j+1)=a.take j++[a[j]]:=AD hja;have hlong:Ak (a.take (j+1))<=n:=by
     have e:=HN.out;have e2:Ak a=Ak (a.take (j+1))+Ak (a.drop (j+1)):=by rw[←JT,AW]
     have e3:=OW (a.drop (j+1)) λq hq=>Da F1.out.one q (DJ hq);omega
    have hlong0:=OW (a.take j) λq hq=>Da F1.out.one q (BZ hq);have Y:=WH (a.take j) a[j] 0;rw[←hts,EY]at Y;have hln:=Xk (a.take j) a[j];rw[←hts]at hln;have hML:=T8 F1.out j;have hML1:=T8 F1.out (j+1);generalize a[j]=q at *;obtain⟨K,D,U⟩:=q;obtain⟨hK0,hD0⟩:=hso;simp only at g0 g1 g2 hK0 hD0 Y hln;obtain⟨M,hM⟩:∃M,Ax 0 (a.take j)=M:=⟨_,rfl⟩;obtain⟨M1,hM1⟩:∃M1,Ax 0 (a.take (j+1))=M1:=⟨_,rfl⟩;obtain⟨A0,hA0⟩:∃A0,Ak (a.take j)=A0:=⟨_,rfl⟩;obtain⟨A1,hA1'⟩:∃A1,Ak (a.take (j+1))=A1:=⟨_,rfl⟩;rw[hM,hM1,hA0]at Y;rw[hA0,hA1']at hln;rw[hA0]at hlong0 ⊢;rw[hA1']at hlong;rw[hM]at HOW hML;rw[hM1]at hML1;obtain⟨y,rfl⟩:∃y:Nat,K=(y:Int):=⟨K.toNat,by omega⟩;rw[EC]at Y;have hlenM:M1.length=M.length+(y+U.length):=by rw[Y,AA,AA,NL,Ma]
    have HM1:=Aa hM1;have HMID:=Aa Y;have HA1:=Aa hA1';have HLN:=Aa hln;obtain⟨k,rfl⟩:∃k,gk=k+1:=⟨gk - 1,by have:=HLA.out;omega⟩;have HJK:=Aa hjk;have hMs:M.length+y+U.length<3000000:=by omega
    have hAs:A0+y+D<3000000:=by omega
    have hjla:(j:Int)<(la:Int):=by omega
    have hj9:(j:Int)<10000000:=by omega
    have hUz:(ByteArray.mk U.toArray).size=U.length:=by simp[ByteArray.size]
    clear X c0 c1' c2' hbb hone hts hM hM1 hA0 hA1' hjk m C Y hln hML hML1 hlong hlenM hne hja;go_wp2;obtain⟨W1,hW1⟩:∃W1,wr.alloc (Oc #[I6 (y:Int),I6 D,Sx U] 87)=W1:=⟨_,rfl⟩;rw[hW1];obtain⟨β,hβ⟩:∃β,wr.heap.size=β:=⟨_,rfl⟩;rw[hβ];have hstK:PC w3 w3.heap.size M A0 y β (Oc #[I6 (y:Int),I6 D,Sx U] 87) y u11 (I6 A0) (I6 0) W1:=by
     rw[←hW1,←hβ];refine⟨0,rfl,by omega,by simp,?_,HBW.out.alloc HBW.out.size _,heap_alloc_new _ _⟩;simpa[Dt] using HOW.out.alloc _
    have HSTK:=Aa hstK;clear hstK HBW HOW hW1 hβ hws g0 g1 g2
    go_loopg [11,12,52] y (λk u11 u12 u52 wx=>PC w3 w3.heap.size M A0 y β (Oc #[.int .i64 (y:Int),.int .i64 D,Sx U] 87) k u11 u12 u52 wx)
    case atStart=>exact HSTK.out
    case round =>
     obtain⟨t,rfl,htk,rfl,m,C,v⟩:=hrel;clear HSTK;obtain⟨L,hL⟩:∃L,M++Dt A0 t=L:=⟨_,rfl⟩;have hLl:L.length=M.length+t:=by rw[←hL,AA,NL]
     have HL:=Aa hL;rw[hL]at m;obtain⟨pm,cm,rfl⟩:=Bm m;have B:=Aa m;have I:=Aa C;have J:=Aa v;have hwsx:=C.size;have hLs:L.length<3000000:=by omega
     have hts':t<=y:=by omega
     clear hL m C v
     by_cases ht:t<y
     . obtain ⟨kK,rfl⟩:∃kK,gk=kK+1:=⟨gk - 1,by omega⟩
       have HTK:=Aa htk;have ht':(t:Int)<(y:Int):=by omega
       have HLL:=Aa hLl;obtain⟨i0,W,hz0,hz1,hz2⟩:=info_parts TN;clear htk hLl ht
       go_wp2_with (at_builtin;refine wpList_append_own _ rfl _ _ 159 rfl w3.heap.size 161 i0 (.agg #[I6 0,.int .u8 0]) 2 16 underlying159 W hz0 hz1 hz2 rfl (by decide) _ _ _ rfl (B.out.alloc _) (Ad wr.heap.size 0) 1 1 (Nu (A0+t,0)) rfl rfl (He _ _ _) (SF _) (by unfold maxLen;omega) (by omega) (by first | omega | (simp;omega)) ?_)
       intro v' w' l F _;obtain⟨p',c',rfl⟩:=Bm l;have HB':Hid (w'.heap[β]?=some (Oc #[I6 (y:Int),I6 D,Sx U] 87)):=QB ((heap_alloc_old _ _ (Cn J.out)).trans J.out) (B.out.alloc _) F (by intro c fz e;cases e);have Q:Hid (Bw w3 w'):=(I.out.alloc I.out.size _).grown F (by rw[Bb];omega) λk hk=>(B.out.lt k hk).1;have HO':=Aa l;clear l F;go_wp2
       go_roundg kK
       case measure=>omega
       case rel =>
        have e1:M++Dt A0 (t+1)=L++[(A0+t,0)]:=by rw[fN,←HL.out,AH]
        refine⟨t+1,by go_num,by have:=HTK.out;omega,by go_num,?_,Q.out,HB'.out⟩;rw[e1,OY,AA];exact HO'.out
     . obtain rfl:t=y:=by omega
       obtain rfl:gk=0:=by omega
       have x2:=cQ J.out 2 rfl;have hlt':¬(t:Int)<(t:Int):=by omega
       have HLL:=Aa hLl;clear htk hLl ht hts';go_wp2;have hstU:Lz w3 w3.heap.size L U β (Oc #[I6 (t:Int),I6 D,Sx U] 87) U.length (.slice pm L.length cm) (I6 0) wr:=⟨0,rfl,by omega,by simpa[Bl] using B.out,I.out,J.out⟩;have HSTU:=Aa hstU;clear hstU J B I
       go_loopg [11,65] U.length (λk u11 u65 wx=>Lz w3 w3.heap.size L U β (Oc #[.int .i64 (t:Int),.int .i64 D,Sx U] 87) k u11 u65 wx)
       case atStart=>exact HSTU.out
       case round =>
        obtain⟨x,rfl,hxk,m,C,v⟩:=hrel;clear HSTU;obtain⟨L2,hL2⟩:∃L2,L++Bl (U.take x)=L2:=⟨_,rfl⟩;have hLl2:L2.length=L.length+x:=by rw[←hL2,AA,Ma,AO];omega
        have HL2:=Aa hL2;rw[hL2]at m;obtain⟨pm2,cm2,rfl⟩:=Bm m;have B:=Aa m;have I:=Aa C;have J:=Aa v;have y0:=cQ J.out 0 rfl;have y1:=cQ J.out 1 rfl;have y2:=cQ J.out 2 rfl;have hwsx2:=C.size;have hLs2:L2.length<3000000:=by have:=HLL.out;omega
        clear hL2 m C v
        by_cases P:x<U.length
        . obtain ⟨kU,rfl⟩:∃kU,gk=kU+1:=⟨gk - 1,by omega⟩
          have HXK:=Aa hxk;have hx':(x:Int)<(U.length:Int):=by omega
          have HX:=Aa P;obtain⟨i0,W,hz0,hz1,hz2⟩:=info_parts TN;clear hxk hLl2 P
          go_wp2_with (at_builtin;refine wpList_append_own _ rfl _ _ 159 rfl w3.heap.size 161 i0 (.agg #[I6 0,.int .u8 0]) 2 16 underlying159 W hz0 hz1 hz2 rfl (by decide) _ _ _ rfl (B.out.alloc _) (Ad wr.heap.size 0) 1 1 (Nu (-1,U[x]'HX.out)) rfl rfl (He _ _ _) (SF _) (by unfold maxLen;omega) (by omega) (by first | omega | (simp;omega)) ?_)
          intro v' w' l F _;obtain⟨p',c',rfl⟩:=Bm l;have HB':Hid (w'.heap[β]?=some (Oc #[I6 (t:Int),I6 D,Sx U] 87)):=QB ((heap_alloc_old _ _ (Cn J.out)).trans J.out) (B.out.alloc _) F (by intro c fz e;cases e);have Q:Hid (Bw w3 w'):=(I.out.alloc I.out.size _).grown F (by rw[Bb];omega) λk hk=>(B.out.lt k hk).1;have HO':=Aa l;clear l F;go_wp2
          go_roundg kU
          case measure=>omega
          case rel =>
           have e1:L++Bl (U.take (x+1))=L2++[(-1,U[x]'HX.out)]:=by rw[Xw U x HX.out,←HL2.out,AH]
           refine⟨x+1,by go_num,by have:=HXK.out;omega,?_,Q.out,HB'.out⟩;rw[e1,OY,AA];exact HO'.out
        . obtain rfl:x=U.length:=by omega
          obtain rfl:gk=0:=by omega
          have hlt2:¬(U.length:Int)<(U.length:Int):=by omega
          clear hxk hLl2 P;go_wp2
          go_roundg k
          case measure=>omega
          case rel =>
           have e1:M1=L2:=by rw[HMID.out,←HL2.out,←HL.out,BV,AH]
           refine⟨j+1,by go_num,by have:=HJK.out;omega,?_,?_,I.out⟩
           . rw[HA1.out,HLN.out];go_num
           . rw[HM1.out,e1];exact B.out
  . obtain rfl : j = la := by have:=HLA.out;omega
    obtain rfl:gk=0:=by have:=HLA.out;omega
    have eT:a.take j=a:=AQ (by rw[HLA.out];exact Ai _);have hmlen:=Rl a 0 λq hq=>(Da F1.out.one q hq).1;obtain⟨M,hM⟩:∃M,Ax 0 a=M:=⟨_,rfl⟩;have HME:=Aa hM;rw[eT,hM]at HOW;rw[hM]at hmlen;have hLM:Ak b=(M.length:Int):=by rw[hmlen,←(Hm F1.out).2,←HLE.out];exact(Hm F2.out).1.symm
    have HLM:=Aa hLM;have hMs:M.length<2000000:=by rw[←hM];have:=T8 F1.out a.length;rwa[BV]at this
    rw[eT,HN.out];have how:=HOW.out;obtain⟨pm,cm,rfl⟩:=Bm how;have HOM:=Aa how
    have hcm:M.length<=cm/\cm<=maxLen:=by
     rcases how.2 with ⟨P,h0⟩|⟨g,cap,cur,P,_,_,h4,h5,_⟩
     . simp only[Value.slice.injEq]at P
       omega
     . simp only[Value.slice.injEq,true_and]at P
       obtain⟨_,rfl⟩:=P;exact⟨h4,h5⟩
    have hMp:pm=none->M=[]/\cm=0:=by
     intro e
     rcases how.2 with ⟨P,h0⟩|⟨g,cap,cur,P,_,_,h4,h5,_⟩
     . simp only[Value.slice.injEq]at P
       exact⟨BC h0,P.2.2⟩
     . simp only[Value.slice.injEq,true_and]at P
       rw[e]at P;cases P.1
    have hMg:∀ad,pm=some ad->∃gm,ad=(Ad gm 0)/\gm<wr.heap.size/\∀(i:Nat) u,(Gk M)[i]?=some u->wr.cell? (Ad gm i)=some u:=by
     intro ad e
     rcases how.2 with ⟨P,h0⟩|⟨g,cap,cur,P,_,hgg,h4,h5,_⟩
     . simp only[Value.slice.injEq]at P
       rw[e]at P;cases P.1
     . simp only[Value.slice.injEq,true_and]at P
       rw[e]at P;obtain⟨hx1,rfl⟩:=P;obtain rfl:=Bq hx1;subst e;refine⟨g,rfl,Cn hgg,λi u W=>?_⟩;have hlt:=(De W);rw[Uy]at hlt;rw[how.cellAt i hlt];exact W
    have HMp:=Aa hMp;have HMg:=Aa hMg;obtain⟨hcm1,hcm2⟩:=hcm;unfold maxLen at hcm2;have hjl:¬(j:Int)<(j:Int):=by omega
    clear hj hjk m C how hMp hMg eT hM hmlen hLM;go_wp2;obtain⟨S,hNB⟩:∃S,wr.heap.size=S:=⟨_,rfl⟩;have HNB:=Aa hNB;have hstE:PE wr S M b lb (.slice none 0 0) (I6 0) (I6 0) wr:=⟨0,rfl,by rw[DC];exact HLB.out.symm,rfl,BL _ _ _ _,.refl _ _⟩;obtain⟨W2,hW2⟩:∃W2,wr=W2:=⟨_,rfl⟩;rw[hW2]at hstE HBW HOM HMg HNB hws ⊢;have HSTE:=Aa hstE;clear hstE HOW hNB hW2
    go_loopg [12,16,84] lb (λk u12 u16 u84 wx=>PE W2 S M b k u16 u12 u84 wx)
    case atStart=>exact HSTE.out
    case round =>
     obtain⟨x,rfl,hxk,rfl,m,C⟩:=hrel;obtain⟨E,hE⟩:∃E,Bz M (b.take x)=E:=⟨_,rfl⟩;rw[hE]at m;have hEs:E.length<2000000:=by rw[←hE];exact XL F2.out M x
     obtain⟨pe,cee,rfl⟩:=Bm m;have B:=Aa m;have I:=Aa C;have hNB:S<=wr.heap.size:=by rw[←HNB.out];exact C.size
     have HE:=Aa hE;clear HSTE m C
     by_cases P:x<lb
     . have hxb : x<b.length:=by rw[HLB.out];exact P
       have hne:b≠[]:=by intro e;rw[e]at hxb;exact absurd hxb (AP _)
       obtain⟨b0,o,rfl,hb0,X⟩:=R2.out hne;obtain⟨c0,c1',c2'⟩:=X x b[x] (B7 hxb);have hbW:=HB3.out.trans (HBW.out.mono HB3.out.size);have hbb:=hbW.trans (I.out.mono (show w.heap.size<=S by rw[←HNB.out];exact hbW.size));have g0:=(zC hbb b0 (o+x*3) hb0).trans c0;have g1:=(zC hbb b0 (o+x*3+1) hb0).trans c1';have g2:=(zC hbb b0 (o+x*3+2) hb0).trans c2';have hso:=Da F2.out.one b[x] (BE _);have hts:b.take (x+1)=b.take x++[b[x]]:=AD hxb;have hlong:Ak (b.take (x+1))<=(M.length:Int):=by
        have e:=HLM.out;have e2:Ak b=Ak (b.take (x+1))+Ak (b.drop (x+1)):=by rw[←JT,AW]
        have e3:=OW (b.drop (x+1)) λq hq=>Da F2.out.one q (DJ hq);omega
       have hlong0:=OW (b.take x) λq hq=>Da F2.out.one q (BZ hq);have hend:=Wv (b.take x) b[x] M λq hq=>Da F2.out.one q (BZ hq);rw[←hts,hE]at hend;have hln:=Xk (b.take x) b[x];rw[←hts]at hln;have hES1:=XL F2.out M (x+1);generalize b[x]=q at *;obtain⟨K,D,U⟩:=q;obtain⟨hK0,hD0⟩:=hso;simp only at g0 g1 g2 hK0 hD0 hend hln;obtain⟨y,rfl⟩:∃y:Nat,K=(y:Int):=⟨K.toNat,by omega⟩;obtain⟨An,hAn⟩:∃An:Nat,Ak (b.take x)=(An:Int):=⟨(Ak (b.take x)).toNat,by omega⟩;rw[hAn]at hend hln ⊢;rw[EC,EC]at hend;have hAK:An+y<=M.length:=by omega
       have hAD:(An:Int)+y+D<=(M.length:Int):=by omega
       obtain⟨E1,hE1⟩:∃E1,E++(M.drop An).take y=E1:=⟨_,rfl⟩;have hE1l:E1.length=E.length+y:=by rw[←hE1,AA,AO,AM];omega
       have HEND:Hid (Bz M (b.take (x+1))=E1++Bl U):=show Bz M (b.take (x+1))=E1++Bl U by rw[hend,←AH,hE1]
       have hE1s:E1.length+U.length<2000000:=by rw[HEND.out,AA,Ma]at hES1;omega
       have HLN:=Aa hln;have HE1:=Aa hE1;have HE1l:=Aa hE1l;obtain⟨k,rfl⟩:∃k,gk=k+1:=⟨gk - 1,by have:=HLB.out;omega⟩;have HXK:=Aa hxk;have hxlb:(x:Int)<(lb:Int):=by omega
       have hx9:(x:Int)<10000000:=by omega
       have hUz:(ByteArray.mk U.toArray).size=U.length:=by simp[ByteArray.size]
       have hq0:(0:Int)<=(An:Int):=by omega
       have hq1:(An:Int)<=(An:Int)+(y:Int):=by omega
       have hq2:(An:Int)+(y:Int)<=(cm:Int):=by omega
       have hq3:(An:Int)+(y:Int)<3000000:=by omega
       have hT1:((An:Int)+(y:Int)).toNat=An+y:=by omega
       have hT2:An+y - An=y:=by omega
       clear X c0 c1' c2' hbW hbb hts hE hend hln hES1 hlong hE1 hE1l hne hxb hxk hlong0 hAn;obtain⟨i0,W,hz0,hz1,hz2⟩:=info_parts TN
       go_upto_region 30 with fail
       go_cut [16] from 85 to 119 (λu16 wc=>wc.ownsRow S 161 2 u16 E1.length (Gk E1)/\Below S W2 wc/\wc.heap[wr.heap.size]?=some (Oc #[I6 (y:Int),I6 D,Sx U] 87))
       case first =>
        by_cases hpm:pm=none
        . obtain ⟨hM0,hcm0⟩:=HMp.out hpm
          subst hpm hM0 hcm0;simp only[AR]at hAK hAD;obtain rfl:An=0:=by omega
          obtain rfl:y=0:=by omega
          have hEE:E1=E:=by rw[←HE1.out];simp
          have HEE:=Aa hEE;clear hEE hAK hAD
          go_wp2_with (at_builtin;refine wpList_append_own_none rfl _ _ 159 rfl S 161 i0 2 underlying159 W _ _ _ rfl (B.out.alloc _) rfl ?_)
          go_meet
          case rel =>
           refine⟨?_,I.out.alloc hNB _,heap_alloc_new _ _⟩;rw[HEE.out];exact B.out.alloc _
        . obtain ⟨ad,rfl⟩:∃ad,pm=some ad:=by
            cases pm with
            | none=>exact absurd rfl hpm
            | some ad=>exact⟨ad,rfl⟩
          obtain⟨gm,rfl,hgm,hcells⟩:=HMg.out ad rfl;have HCL:Hid (∀(i:Nat) u,(Gk M)[i]?=some u->(wr.alloc (Oc #[I6 (y:Int),I6 D,Sx U] 87)).cell? (Ad gm i)=some u):=λi u W=>by
           have hlt:gm<S:=by rw[←HNB.out];exact hgm
           exact(AE (w:=wr) (a:=(Ad gm i)) (heap_alloc_old _ _ (by show gm<wr.heap.size;omega))).trans ((zC I.out gm i hlt).trans (hcells i u W))
          clear hcells hpm
          by_cases hc:cm=An
          . subst hc
            have hK0':y=0:=by omega
            have HK0:=Aa hK0';have HEE:Hid (E1=E):=show E1=E by rw[←HE1.out,hK0'];simp
            clear hK0'
            go_wp2_with (at_builtin;refine wpList_append_own _ rfl _ _ 159 rfl S 161 i0 (.agg #[I6 0,.int .u8 0]) 2 16 underlying159 W hz0 hz1 hz2 rfl (by decide) _ _ _ rfl (B.out.alloc _) (Ad gm 0) y _ [] rfl (by rw[HK0.out];rfl) (λj u hj=>by cases hj) (λu hu=>by cases hu) (by unfold maxLen;omega) (by omega) (by first | omega | (simp;omega)) ?_)
            intro v' w' l F _;obtain⟨p',c',rfl⟩:=Bm l;have HB':Hid (w'.heap[wr.heap.size]?=some (Oc #[I6 (y:Int),I6 D,Sx U] 87)):=QB (heap_alloc_new _ _) (B.out.alloc _) F (by intro c fz e;cases e);have Q:Hid (Below S W2 w'):=(I.out.alloc hNB _).grown F (by rw[Bb];omega) λk hk=>(B.out.lt k hk).1;have HO':=Aa l;clear l F;go_wp2
            go_meet
            case rel =>
             refine⟨?_,Q.out,HB'.out⟩;have e:Gk E1=Gk E:=by rw[HEE.out]
             rw[HE1l.out,e];exact HO'.out
          . go_wp2_with (at_builtin;refine wpList_append_own _ rfl _ _ 159 rfl S 161 i0 (.agg #[I6 0,.int .u8 0]) 2 16 underlying159 W hz0 hz1 hz2 rfl (by decide) _ _ _ rfl (B.out.alloc _) (Ad gm (An*2)) y _ (Gk ((M.drop An).take y)) rfl (by rw[Uy,AO,AM];congr 1;omega) (λj u hj=>by rw[DG];exact HCL.out _ u (kv M An y j u hj)) (gM _) (by unfold maxLen;omega) (by omega) (by first | omega | (simp;omega)) ?_)
            intro v' w' l F _;obtain⟨p',c',rfl⟩:=Bm l;have HB':Hid (w'.heap[wr.heap.size]?=some (Oc #[I6 (y:Int),I6 D,Sx U] 87)):=QB (heap_alloc_new _ _) (B.out.alloc _) F (by intro c fz e;cases e);have Q:Hid (Below S W2 w'):=(I.out.alloc hNB _).grown F (by rw[Bb];omega) λk hk=>(B.out.lt k hk).1;have HO':=Aa l;clear l F;go_wp2
            go_meet
            case rel =>
             refine⟨?_,Q.out,HB'.out⟩;rw[←HE1.out,OY,AA];have e:((M.drop An).take y).length=y:=by rw[AO,AM];omega
             rw[e];exact HO'.out
       case rest =>
        obtain⟨ho,hbc,v⟩:=hcut;obtain⟨p',c',rfl⟩:=Bm ho;obtain⟨β,hβ⟩:∃β,wr.heap.size=β:=⟨_,rfl⟩;rw[hβ]at v ⊢;have x0:=cQ v 0 rfl;have x1:=cQ v 1 rfl;have x2:=cQ v 2 rfl;have N:Lz W2 S E1 U β (Oc #[I6 (y:Int),I6 D,Sx U] 87) U.length (.slice p' E1.length c') (I6 0) wc:=⟨0,rfl,by omega,by simpa[Bl] using ho,hbc,v⟩;have Z:=Aa N;clear N ho hbc v hβ g0 g1 g2;go_wp2
        go_loopg [16,100] U.length (λk u16 u100 wx=>Lz W2 S E1 U β (Oc #[.int .i64 (y:Int),.int .i64 D,Sx U] 87) k u16 u100 wx)
        case atStart=>exact Z.out
        case round =>
         obtain⟨z,rfl,hzk,m,C,v⟩:=hrel;clear Z x0 x1 x2;obtain⟨L2,hL2⟩:∃L2,E1++Bl (U.take z)=L2:=⟨_,rfl⟩;have hLl2:L2.length=E1.length+z:=by rw[←hL2,AA,Ma,AO];omega
         have HL2:=Aa hL2;rw[hL2]at m;obtain⟨pm2,cm2,rfl⟩:=Bm m;have HOX2:=Aa m;have HBX2:=Aa C;have J:=Aa v;have y0:=cQ J.out 0 rfl;have y1:=cQ J.out 1 rfl;have y2:=cQ J.out 2 rfl;have hwsx2:S<=wr.heap.size:=by rw[←HNB.out];exact C.size
         have hLs2:L2.length<3000000:=by omega
         clear hL2 m C v
         by_cases hz:z<U.length
         . obtain ⟨kU,rfl⟩:∃kU,gk=kU+1:=⟨gk - 1,by omega⟩
           have HZK:=Aa hzk;have hz':(z:Int)<(U.length:Int):=by omega
           have HZ:=Aa hz;clear hzk hLl2 hz
           go_wp2_with (at_builtin;refine wpList_append_own _ rfl _ _ 159 rfl S 161 i0 (.agg #[I6 0,.int .u8 0]) 2 16 underlying159 W hz0 hz1 hz2 rfl (by decide) _ _ _ rfl (HOX2.out.alloc _) (Ad wr.heap.size 0) 1 1 (Nu (-1,U[z]'HZ.out)) rfl rfl (He _ _ _) (SF _) (by unfold maxLen;omega) (by omega) (by first | omega | (simp;omega)) ?_)
           intro v' w' l F _;obtain⟨p',c',rfl⟩:=Bm l;have HB':Hid (w'.heap[β]?=some (Oc #[I6 (y:Int),I6 D,Sx U] 87)):=QB ((heap_alloc_old _ _ (Cn J.out)).trans J.out) (HOX2.out.alloc _) F (by intro c fz e;cases e);have Q:Hid (Below S W2 w'):=(HBX2.out.alloc hwsx2 _).grown F (by rw[Bb];omega) λk hk=>(HOX2.out.lt k hk).1;have HO':=Aa l;clear l F;go_wp2
           go_roundg kU
           case measure=>omega
           case rel =>
            have e1:E1++Bl (U.take (z+1))=L2++[(-1,U[z]'HZ.out)]:=by rw[Xw U z HZ.out,←HL2.out,AH]
            refine⟨z+1,by go_num,by have:=HZK.out;omega,?_,Q.out,HB'.out⟩;rw[e1,OY,AA];exact HO'.out
         . obtain rfl:z=U.length:=by omega
           obtain rfl:gk=0:=by omega
           have hlt2:¬(U.length:Int)<(U.length:Int):=by omega
           clear hzk hLl2 hz;go_wp2
           go_roundg k
           case measure=>omega
           case rel =>
            have e1:Bz M (b.take (x+1))=L2:=by rw[HEND.out,←HL2.out,BV]
            refine⟨x+1,by go_num,by have:=HXK.out;omega,?_,?_,HBX2.out⟩
            . rw[HLN.out]
            . rw[e1];exact HOX2.out
     . obtain rfl : x = lb:=by have:=HLB.out;omega
       obtain rfl:gk=0:=by have:=HLB.out;omega
       have eT:b.take x=b:=AQ (by rw[HLB.out];exact Ai _);have HEE:Hid (Bz (Ax 0 a) b=E):=show Bz (Ax 0 a) b=E by rw[HME.out,←HE.out,eT]
       have hok:Fb n (Bz (Ax 0 a) b) 0:=V7 n b (Ax 0 a) 0 (Da F2.out.one) (Th n a 0 F1.out.one (BO 0) (by rw[HN.out];omega));rw[HEE.out]at hok;have HOK:=Aa hok;have hN:=HA1.out;subst hN;have hxx:¬(x:Int)<(x:Int):=by omega
       obtain⟨r,hNC⟩:∃r,wr.heap.size=r:=⟨_,rfl⟩;obtain⟨W3,hW3⟩:∃W3,wr=W3:=⟨_,rfl⟩;rw[hW3]at B I hNB hNC ⊢;have HNC:=Aa hNC;have HNBC:Hid (S<=r):=show S<=r by rw[←hNC];exact hNB
       have hE0:(0:Int)<=(E.length:Int):=by omega
       clear P hxk eT hok hW3 hNC
       go_upto_region 38 with fail
       go_cut [20] from 120 to 125 (λu20 wc=>∃g1 g2 q,u20=Pd q 0/\Gq W3 r g1 g2 q n (List.replicate (n+1) []) (List.replicate n false) wc)
       case first =>
        have hm1:=VG n (by omega);have hm2:=V5 n (by omega);have hwn:IntKind.i64.wrap ((n:Int)+1)=(n:Int)+1:=by rw[BG];omega
        have hNCw:=HNC.out;have f:=Aa hNCw;clear hNCw
        go_region
        all_goals
         have H:n+1<=maxLen:=by unfold maxLen;omega
         have G:n<=maxLen:=by omega
         go_wp2
         go_meet
         case rel =>
          first
           | (refine⟨W3.heap.size,W3.heap.size+1,_,rfl,?_,?_,?_,?_,?_,?_⟩;rotate_left 2;(focus (simp[go_sem];done));(focus (simp[go_sem];done));(exact⟨by omega,by omega,by omega⟩);(rw[←f.out];exact NQ _ _ _ _);(rw[List.map_replicate];first | exact(Ei _ r _ _ _ _ (by simp) (by have:=f.out;omega) H).drew | exact((Ei _ r _ _ _ _ (by simp) (by have:=f.out;omega) H).alloc _).drew | exact(((Ei _ r _ _ _ _ (by simp) (by have:=f.out;omega) H).alloc _).alloc _).drew);(rw[List.map_replicate];first | exact(Ei _ r _ _ _ _ (by simp) (by have:=f.out;omega) G).drew | exact((Ei _ r _ _ _ _ (by simp) (by have:=f.out;omega) G).alloc _).drew | exact(((Ei _ r _ _ _ _ (by simp) (by have:=f.out;omega) G).alloc _).alloc _).drew))
           | (refine⟨W3.heap.size,W3.heap.size+1+1,_,rfl,?_,?_,?_,?_,?_,?_⟩;rotate_left 2;(focus (simp[go_sem];done));(focus (simp[go_sem];done));(exact⟨by omega,by omega,by omega⟩);(rw[←f.out];exact NQ _ _ _ _);(rw[List.map_replicate];first | exact(Ei _ r _ _ _ _ (by simp) (by have:=f.out;omega) H).drew | exact((Ei _ r _ _ _ _ (by simp) (by have:=f.out;omega) H).alloc _).drew | exact(((Ei _ r _ _ _ _ (by simp) (by have:=f.out;omega) H).alloc _).alloc _).drew);(rw[List.map_replicate];first | exact(Ei _ r _ _ _ _ (by simp) (by have:=f.out;omega) G).drew | exact((Ei _ r _ _ _ _ (by simp) (by have:=f.out;omega) G).alloc _).drew | exact(((Ei _ r _ _ _ _ (by simp) (by have:=f.out;omega) G).alloc _).alloc _).drew))
           | (refine⟨W3.heap.size+1,W3.heap.size+1+1,_,rfl,?_,?_,?_,?_,?_,?_⟩;rotate_left 2;(focus (simp[go_sem];done));(focus (simp[go_sem];done));(exact⟨by omega,by omega,by omega⟩);(rw[←f.out];exact NQ _ _ _ _);(rw[List.map_replicate];first | exact(Ei _ r _ _ _ _ (by simp) (by have:=f.out;omega) H).drew | exact((Ei _ r _ _ _ _ (by simp) (by have:=f.out;omega) H).alloc _).drew | exact(((Ei _ r _ _ _ _ (by simp) (by have:=f.out;omega) H).alloc _).alloc _).drew);(rw[List.map_replicate];first | exact(Ei _ r _ _ _ _ (by simp) (by have:=f.out;omega) G).drew | exact((Ei _ r _ _ _ _ (by simp) (by have:=f.out;omega) G).alloc _).drew | exact(((Ei _ r _ _ _ _ (by simp) (by have:=f.out;omega) G).alloc _).alloc _).drew))
           | (refine⟨W3.heap.size+1,W3.heap.size,_,rfl,?_,?_,?_,?_,?_,?_⟩;rotate_left 2;(focus (simp[go_sem];done));(focus (simp[go_sem];done));(exact⟨by omega,by omega,by omega⟩);(rw[←f.out];exact NQ _ _ _ _);(rw[List.map_replicate];first | exact(Ei _ r _ _ _ _ (by simp) (by have:=f.out;omega) H).drew | exact((Ei _ r _ _ _ _ (by simp) (by have:=f.out;omega) H).alloc _).drew | exact(((Ei _ r _ _ _ _ (by simp) (by have:=f.out;omega) H).alloc _).alloc _).drew);(rw[List.map_replicate];first | exact(Ei _ r _ _ _ _ (by simp) (by have:=f.out;omega) G).drew | exact((Ei _ r _ _ _ _ (by simp) (by have:=f.out;omega) G).alloc _).drew | exact(((Ei _ r _ _ _ _ (by simp) (by have:=f.out;omega) G).alloc _).alloc _).drew))
           | (refine⟨W3.heap.size+1+1,W3.heap.size,_,rfl,?_,?_,?_,?_,?_,?_⟩;rotate_left 2;(focus (simp[go_sem];done));(focus (simp[go_sem];done));(exact⟨by omega,by omega,by omega⟩);(rw[←f.out];exact NQ _ _ _ _);(rw[List.map_replicate];first | exact(Ei _ r _ _ _ _ (by simp) (by have:=f.out;omega) H).drew | exact((Ei _ r _ _ _ _ (by simp) (by have:=f.out;omega) H).alloc _).drew | exact(((Ei _ r _ _ _ _ (by simp) (by have:=f.out;omega) H).alloc _).alloc _).drew);(rw[List.map_replicate];first | exact(Ei _ r _ _ _ _ (by simp) (by have:=f.out;omega) G).drew | exact((Ei _ r _ _ _ _ (by simp) (by have:=f.out;omega) G).alloc _).drew | exact(((Ei _ r _ _ _ _ (by simp) (by have:=f.out;omega) G).alloc _).alloc _).drew))
           | (refine⟨W3.heap.size+1+1,W3.heap.size+1,_,rfl,?_,?_,?_,?_,?_,?_⟩;rotate_left 2;(focus (simp[go_sem];done));(focus (simp[go_sem];done));(exact⟨by omega,by omega,by omega⟩);(rw[←f.out];exact NQ _ _ _ _);(rw[List.map_replicate];first | exact(Ei _ r _ _ _ _ (by simp) (by have:=f.out;omega) H).drew | exact((Ei _ r _ _ _ _ (by simp) (by have:=f.out;omega) H).alloc _).drew | exact(((Ei _ r _ _ _ _ (by simp) (by have:=f.out;omega) H).alloc _).alloc _).drew);(rw[List.map_replicate];first | exact(Ei _ r _ _ _ _ (by simp) (by have:=f.out;omega) G).drew | exact((Ei _ r _ _ _ _ (by simp) (by have:=f.out;omega) G).alloc _).drew | exact(((Ei _ r _ _ _ _ (by simp) (by have:=f.out;omega) G).alloc _).alloc _).drew))
       case rest =>
        obtain⟨g1,g2,q,rfl,hgr⟩:=hcut;have y0:=hgr.c0;have y1:=hgr.c1;have N:PF W3 r g1 g2 q n n (I6 0) wc:=⟨0,rfl,by omega,by simpa using hgr⟩;have Z:=Aa N;clear N hgr;go_wp2
        go_loopg [129] n (λk i wx=>PF W3 r g1 g2 q n k i wx)
        case atStart=>exact Z.out
        case round =>
         obtain⟨s,rfl,hjk,O⟩:=hrel;have HG:=Aa O;clear Z y0 y1;have z0:=O.c0;have z1:=O.c1
         by_cases hj2:s<n
         . obtain ⟨k,rfl⟩:∃k,gk=k+1:=⟨gk - 1,by omega⟩
           have HJK:=Aa hjk;have z2:wr.cell? (Ad g2 s)=some (.bool false):=by
            rw[O.r2.cellAt s (by omega),BD,AL (by simp),FO,BP,List.getElem?_replicate,if_pos (by omega)];rfl
           have z3:wr.frozen? (Ad g2 s)=false:=O.r2.frozenAt s;have hjn:(s:Int)<(n:Int):=by omega
           clear O hjk;go_wp2
           go_roundg k
           case measure=>omega
           case rel =>
            have e1:(List.replicate s true++List.replicate (n - s) false).set s true=List.replicate (s+1) true++List.replicate (n - (s+1)) false:=by
             rw[FN _ _ (by simp),FO,BP,show n - s=(n - (s+1))+1 by omega,CH,GI,List.replicate_succ' (n:=s),AH];rfl
            have:=XR HG.out s true;rw[e1]at this;exact⟨s+1,by go_num,by have:=HJK.out;omega,this⟩
         . obtain rfl : s=n:=by omega
           obtain rfl:gk=0:=by omega
           have hjn:¬(s:Int)<(s:Int):=by omega
           have HGF:Hid (Gq W3 r g1 g2 q s (Gr s).put (Gr s).drop wr):=by
            have:=HG.out;rw[BP,List.replicate_zero,AZ]at this;exact this
           clear O hjk hj2;go_wp2;have N:PD W3 r g1 g2 q s E E.length (I6 0) (I6 0) wr:=⟨0,rfl,by omega,rfl,HGF.out⟩;have Z:=Aa N;clear N HG HGF z0 z1
           go_loopg [22,139] E.length (λk u22 i wx=>PD W3 r g1 g2 q s E k u22 i wx)
           case atStart=>exact Z.out
           case round =>
            obtain⟨t,rfl,htk,rfl,O⟩:=hrel;clear Z;have hinv:=PH s E (Ro s E 0 (BO 0) HOK.out) t (by omega);obtain⟨R,N⟩:∃R,(E.take t).foldl GR (Gr s)=R:=⟨_,rfl⟩;rw[N]at O hinv ⊢;have HST4:=Aa N;have HG:=Aa O;have z0:=O.c0;have z1:=O.c1;have hNCw:r<=wr.heap.size:=by have:=O.below.size;have:=HNC.out;omega
            have hql:q<wr.heap.size:=Ca wr _ z0;have hg1l:g1<wr.heap.size:=(O.r1.lt g1 rfl).2;have hg2l:g2<wr.heap.size:=(O.r2.lt g2 rfl).2;clear N
            by_cases ht:t<E.length
            . obtain ⟨k,rfl⟩:∃k,gk=k+1:=⟨gk - 1,by omega⟩
              have HTK:=Aa htk;obtain⟨⟨i,c⟩,P⟩:∃z,E[t]=z:=⟨_,rfl⟩;have hEt:E[t]?=some (i,c):=by rw[B7 ht,P]
              have hfold:(E.take (t+1)).foldl GR (Gr s)=GR R (i,c):=by
               rw[AD ht,BJ,HST4.out,P];rfl
              have HFOLD:=Aa hfold;have hxi:=Ro s E 0 (BO 0) HOK.out (i,c) (BI hEt);simp only at hxi;have hox:=B.out
              obtain ⟨ge,rfl,hge1,hge2⟩:∃ge,pe=some (Ad ge 0)/\S<=ge/\ge<W3.heap.size:=by
               rcases hox.2 with ⟨hx',h0⟩|⟨g,cap,cur,hx',hgb,hgg,_⟩
               . omega
               . simp only[Value.slice.injEq,true_and]at hx'
                 exact⟨g,hx'.1,hgb,Cn hgg⟩
              obtain⟨e0,e1⟩:=gL E t (i,c) hEt;have q0:wr.cell? (Ad ge (t*2))=some (I6 i):=(zC O.below ge (t*2) (by show ge<r;rw[←HNC.out];exact hge2)).trans ((hox.cellAt (t*2) (by omega)).trans e0);have q1:wr.cell? (Ad ge (t*2+1))=some (.int .u8 (c.toNat:Int)):=(zC O.below ge (t*2+1) (by show ge<r;rw[←HNC.out];exact hge2)).trans ((hox.cellAt (t*2+1) (by omega)).trans e1);have htE:(t:Int)<(E.length:Int):=by omega
              obtain⟨i1,i2,i3,i4⟩:=hinv;clear hox e0 e1 hfold htk P hEt
              by_cases W:i<0
              . obtain ⟨u0,hu0⟩:∃u0,R.put[R.last]?=some u0:=⟨_,B7 (by omega)⟩
                have hus:u0.length<=t:=i4 u0 (BI hu0);have q2:wr.cell? (Ad g1 R.last)=some (Sx u0):=by
                 rw[O.r1.cellAt R.last (by omega),BD,hu0];rfl
                have q3:wr.frozen? (Ad g1 R.last)=false:=O.r1.frozenAt R.last;have HSTEP:Hid (GR R (i,c)=⟨R.put.set R.last (u0++[c]),R.drop,R.last⟩):=show GR R (i,c)=⟨R.put.set R.last (u0++[c]),R.drop,R.last⟩ by
                 unfold GR;rw[if_pos W,hu0];rfl
                have hlast:(R.last:Int)<(s:Int)+1:=by omega
                have hsz:(ByteArray.mk u0.toArray).size+1<=400000000:=by
                 have:(ByteArray.mk u0.toArray).size=u0.length:=by simp[ByteArray.size]
                 omega
                clear O hu0 i4 hxi
                go_upto_region 49 with fail
                have hcv:(convert 146 9 (Sl (wr.heap.size+1) 1 1)).run prog ((wr.alloc (Oc #[I6 i,.int .u8 (c.toNat:Int)] 161)).alloc (Oc #[.int .u8 (c.toNat:Int)] 5)).drew=.ok (Sx [c]) ((wr.alloc (Oc #[I6 i,.int .u8 (c.toNat:Int)] 161)).alloc (Oc #[.int .u8 (c.toNat:Int)] 5)).drew:=by
                 refine run_convert_bytes_back _ 146 9 5 (Ad (wr.heap.size+1) 0) 1 [c] underlying146 underlying5 underlying9 λj hj=>?_;obtain rfl:j=0:=by simpa using hj
                 simp[go_sem,Addr.add]
                go_region
                go_wp2
                go_roundg k
                case measure=>omega
                case rel =>
                 refine⟨t+1,by go_num,by have:=HTK.out;omega,?_,?_⟩
                 . rw[HFOLD.out,HSTEP.out]
                 . rw[HFOLD.out,HSTEP.out]
                   have O:=cM HG.out R.last (u0++[c]);rw[←gI]at O;exact dH (UD (UD O (by simpa using hNCw) _) (by simp;omega) _)
              . have q4:wr.frozen? (Ad g2 i.toNat)=false:=O.r2.frozenAt i.toNat
                have hi2:0<=i/\i<(s:Int):=by
                 rcases hxi with h|h
                 . exact absurd h W
                 . exact h
                obtain⟨iN,rfl⟩:∃iN:Nat,i=(iN:Int):=⟨i.toNat,by omega⟩;rw[EC]at q4;obtain⟨dd,hdd⟩:∃dd,R.drop[iN]?=some dd:=⟨_,B7 (by omega)⟩;have q2:wr.cell? (Ad g2 iN)=some (.bool dd):=by
                 rw[O.r2.cellAt iN (by omega),BD,hdd];rfl
                have HSTEP:Hid (GR R ((iN:Int),c)=⟨R.put,R.drop.set iN false,iN+1⟩):=show GR R ((iN:Int),c)=⟨R.put,R.drop.set iN false,iN+1⟩ by
                 unfold GR;rw[if_neg W];rfl
                have hi3:=hi2.2;clear O hdd i4 hxi hi2;go_wp2
                go_roundg k
                case measure=>omega
                case rel =>
                 refine⟨t+1,by go_num,by have:=HTK.out;omega,?_,?_⟩
                 . rw[HFOLD.out,HSTEP.out];go_num
                 . rw[HFOLD.out,HSTEP.out];exact UD (XR HG.out iN false) (by simpa using hNCw) _
            . obtain rfl:t=E.length:=by omega
              obtain rfl:gk=0:=by omega
              have hrow:=Ud s E s [] [] [] 0 rfl rfl (by omega) HOK.out;have hcst:(⟨[]++[] :: List.replicate s [],[]++List.replicate s true,0⟩:O0)=Gr s:=rfl;rw[hcst]at hrow;have hst':=HST4.out;rw[BV]at hst';rw[hst',BA,BA,show((0:Nat):Int)=0 from rfl]at hrow;obtain⟨i1,i2,i3,i4⟩:=hinv;have hGl:(Dk s E [] 0).1.length=s:=by
               have e:(Mw (Dk s E [] 0)).length=s:=by rw[←hrow.2];exact i2
               simpa[Mw] using e
              have hGp:Ep (Dk s E [] 0).1+(Dk s E [] 0).2.length<1000000000:=by
               have:=ep s E [] 0;simp only[AR]at this;omega
              have hGP:=O.r1;have hGD:=O.r2;rw[hrow.1]at hGP;rw[hrow.2]at hGD
              have CG:Hid _:=Yo g1 g2 s (Dk s E [] 0) wr hGl (by omega) hGp
               (λi qq W=>by
                 have hlt:=(De W);have hl:(LR (Dk s E [] 0)).length=s+1:=by simp[LR,hGl]
                 rw[hGP.cellAt i (by unfold LR at hl;omega),BD,show(LR (Dk s E [] 0))[i]?=some qq from W];rfl)
               (λi d W=>by
                 have hlt:=(De W);rw[BS,hGl]at hlt
                 rw[hGD.cellAt i (by omega),BD,show(Mw (Dk s E [] 0))[i]?=some d from W];rfl)
               hg1l hg2l
              have HBF:=Aa O.below;have htt:¬(E.length:Int)<(E.length:Int):=by omega
              have HGG:Hid (Bz (Ax 0 a) b=E):=HEE;clear O hrow hcst hst' i4 hGl hGp hGP hGD htk ht
              go_wp2_with (go_at_call 84;refine AC CG.out ?_;rintro e w9 ⟨v9,rfl,o9,hb9⟩)
              obtain⟨p9,c9,rfl⟩:=Bm o9
              go_ret2
              refine⟨_,rfl,?_,?_⟩
              . have k1:=HB3.out.trans (HBW.out.mono HB3.out.size)
                have k2:=k1.trans (I.out.mono (show w.heap.size<=S by rw[←HNB.out];exact k1.size));have k3:=k2.trans (HBF.out.mono (show w.heap.size<=r by rw[←HNC.out];exact k2.size));rw[HGG.out];exact J6 k3.size o9
              . have k1:=HB3.out.trans (HBW.out.mono HB3.out.size)
                have k2:=k1.trans (I.out.mono (show w.heap.size<=S by rw[←HNB.out];exact k1.size));have k3:=k2.trans (HBF.out.mono (show w.heap.size<=r by rw[←HNC.out];exact k2.size));exact k3.trans (hb9.mono k3.size)
theorem Ly{a b:List Pt}(d:Bs a)(e:Bs b)(o:(Be b).1=(Be a).2){n:Nat}(r:Ak a=n):JA (Dk n (Bz (Ax 0 a) b) [] 0)=Aq (Ha a b):=by
 obtain⟨j,_,m,l⟩:=Hn d;obtain⟨m1,_,m3,_⟩:=Hn e;have h:∀p∈Ag a,Am p:=λp c=>(j p c).1;have k:∀p∈Ag b,Am p:=λp c=>(m1 p c).1;have s:=(Hm d).2;have q:=(Hm e).1;have i:Fb n (Bz (Ax 0 a) b) 0:=V7 n b (Ax 0 a) 0 (Da e.one) (Th n a 0 d.one (by omega) (by omega));have f:=TE n (Bz (Ax 0 a) b) [] 0 A7 i;rw[IL]at f;have g:=dy n (Bc (Ag a)+Bc (Ag b)) (Ag a) (Ag b) 0 A7 h k (by omega) (by rw[Rl _ 0 λp c=>(Da h p c).1];omega) (by omega) (Ai _);rw[WG a d.one,ct b e.one]at g;rw[jd]
 congr 1
 exact f.trans g.symm
end
theorem kD(s:ByteArray)(d:List Nat)(u v:Int)(b:List Pt)(a:Value)(w:World)(j:∀r∈d,Df r)(l:encs d=s.data.toList)(n:s.size<1000000)(m:Ae w a b)(g:∀q∈b,Cp q)(i:∀q∈b,q.put.length<100000000)(k:b.length<=1000) :
    Cg 46 #[.string s,I6 u,I6 v,a] w λe w'=>∃o,e=.returned (.tuple #[o,I6 (tzE d u v b)])/\opN w.heap.size w' o (KL d u v b)/\Bw w w':=by
 unfold tzE KL
 by_cases c:Ck u/\Ck v
 . rw [(My u).2 c.1,(My v).2 c.2,Bool.and_self,if_pos rfl,if_pos rfl]
   by_cases f:chkE b (by_ u d)=0
   . rw[if_pos f,if_pos f]
     exact ld s d u v b a w j l n c.1 c.2 m g i k f
   . rw[if_neg f,if_neg f]
     exact(jR s d u v b a w j l n c.1 c.2 m g i k f).mono λe w' h=>⟨_,h.1,Ik _ w',h.2⟩
 . have e:(uB u && uB v)=false:=Bool.eq_false_iff.2 λe=>c (by rw[ED]at e;exact⟨(My u).1 e.1,(My v).1 e.2⟩)
   rw[e,if_neg (by decide),if_neg (by decide)];exact(kE s u v a c w).mono λe w' h=>⟨_,h.1,Ik _ w',h.2⟩
theorem j9(j h:Value)(a b:List Pt)(t:List UInt8)(w:World)(r:Ae w j a)(s:Ae w h b)(ha:good a t)(f:good b (Aj a t))(d:t.length+Al a<1000000)(c:(Aj a t).length+Al b<1000000) :
    Cg 48 #[j,h] w λe w'=>∃l,e=.returned (.tuple #[l,I6 0])/\opN w.heap.size w' l (Aq (Ha a b))/\Bw w w':=by
 have g:=ha.fine d;have m:=f.fine c;have p:=ha.both f d c;have k:(Be b).1=(Be a).2:=by rw[(ha.lens d).2,(f.lens c).1]
 obtain⟨n,o⟩:∃n:Nat,Ak a=n:=⟨(Ak a).toNat,by have:=OW a (Da g.one);omega⟩;rw[←Ly g m k o];exact kV j h a b w r s (ha.wf d) (f.wf c) (λq i=>by have:=Gh q _ i;omega) (λq i=>by have:=Gh q _ i;omega) g m p k n o
theorem OZ(i g:Value)(F:Bool)(a b:List Pt)(t:List UInt8)(w:World)(n:Ae w i a)(m:Ae w g b)(ha:good a t)(f:good b t)(d:t.length+Al a<1000000)(c:t.length+Al b<1000000) :
    Cg 86 #[i,g,.bool F] w λe w'=>∃k,e=.returned (.tuple #[k,I6 0])/\opN w.heap.size w' k (Aq (Bv F a b))/\Bw w w':=by
 have j:=ha.fine d;have l:=f.fine c;have:=aM i g F a b w n m (ha.wf d) (f.wf c) (λq h=>by have:=Gh q _ h;omega) (λq h=>by have:=Gh q _ h;omega) j.len l.len λ_=>⟨j,l⟩;have e:JI a b=0:=by unfold JI;rw[ha.both f d c,if_pos rfl,(ha.lens d).1,(f.lens c).1,if_pos rfl]
 rw[e,if_pos rfl]at this;exact this
section
attribute [local go_sem] Oper.semAt_some Dz Dl
variable {lo y : Nat}{w : World}{who u : Int}{S : Cl}
theorem jH(h:Cj lo w y who u S)(v:Value)(q:List Pt)(b:Ae w v q)(d:60<q.length) :
    Cg 12 #[Pd y 0,v] w (Rt w (I6 4)):=by
 obtain⟨p,c,rfl,_⟩:=b;have a:(60:Int)<(q.length:Int):=by omega
 clear h
 go_enter func12,ntmps12
 go_wp2;go_ret;exact⟨rfl,A9 _ _⟩
theorem Mt{c W:World}{S':Cl}{j f b a:Value}(d:lo<=y)(e:Bw w c)(m:c.heap[y]?=some (Oc (Hl who u S j f) 69))(g:sameBut c W λk=>k=y)
    (h:W.heap[y]?=some (Oc (Hl who u S' b a) 69)) (i:Ar lo W b (B8 S' 0)) (l:Ar lo W a (B8 S' 1)):Cj lo W y who u S'/\sameBut w W λk=>k=y :=
 ⟨⟨d,b,a,h,i,l⟩,(Cf e _).trans g⟩
theorem IJ{lo lo' y:Nat}{a W:World}{who u:Int}{S:Cl}{g e v:Value}{o:List Pt}(b:lo<=y)(c:a.heap[y]?=some (Oc (Hl who u S g e) 69))(f:sameBut a W λk=>k=y)(h:Ar lo a v o):Ar lo W v o :=
 Eu h f λk _ d=>by obtain rfl:=d;exact⟨b,C6 c (by decide)⟩
theorem j0(h:Cj lo w y who u S)(hk:okK 2000 S)(hu:Ck u)(v:Value)(q:List Pt)(hx:Ae w v q)(hwf:∀p∈q,Cp p)(hpl:∀p∈q,p.put.length<=300)(h6:¬60<q.length)(hsz:S.seen.length<=100000)(hid:0<=S.id/\S.id<=1000000) :
    Cg 12 #[Pd y 0,v] w λe w'=>e=.returned (I6 (edE u S q))/\Cj lo w' y who u (Fj u S q)/\sameBut w w' λk=>k=y:=by
 have hlt:=Ks h;have HC:=Aa h;have HK:=Aa hk;have hdl:=hk.len;have hrs:encs (Ch S.doc)=S.doc:=MP (N4 hk.V);have CT:Hid (∀F,Bw w F->Cg 46 #[Sx S.doc,I6 u,I6 1,v] F λe w'=>∃v',e=.returned (.tuple #[v',I6 (tzE (Ch S.doc) u 1 q)])/\opN F.heap.size w' v' (edO u S q)/\Bw F w'):=λF hb=>kD ⟨S.doc.toArray⟩ (Ch S.doc) u 1 q v F (λr hr=>NV hr) (by rw[hrs]) (by simp[ByteArray.size];omega) (Ec hx hb (Ai _)) hwf (λp hp=>by have:=hpl p hp;omega) (by omega);have HPU:Hid (tzE (Ch S.doc) u 1 q=0->Al (edO u S q)<=30000/\good (edO u S q) S.doc):=λht=>by
  obtain⟨g1,_,e3,e4⟩:=Rg hu hk ht;obtain⟨hp1,_,_⟩:=OC e3;refine⟨?_,g1⟩;rw[e4,To q _ λp hp=>(hp1 p hp).1];have:=T5 q hpl;have:q.length*300<=60*300:=Nat.mul_le_mul_right _ (by omega);omega
 obtain⟨hlo,v1,v2,h3,h4,h5⟩:=h;obtain⟨p1,c1,rfl⟩:=C7 h4;obtain⟨p2,c2,rfl⟩:=C7 h5;have H4:=Aa h4;have H5:=Aa h5;generalize hn1:(B8 S 0).length=n1 at *;generalize hn2:(B8 S 1).length=n2 at *;have H3:=Aa h3;have X:=Aa hlo;obtain⟨p,c,rfl,r1,r2,r3⟩:=hx;have R3:=Aa r3;obtain⟨n,hn⟩:∃n,q.length=n:=⟨_,rfl⟩;have HN:=Aa hn;rw[hn]at r1 h6 CT ⊢;clear r3 hn h3 h4 h5 hlo;unfold maxLen at r2;have hni:(n:Int)<=60:=by omega
 have HID:=Aa hid;have HSZ:=Aa hsz;have HDL:Hid (S.doc.length<=200000):=(by omega:S.doc.length<=200000);have HNE:Hid (∀(r:Int),edE u S q=r->r≠0->Fj u S q=S):=λr e1 e2=>if_neg (by rw[e1];exact e2);have HL6:Hid (¬60<q.length):=by show ¬_;rw[HN.out];exact h6
 clear hk hu hwf hpl h6 hsz hid hdl hrs hn1 hn2;generalize hOO:edO u S q=O at *;have HOO:=Aa hOO;clear hOO
 go_enter func12,ntmps12
 go_wp2
 go_loopw [15] (λi wr=>∃k:Nat,i=.int .i64 k/\k<=n/\(q.take k).any Hc=false/\Bw w wr) (λi _=>n - (intOf i).toNat)
 case atStart=>exact⟨0,rfl,AV _,rfl,A9 _ _⟩
 case round =>
  obtain⟨k,rfl,hk,hno,hbw⟩:=hrel;have HNO:=Aa hno;have A:=Aa hbw;clear hno hbw
  by_cases hltn:k<n
  . have hkr:k<q.length:=by rw[HN.out];exact hltn
    have hne:q≠[]:=by intro e;rw[e]at hkr;exact absurd hkr (AP _)
    obtain⟨b,o,rfl,hb,hcell⟩:=R3.out hne;obtain⟨e0,e1,e2⟩:=hcell k q[k] (B7 hkr);have g0:=(zC A.out b (o+k*3) hb).trans e0;have g1:=(zC A.out b (o+k*3+1) hb).trans e1;have g2:=(zC A.out b (o+k*3+2) hb).trans e2;have hki:(k:Int)<(n:Int):=by omega
    have hts:q.take (k+1)=q.take k++[q[k]]:=AD hkr;have hin:q[k]∈q:=BE hkr;have HBO:Hid (∀o,Bw w (wr.alloc o)):=λo=>A.out.alloc A.out.size o
    by_cases P:200<q[k].put.length
    . have Q:Hid (edE u S q=4):=if_pos (.inr (List.any_eq_true.2 ⟨_,hin,decide_eq_true P⟩))
      clear hcell e0 e1 e2 hne hts hin CT HPU;generalize q[k]=qq at *;obtain⟨K,D,U⟩:=qq;simp only at g0 g1 g2 P;have hm1:(200:Int)<(U.length:Int):=by omega
      have hz:(ByteArray.mk U.toArray).size=U.length:=by simp[ByteArray.size]
      go_wp2;go_ret;refine⟨by rw[Q.out];rfl,?_⟩;rw[HNE.out 4 Q.out (by decide)];exact NN HC.out (HBO.out _)
    . have Q:Hid ((q.take (k+1)).any Hc=false):=by show _=_;rw[hts,FL,HNO.out];simp[Hc,P]
      clear hcell e0 e1 e2 hne hts hin CT HPU;generalize q[k]=qq at *;obtain⟨K,D,U⟩:=qq;simp only at g0 g1 g2 P;have hm1:¬(200:Int)<(U.length:Int):=by omega
      have hz:(ByteArray.mk U.toArray).size=U.length:=by simp[ByteArray.size]
      go_wp2
      go_roundw
      case rel=>exact⟨k+1,by go_num,by omega,Q.out,HBO.out _⟩
      case measure=>simp[intOf];omega
  . obtain rfl:k=n:=by omega
    have Q:Hid (¬(60<q.length\/q.any Hc=true)):=by
     have:=HNO.out;rw[←HN.out,BV]at this;show ¬_;rintro (e|e)
     . exact HL6.out e
     . rw[this]at e;cases e
    have hki:¬((k:Int)<(k:Int)):=by omega
    clear R3 HNO
    by_cases ht:tzE (Ch S.doc) u 1 q=0
    case neg =>
     have HED:Hid (edE u S q=tzE (Ch S.doc) u 1 q):=by show _=_;unfold edE;rw[if_neg Q.out,if_pos ht]
     have HS:Hid (Fj u S q=S):=HNE.out _ HED.out ht;clear HPU Q HNE;generalize tzE (Ch S.doc) u 1 q=E at *;have hE1:(E==0)=false:=beq_eq_false_iff_ne.2 ht
     go_wp2_with (go_at_call 9999)
     refine wz (λF:World=>F.heap[y]?=some (Oc (Hl who u S (.slice p1 n1 c1) (.slice p2 n2 c2)) 69)) 15 ((A.out.block y hlt).trans H3.out) Mn λw30 I hz0 G B=>?_;have l:=A.out.trans (I.mono A.out.size);have y1:∀x,(G x).cell? (Ad y 1)=some (I6 u):=λx=>(Ct (B.but x)).2.1;have y2:∀x,(G x).cell? (Ad y 2)=some (Sx S.doc):=λx=>(Ct (B.but x)).2.2.1;(iterate 9 (refine ay B hz0 λ_ k=>?_;go_simp;apply k;clear k));clear y1 y2;refine aO 9 ⟨_,rfl,?_⟩;intro w31 H K hK
     go_simp
     have d:=l.trans (H.mono l.size);refine(CT.out w31 d).mono ?_;rintro e w3 ⟨v',rfl,C,N⟩;obtain⟨Y,Z,rfl⟩:=IC C;have f:w3.heap[y]?=some (Oc (Hl who u S (.slice p1 n1 c1) (.slice p2 n2 c2)) 69):=((d.trans (N.mono d.size)).block y hlt).trans H3.out;refine⟨_,rfl,hK _ _ (λ_=>f) ?_⟩;clear hK K hz0;refine az B f 10 λ_ k=>?_;go_simp;apply k;clear k;refine az B f 11 λ_ k=>?_;go_simp;apply k;clear k;refine az B f 12 λ_ k=>?_;go_simp;apply k;clear k;refine az B f 13 λ_ k=>?_;go_simp;apply k;clear k;refine az B f 14 λ_ k=>?_;go_simp;apply k;clear k;clear B f;refine ae ?_;intro w4 z;have j:=(d.trans (N.mono d.size));have s:Hid (Bw w w4):=j.trans (z.mono j.size);have HN4:Hid (∀lo',Ar lo' w4 (.slice Y O.length Z) O):=λlo'=>Bt (Ev C) z;have HN4':Hid (Ae w4 (.slice Y O.length Z) O):=(Bt (lo:=0) (Ev C) z).1;have L:=(s.out.block y hlt).trans H3.out;have HK4:=Aa L;have t2:=(Ct L).2.2.1;clear I H N z j l d C L;go_wp2;go_ret;rw[HED.out,HS.out];exact⟨rfl,NN HC.out s.out⟩
    case pos =>
    obtain⟨hpu,g1⟩:=HPU.out ht;rw[ht]at CT;have hdl:=HDL.out;have CA:Hid (∀Y Z F,Ae F (.slice Y O.length Z) O->Cg 47 #[.slice Y O.length Z,Sx S.doc] F (Rt F (.tuple #[Sx (Aj O S.doc),I6 0]))):=λY Z F ho=>by
     have hf:=g1.fine (show S.doc.length+Al O<1000000 by omega);have:=IR _ O S.doc F ho (g1.wf (show S.doc.length+Al O<1000000 by omega)) (λq hq=>by have:=Gh q _ hq;omega) (by omega) hf.len (by omega);rw[g1.ord,if_pos rfl]at this;exact this
    have hzz:(ByteArray.mk (Aj O S.doc).toArray).size=(Aj O S.doc).length:=by simp[ByteArray.size]
    by_cases hfu:2000<(Aj O S.doc).length
    . have HED:Hid (edE u S q=12):=by show _=_;unfold edE;rw[if_neg Q.out,if_neg (by simpa using ht),HOO.out,if_pos hfu]
      have HS:Hid (Fj u S q=S):=HNE.out _ HED.out (by decide);have hfi:(2000:Int)<((Aj O S.doc).length:Int):=by omega
      clear HPU Q HNE g1 hpu hdl HDL HOO ht hfu;generalize Aj O S.doc=TX at *
      go_wp2_with (go_at_call 9999)
      refine wz (λF:World=>F.heap[y]?=some (Oc (Hl who u S (.slice p1 n1 c1) (.slice p2 n2 c2)) 69)) 15 ((A.out.block y hlt).trans H3.out) Mn λw30 I hz0 G B=>?_;have l:=A.out.trans (I.mono A.out.size);have y1:∀x,(G x).cell? (Ad y 1)=some (I6 u):=λx=>(Ct (B.but x)).2.1;have y2:∀x,(G x).cell? (Ad y 2)=some (Sx S.doc):=λx=>(Ct (B.but x)).2.2.1;(iterate 9 (refine ay B hz0 λ_ k=>?_;go_simp;apply k;clear k));clear y1 y2;refine aO 9 ⟨_,rfl,?_⟩;intro w31 H K hK
      go_simp
      have d:=l.trans (H.mono l.size);refine(CT.out w31 d).mono ?_;rintro e w3 ⟨v',rfl,C,N⟩;obtain⟨Y,Z,rfl⟩:=IC C;have f:w3.heap[y]?=some (Oc (Hl who u S (.slice p1 n1 c1) (.slice p2 n2 c2)) 69):=((d.trans (N.mono d.size)).block y hlt).trans H3.out;refine⟨_,rfl,hK _ _ (λ_=>f) ?_⟩;clear hK K hz0;refine az B f 10 λ_ k=>?_;go_simp;apply k;clear k;refine az B f 11 λ_ k=>?_;go_simp;apply k;clear k;refine az B f 12 λ_ k=>?_;go_simp;apply k;clear k;refine az B f 13 λ_ k=>?_;go_simp;apply k;clear k;refine az B f 14 λ_ k=>?_;go_simp;apply k;clear k;clear B f;refine ae ?_;intro w4 z;have j:=(d.trans (N.mono d.size));have s:Hid (Bw w w4):=j.trans (z.mono j.size);have HN4:Hid (∀lo',Ar lo' w4 (.slice Y O.length Z) O):=λlo'=>Bt (Ev C) z;have HN4':Hid (Ae w4 (.slice Y O.length Z) O):=(Bt (lo:=0) (Ev C) z).1;have L:=(s.out.block y hlt).trans H3.out;have HK4:=Aa L;have t2:=(Ct L).2.2.1;clear I H N z j l d C L
      go_wp2_with (go_at_call 47;refine(CA.out _ _ _ HN4'.out).mono ?_;rintro e g ⟨rfl,t⟩;have R:=Aa (s.out.trans (t.mono s.out.size));clear t)
      go_ret;rw[HED.out,HS.out];exact⟨rfl,NN HC.out R.out⟩
    . have he0:edE u S q=0:=by unfold edE;rw[if_neg Q.out,if_neg (by simpa using ht),HOO.out,if_neg hfu]
      have HED:=Aa he0;have HS:Hid (Fj u S q = { S with doc:=Aj O S.doc,mine:=Dx O S.mine,id:=if S.mine=[] then S.id+1 else S.id }):=by show _=_;rw[←HOO.out];exact if_pos he0
      have hfi:¬(2000:Int)<((Aj O S.doc).length:Int):=by omega
      have CC:Hid (∀m1 m2 Y Z p2 n2 c2 F,S.mine=[m1,m2]->Ae F (.slice p2 n2 c2) m2->Ae F (.slice Y O.length Z) O->Cg 48 #[.slice p2 n2 c2,.slice Y O.length Z] F λe w'=>∃v',e=.returned (.tuple #[v',I6 0])/\opN F.heap.size w' v' (Aq (Ha m2 O))/\Bw F w'):=λm1 m2 Y Z p2 n2 c2 F e ho2 ho3=>by
       have hal:=HK.out.all;have hpt:=HK.out.puts;have hdc:=HK.out.doc;rw[e]at hal hpt hdc;have l1:=Qk hal.1;have p1:=hpt m1 (by simp);have p2:=hpt m2 (by simp);have e2:Eo [m1,m2] S.seen=Aj m2 (Aj m1 S.seen):=rfl;rw[e2]at hdc;rw[hdc]at g1 hdl;have:=HSZ.out;exact j9 _ _ m2 O (Aj m1 S.seen) F ho2 ho3 hal.2.1 g1 (by omega) (by omega)
      have HTW:=Aa HK.out.two;clear HPU Q HNE g1 hpu hdl HDL HOO ht hfu he0;generalize hTX:Aj O S.doc=TX at *;clear hTX
      go_wp2_with (go_at_call 9999)
      refine wz (λF:World=>F.heap[y]?=some (Oc (Hl who u S (.slice p1 n1 c1) (.slice p2 n2 c2)) 69)) 15 ((A.out.block y hlt).trans H3.out) Mn λw30 I hz0 G B=>?_;have l:=A.out.trans (I.mono A.out.size);have y1:∀x,(G x).cell? (Ad y 1)=some (I6 u):=λx=>(Ct (B.but x)).2.1;have y2:∀x,(G x).cell? (Ad y 2)=some (Sx S.doc):=λx=>(Ct (B.but x)).2.2.1;(iterate 9 (refine ay B hz0 λ_ k=>?_;go_simp;apply k;clear k));clear y1 y2;refine aO 9 ⟨_,rfl,?_⟩;intro w31 H K hK
      go_simp
      have d:=l.trans (H.mono l.size);refine(CT.out w31 d).mono ?_;rintro e w3 ⟨v',rfl,C,N⟩;obtain⟨Y,Z,rfl⟩:=IC C;have f:w3.heap[y]?=some (Oc (Hl who u S (.slice p1 n1 c1) (.slice p2 n2 c2)) 69):=((d.trans (N.mono d.size)).block y hlt).trans H3.out;refine⟨_,rfl,hK _ _ (λ_=>f) ?_⟩;clear hK K hz0;refine az B f 10 λ_ k=>?_;go_simp;apply k;clear k;refine az B f 11 λ_ k=>?_;go_simp;apply k;clear k;refine az B f 12 λ_ k=>?_;go_simp;apply k;clear k;refine az B f 13 λ_ k=>?_;go_simp;apply k;clear k;refine az B f 14 λ_ k=>?_;go_simp;apply k;clear k;clear B f;refine ae ?_;intro w4 z;have j:=(d.trans (N.mono d.size));have s:Hid (Bw w w4):=j.trans (z.mono j.size);have HN4:Hid (∀lo',Ar lo' w4 (.slice Y O.length Z) O):=λlo'=>Bt (Ev C) z;have HN4':Hid (Ae w4 (.slice Y O.length Z) O):=(Bt (lo:=0) (Ev C) z).1;have L:=(s.out.block y hlt).trans H3.out;have HK4:=Aa L;have t2:=(Ct L).2.2.1;clear I H N z j l d C L;have hid0:=HID.out.1;have hid9:=HID.out.2;have hid1:wrap64 (S.id+1)=S.id+1:=E0 (by omega) (by omega)
      rcases P:S.mine with _|⟨m1,_|⟨m2,_|⟨m3,ms⟩⟩⟩
      . have HM8:Hid (decide (1<=S.mine.length)=false):=by show _=_;rw[P];rfl
        have HM9:Hid (decide (2<=S.mine.length)=false):=by show _=_;rw[P];rfl
        have HS1:Hid (Fj u S q = { S with doc:=TX,mine:=[O],id:=S.id+1 }):=by show _=_;rw[HS.out];simp[P,Dx]
        have HA1:Hid (B8 S 1=[]):=by show _=_;unfold B8;rw[P];rfl
        clear CC HS P
        go_wp2_with (first
         | (go_at_call 47;refine(CA.out _ _ _ HN4'.out).mono ?_;rintro e g ⟨rfl,t⟩;have R:=Aa t;have a:=(t.block y (As HK4.out)).trans HK4.out;have J:=Aa a;have HK55:Hid (g.heap[y]?=some (Oc #[I6 who,I6 u,Sx S.doc,Sx S.seen,I6 S.rev,I6 S.id,.slice p1 n1 c1,.slice p2 n2 c2,.bool false,.bool false,I6 S.drops] 69)):=by have h:=a;unfold Hl at h;rw[HM8.out,HM9.out]at h;exact h
            have t5:g.cell? (Ad y 5)=some (I6 S.id):=(Ct a).2.2.2.2.2.1;have t22:g.cell? (Ad y 2)=some (Sx S.doc):=(Ct a).2.2.1;have t6:g.cell? (Ad y 6)=some (.slice p1 n1 c1):=(Ct a).2.2.2.2.2.2.1;have t7:g.cell? (Ad y 7)=some (.slice p2 n2 c2):=(Ct a).2.2.2.2.2.2.2.1;have t8:g.cell? (Ad y 8)=some (.bool false):=by have:=(Ct a).2.2.2.2.2.2.2.2.1;rwa[HM8.out]at this
            have t9:g.cell? (Ad y 9)=some (.bool false):=by have:=(Ct a).2.2.2.2.2.2.2.2.2.1;rwa[HM9.out]at this
            have W:∀o,g.frozen? (Ad y o)=false:=λo=>Gf a;have f2:=W 2;have f5:=W 5;have f6:=W 6;have f7:=W 7;have f8:=W 8;have f9:=W 9
            clear t a W))
        go_ret;rw[HED.out,HS1.out];refine⟨rfl,?_⟩;have b1:=heap_setCell_same g y 2 _ _ (Sx TX) HK55.out;have b2:=heap_setCell_same _ y 6 _ _ (.slice Y O.length Z) b1;have b3:=heap_setCell_same _ y 8 _ _ (.bool true) b2;have b4:=heap_setCell_same _ y 5 _ _ (I6 (S.id+1)) b3;have hs:sameBut g ((((g.setCell (Ad y 2) (Sx TX)).setCell (Ad y 6) (.slice Y O.length Z)).setCell (Ad y 8) (.bool true)).setCell (Ad y 5) (I6 (S.id+1))) (λk=>k=y):=(((B6 (S:=λk=>k=y) rfl).trans (B6 (S:=λk=>k=y) rfl)).trans (B6 (S:=λk=>k=y) rfl)).trans (B6 (S:=λk=>k=y) rfl);have m:=s.out.trans (R.out.mono s.out.size);have o2:=Bt H5.out m;rw[HA1.out]at o2;exact Mt X.out m J.out hs b4 (IJ (lo':=0) X.out J.out hs (Bt (HN4.out lo) R.out)) (IJ (lo':=0) X.out J.out hs o2)
      . have HM8:Hid (decide (1<=S.mine.length)=true):=by show _=_;rw[P];rfl
        have HM9:Hid (decide (2<=S.mine.length)=false):=by show _=_;rw[P];rfl
        have HS1:Hid (Fj u S q = { S with doc:=TX,mine:=[m1,O] }):=by show _=_;rw[HS.out];simp[P,Dx]
        have HA1:Hid (B8 S 0=m1):=by show _=_;unfold B8;rw[P];rfl
        clear CC HS P
        go_wp2_with (first
         | (go_at_call 47;refine(CA.out _ _ _ HN4'.out).mono ?_;rintro e g ⟨rfl,t⟩;have R:=Aa t;have a:=(t.block y (As HK4.out)).trans HK4.out;have J:=Aa a;have HK55:Hid (g.heap[y]?=some (Oc #[I6 who,I6 u,Sx S.doc,Sx S.seen,I6 S.rev,I6 S.id,.slice p1 n1 c1,.slice p2 n2 c2,.bool true,.bool false,I6 S.drops] 69)):=by have h:=a;unfold Hl at h;rw[HM8.out,HM9.out]at h;exact h
            have t5:g.cell? (Ad y 5)=some (I6 S.id):=(Ct a).2.2.2.2.2.1;have t22:g.cell? (Ad y 2)=some (Sx S.doc):=(Ct a).2.2.1;have t6:g.cell? (Ad y 6)=some (.slice p1 n1 c1):=(Ct a).2.2.2.2.2.2.1;have t7:g.cell? (Ad y 7)=some (.slice p2 n2 c2):=(Ct a).2.2.2.2.2.2.2.1;have t8:g.cell? (Ad y 8)=some (.bool true):=by have:=(Ct a).2.2.2.2.2.2.2.2.1;rwa[HM8.out]at this
            have t9:g.cell? (Ad y 9)=some (.bool false):=by have:=(Ct a).2.2.2.2.2.2.2.2.2.1;rwa[HM9.out]at this
            have W:∀o,g.frozen? (Ad y o)=false:=λo=>Gf a;have f2:=W 2;have f5:=W 5;have f6:=W 6;have f7:=W 7;have f8:=W 8;have f9:=W 9
            clear t a W))
        go_ret;rw[HED.out,HS1.out];refine⟨rfl,?_⟩;have b1:=heap_setCell_same g y 2 _ _ (Sx TX) HK55.out;have b2:=heap_setCell_same _ y 7 _ _ (.slice Y O.length Z) b1;have b3:=heap_setCell_same _ y 9 _ _ (.bool true) b2;have hs:sameBut g (((g.setCell (Ad y 2) (Sx TX)).setCell (Ad y 7) (.slice Y O.length Z)).setCell (Ad y 9) (.bool true)) (λk=>k=y):=((B6 (S:=λk=>k=y) rfl).trans (B6 (S:=λk=>k=y) rfl)).trans (B6 (S:=λk=>k=y) rfl);have m:=s.out.trans (R.out.mono s.out.size);have o1:=Bt H4.out m;rw[HA1.out]at o1;exact Mt X.out m J.out hs b3 (IJ (lo':=0) X.out J.out hs o1) (IJ (lo':=0) X.out J.out hs (Bt (HN4.out lo) R.out))
      . have HM8:Hid (decide (1<=S.mine.length)=true):=by show _=_;rw[P];rfl
        have HM9:Hid (decide (2<=S.mine.length)=true):=by show _=_;rw[P];rfl
        have HS1:Hid (Fj u S q = { S with doc:=TX,mine:=[m1,Aq (Ha m2 O)] }):=by show _=_;rw[HS.out];simp[P,Dx]
        have HA1:Hid (B8 S 0=m1):=by show _=_;unfold B8;rw[P];rfl
        have HA2:Hid (B8 S 1=m2):=by show _=_;unfold B8;rw[P];rfl
        have HMM:=Aa P;clear HS P
        go_wp2_with (first
         | (go_at_call 47;refine(CA.out _ _ _ HN4'.out).mono ?_;rintro e g ⟨rfl,t⟩;have R:=Aa t;have a:=(t.block y (As HK4.out)).trans HK4.out;have J:=Aa a;have HK55:Hid (g.heap[y]?=some (Oc #[I6 who,I6 u,Sx S.doc,Sx S.seen,I6 S.rev,I6 S.id,.slice p1 n1 c1,.slice p2 n2 c2,.bool true,.bool true,I6 S.drops] 69)):=by have h:=a;unfold Hl at h;rw[HM8.out,HM9.out]at h;exact h
            have t5:g.cell? (Ad y 5)=some (I6 S.id):=(Ct a).2.2.2.2.2.1;have t22:g.cell? (Ad y 2)=some (Sx S.doc):=(Ct a).2.2.1;have t6:g.cell? (Ad y 6)=some (.slice p1 n1 c1):=(Ct a).2.2.2.2.2.2.1;have t7:g.cell? (Ad y 7)=some (.slice p2 n2 c2):=(Ct a).2.2.2.2.2.2.2.1;have t8:g.cell? (Ad y 8)=some (.bool true):=by have:=(Ct a).2.2.2.2.2.2.2.2.1;rwa[HM8.out]at this
            have t9:g.cell? (Ad y 9)=some (.bool true):=by have:=(Ct a).2.2.2.2.2.2.2.2.2.1;rwa[HM9.out]at this
            have W:∀o,g.frozen? (Ad y o)=false:=λo=>Gf a;have f2:=W 2;have f5:=W 5;have f6:=W 6;have f7:=W 7;have f8:=W 8;have f9:=W 9
            clear t a W)
         | (go_at_call 48;have hs6:sameBut g (g.setCell (Ad y 2) (Sx TX)) (λk=>k=y):=B6 (S:=λk=>k=y) rfl;have b1:=heap_setCell_same g y 2 _ _ (Sx TX) HK55.out;have m:=s.out.trans (R.out.mono s.out.size);have o2:=Bt H5.out m;rw[HA2.out]at o2;refine(CC.out m1 m2 _ _ _ _ _ _ HMM.out (IJ (lo':=0) X.out J.out hs6 o2).1 (IJ (lo':=0) X.out J.out hs6 (Bt (HN4.out lo) R.out)).1).mono ?_;rintro e w7 ⟨v7,rfl,hn7,hb7⟩;obtain⟨p7,c7,rfl⟩:=IC hn7;have hk7:=(hb7.block y (As b1)).trans b1;have HK7:=Aa hk7;have HN7:Hid (∀lo',Ar lo' w7 (.slice p7 (Aq (Ha m2 O)).length c7) (Aq (Ha m2 O))):=λlo'=>Ev hn7;have HB7:=Aa hb7;have HS6:=Aa hs6;have f77:=fZ hk7 7;have t77:=cQ hk7 7 rfl;clear hs6 b1 m o2 hn7 hb7 hk7))
        go_ret;rw[HED.out,HS1.out];refine⟨rfl,?_⟩;have m:=s.out.trans (R.out.mono s.out.size);have o1:=Bt H4.out m;rw[HA1.out]at o1;have hs67:=HS6.out.trans (Cf HB7.out λk=>k=y);have b7:=heap_setCell_same w7 y 7 _ _ (.slice p7 (Aq (Ha m2 O)).length c7) HK7.out;have hs78:sameBut w7 (w7.setCell (Ad y 7) (.slice p7 (Aq (Ha m2 O)).length c7)) (λk=>k=y):=B6 (S:=λk=>k=y) rfl;have o7:Ar lo (w7.setCell (Ad y 7) (.slice p7 (Aq (Ha m2 O)).length c7)) (.slice p7 (Aq (Ha m2 O)).length c7) (Aq (Ha m2 O)):=Eu (HN7.out lo) hs78 λk _ hk=>by obtain rfl:=hk;exact⟨X.out,C6 HK7.out (by decide)⟩
        exact Mt X.out m J.out (hs67.trans hs78) b7 (IJ (lo':=0) X.out J.out (hs67.trans hs78) o1) o7
      . have:=HTW.out;rw[P]at this;simp at this
theorem g9(h:Cj lo w y who u S)(l:okK 2000 S)(j:Ck u)(v:Value)(q:List Pt)(g:Ae w v q)(f:∀p∈q,Cp p)(a:∀p∈q,p.put.length<=300)(c:S.seen.length<=100000)(d:0<=S.id/\S.id<=1000000) :
    Cg 12 #[Pd y 0,v] w λe w'=>e=.returned (I6 (edE u S q))/\Cj lo w' y who u (Fj u S q)/\sameBut w w' λk=>k=y:=by
 by_cases b:60<q.length
 . have i:edE u S q=4:=if_pos (.inl b)
   have m:Fj u S q=S:=if_neg (by rw[i];decide);rw[i,m];exact(jH h v q g b).mono λe w' ⟨n,o⟩=>⟨n,NN h o⟩
 . exact j0 h l j v q g f a b c d
end
section
attribute [local go_sem] Oper.semAt_some Dz Dl
variable {lo y : Nat}{who u c i : Int}{S : Cl}{v1 v2 v : Value}{x : List Pt}{w : World}
structure ZR (lo y β:Nat) (who u c i:Int) (S:Cl) (v1 v2 v:Value) (x:List Pt) (wx:World):Prop where
 low:lo<=y
 blk:wx.heap[y]?=some (Oc (Hl who u S v1 v2) 69)
 o1:Ar lo wx v1 (B8 S 0)
 o2:Ar lo wx v2 (B8 S 1)
 box:wx.heap[β]?=some (Oc #[I6 c,I6 i,v] 58)
 op:Ar lo wx v x
theorem ZR.grow{b:Nat}{w':World}(h:ZR lo y b who u c i S v1 v2 v x w)(a:Bw w w'):ZR lo y b who u c i S v1 v2 v x w' :=
 ⟨h.low,(a.block y (As h.blk)).trans h.blk,Bt h.o1 a,Bt h.o2 a,(a.block b (As h.box)).trans h.box,Bt h.op a⟩
theorem ME(b:lo<=y)(d:w.heap[y]?=some (Oc (Hl who u S v1 v2) 69))(e:Ar lo w v1 (B8 S 0))(g:Ar lo w v2 (B8 S 1))(f:Ar lo w v x) :
    ZR lo y w.heap.size who u c i S v1 v2 v x (w.alloc (Oc #[I6 c,I6 i,v] 58)):=by
 have a:Bw w (w.alloc (Oc #[I6 c,I6 i,v] 58)):=zA _ _;exact⟨b,(a.block y (As d)).trans d,Bt e a,Bt g a,heap_alloc_new _ _,Bt f a⟩
theorem ic(h:Cj lo w y who u S)(rev c i:Int)(v:Value)(x:List Pt)(d:Ar lo w v x)(g:rev≠S.rev) :
    Cg 52 #[Pd y 0,I6 rev,.agg #[I6 c,I6 i,v]] w (Rt w (I6 0)):=by
 have j:=Ks h;obtain⟨a,v1,v2,f,b,e⟩:=h;obtain⟨o,s,rfl⟩:=C7 b;obtain⟨p,q,rfl⟩:=C7 e;obtain⟨l,m,rfl⟩:=C7 d;have n:Hid _:=ME (c:=c) (i:=i) a f b e d;have k:(rev==S.rev)=false:=beq_eq_false_iff_ne.2 g;generalize x.length=xn at *;clear f b e d a
 . skip
   go_enter func52,ntmps52
   have r:(w.alloc (Oc #[I6 c,I6 i,.slice l xn m] 58)).cell? (Ad y 4)=some (I6 S.rev):=(Ct n.out.blk).2.2.2.2.1
   go_wp2_with (go_at_call 9999)
   go_ret;exact⟨rfl,zA _ _⟩
theorem ia(h:Cj lo w y who u S)(c i:Int)(v:Value)(x:List Pt)(B:Ar lo w v x)(g:∀p∈x,Cp p)(z:Al x<=400000)(X:x.length<=1000000)(A:S.seen.length<=100000)(O:ordE x S.seen≠0) :
    Cg 52 #[Pd y 0,I6 S.rev,.agg #[I6 c,I6 i,v]] w (Rt w (I6 15)):=by
 have R:=Ks h;obtain⟨j,v1,v2,L,t,s⟩:=h;obtain⟨C,J,rfl⟩:=C7 t;obtain⟨D,I,rfl⟩:=C7 s;obtain⟨n,o,rfl⟩:=C7 B;have F:Hid _:=ME (c:=c) (i:=i) j L t s B;have N:=Aa λm (U:ZR lo y w.heap.size who u c i S (.slice C (B8 S 0).length J) (.slice D (B8 S 1).length I) (.slice n x.length o) x m)=>IR _ x S.seen m U.op.1 g (λq Y=>by have:=Gh q _ Y;omega) (by omega) (by omega) (by omega);rw[if_neg O]at N;have Z:(ordE x S.seen==0)=false:=beq_eq_false_iff_ne.2 O;generalize ordE x S.seen=E at *;generalize hxn:x.length=xn at *;generalize hn1:(B8 S 0).length=n1 at *;generalize hn2:(B8 S 1).length=n2 at *;clear L t s B j g z X A hxn hn1 hn2;have b:Hid (Bw w (w.alloc (Oc #[I6 c,I6 i,.slice n xn o] 58))):=zA _ _
 . skip
   go_enter func52,ntmps52
   have x4:(w.alloc (Oc #[I6 c,I6 i,.slice n xn o] 58)).cell? (Ad y 4)=some (I6 S.rev):=(Ct F.out.blk).2.2.2.2.1
   go_wp2_with (go_at_call 9999)
   refine wz (λm:World=>ZR lo y w.heap.size who u c i S (.slice C n1 J) (.slice D n2 I) (.slice n xn o) x m) 12 F.out ZR.grow λw3 d a G e=>?_;have P:=λf=>cQ (e.but f).box 2 rfl;have W:∀f,(G f).cell? (Ad y 3)=some (Sx S.seen):=λf=>(Ct (e.but f).blk).2.2.2.1;(iterate 6 (refine ay e a λ_ k=>?_;go_simp;apply k;clear k))
   (refine ay e a λK H=>?_;go_simp;apply Exists.intro;refine⟨λ_=>?_,H _ ?_⟩;exact N.out _ (e.but _);clear H K)
   (iterate 5 (refine ay e a λ_ k=>?_;go_simp;apply k;clear k));clear P W e;refine ae ?_;intro Q l;have r:Hid (Bw w Q):=b.out.trans ((d.trans (l.mono d.size)).mono b.out.size);clear d l a;go_wp2;go_ret;exact⟨rfl,r.out⟩
theorem er(h:Cj lo w y who u S)(hk:okK 2000 S)(c i:Int)(v:Value)(x:List Pt)(hx:Ar lo w v x)(hsz:S.seen.length+Al x<=500000)(hrv:0<=S.rev/\S.rev<=1000000)(ho:ordE x S.seen=0)(R:S.mine=[]) :
    Cg 52 #[Pd y 0,I6 S.rev,.agg #[I6 c,I6 i,v]] w λe w'=>e=.returned (I6 0)/\Cj lo w' y who u { S with seen:=Aj x S.seen,rev:=S.rev+1,mine:=(Di S.mine x).1,doc:=Aj (Di S.mine x).2 S.doc }/\sameBut w w' λk=>k=y:=by
 have hlt:=Ks h;obtain⟨J,v1,v2,h3,h4,h5⟩:=h;obtain⟨p1,c1,rfl⟩:=C7 h4;obtain⟨p2,c2,rfl⟩:=C7 h5;obtain⟨N,O,rfl⟩:=C7 hx;have n:=JS hk.text ho;have U:S.doc=S.seen:=by have:=hk.doc;rw[R]at this;exact this
 have H0:Hid _:=ME (c:=c) (i:=i) J h3 h4 h5 hx;have CA:Hid (∀l,Ae l (.slice N x.length O) x->Cg 47 #[.slice N x.length O,Sx S.seen] l (Rt l (.tuple #[Sx (Aj x S.seen),I6 0]))):=λl hz=>by
  have hf:=n.fine (show S.seen.length+Al x<1000000 by omega);have:=IR _ x S.seen l hz (n.wf (show S.seen.length+Al x<1000000 by omega)) (λq hq=>by have:=Gh q _ hq;omega) (by omega) hf.len (by omega);rw[n.ord,if_pos rfl]at this;exact this
 have Q:Hid (decide (1<=S.mine.length)=false):=by show _=_;rw[R];rfl
 have HM9:Hid (decide (2<=S.mine.length)=false):=by show _=_;rw[R];rfl
 have D:=Aa R;have P:=Aa U;have hrv1:wrap64 (S.rev+1)=S.rev+1:=E0 (by omega) (by omega);obtain⟨hr0,hr1⟩:=hrv;have hne:y≠w.heap.size:=by omega
 have hne':w.heap.size≠y:=by omega
 have HCC:(c==who)=true\/(c==who)=false:=by cases (c==who)<;>simp
 generalize hTX:Aj x S.seen=tx at *;have HTX:=Aa hTX;clear hTX;generalize hxn:x.length=xn at *;generalize hn1:(B8 S 0).length=n1 at *;generalize hn2:(B8 S 1).length=n2 at *;have m:=Aa J;clear h3 h4 h5 hx J hsz hxn hn1 hn2 n U R hk ho;have r:Hid (Bw w (w.alloc (Oc #[I6 c,I6 i,.slice N xn O] 58))):=zA _ _
 rcases HCC with hc1|hc1
 all_goals as_aux_lemma =>
  skip
  go_enter func52,ntmps52
  have x4:(w.alloc (Oc #[I6 c,I6 i,.slice N xn O] 58)).cell? (Ad y 4)=some (I6 S.rev):=(Ct H0.out.blk).2.2.2.2.1
  go_wp2_with (go_at_call 9999)
  refine wz (λl:World=>ZR lo y w.heap.size who u c i S (.slice p1 n1 c1) (.slice p2 n2 c2) (.slice N xn O) x l) 12 H0.out ZR.grow λw3 A f G d=>?_;have e2:=λa=>cQ (d.but a).box 2 rfl;have y3:∀a,(G a).cell? (Ad y 3)=some (Sx S.seen):=λa=>(Ct (d.but a).blk).2.2.2.1;(iterate 6 (refine ay d f λ_ k=>?_;go_simp;apply k;clear k))
  (refine ay d f λK hK=>?_;go_simp;apply Exists.intro;refine⟨λ_=>?_,hK _ ?_⟩;exact CA.out _ (d.but _).op.1;clear hK K)
  (iterate 5 (refine ay d f λ_ k=>?_;go_simp;apply k;clear k));clear e2 y3 d;refine ae ?_;intro v3 L;have HZ3:=Aa (ZR.grow f L);have HB3:Hid (Bw w v3):=r.out.trans ((A.trans (L.mono A.size)).mono r.out.size);have s:=Aa HB3;clear A L f;go_wp2;refine wz (λl:World=>ZR lo y w.heap.size who u c i S (.slice p1 n1 c1) (.slice p2 n2 c2) (.slice N xn O) x l) 23 HZ3.out ZR.grow λw6 F I G d=>?_;have e0:=λa=>cQ (d.but a).box 0 rfl;have e1:=λa=>cQ (d.but a).box 1 rfl;have y0:∀a,(G a).cell? (Ad y 0)=some (I6 who):=λa=>(Ct (d.but a).blk).1;have y5:∀a,(G a).cell? (Ad y 5)=some (I6 S.id):=λa=>(Ct (d.but a).blk).2.2.2.2.2.1;have y8:∀a,(G a).cell? (Ad y 8)=some (.bool false):=λa=>by have:=(Ct (d.but a).blk).2.2.2.2.2.2.2.2.1;rwa[Q.out]at this
  (iterate 23 (refine ay d I λ_ k=>?_;go_simp;apply k;clear k));clear e0 e1 y0 y5 y8 d;refine ae ?_;intro j E;have g:=Aa (ZR.grow I E);have HB6:Hid (Bw w j):=s.out.trans ((F.trans (E.mono F.size)).mono s.out.size);clear F E I;have H:=g.out.blk;have Z:=Aa H;have z:Hid (j.heap[y]?=some (Oc #[I6 who,I6 u,Sx S.doc,Sx S.seen,I6 S.rev,I6 S.id,.slice p1 n1 c1,.slice p2 n2 c2,.bool false,.bool false,I6 S.drops] 69)):=by have h:=H;unfold Hl at h;rw[Q.out,HM9.out]at h;exact h
  have t2:j.cell? (Ad y 2)=some (Sx S.seen):=by have:=(Ct H).2.2.1;rwa[P.out]at this
  have t3:j.cell? (Ad y 3)=some (Sx S.seen):=(Ct H).2.2.2.1;have t4:j.cell? (Ad y 4)=some (I6 S.rev):=(Ct H).2.2.2.2.1;have t8:=cQ z.out 8 rfl;have t9:=cQ z.out 9 rfl;have Y:∀o,j.frozen? (Ad y o)=false:=λo=>Gf H;have f2:=Y 2;have f3:=Y 3;have f4:=Y 4;have e2:=cQ g.out.box 2 rfl;have X:Hid (sameBut j ((j.setCell (Ad y 3) (Sx tx)).setCell (Ad y 4) (I6 (S.rev+1))) λk=>k=y):=(B6 (S:=λk=>k=y) rfl).trans (B6 (S:=λk=>k=y) rfl);have W:Hid (((j.setCell (Ad y 3) (Sx tx)).setCell (Ad y 4) (I6 (S.rev+1))).heap[y]?=_):=heap_setCell_same _ y 4 _ _ (I6 (S.rev+1)) (heap_setCell_same j y 3 _ _ (Sx tx) z.out);clear H Y
  go_wp2_with (go_at_call 47;refine(CA.out _ (IJ (lo':=0) m.out Z.out X.out g.out.op).1).mono ?_;rintro e w7 ⟨rfl,B⟩;have p:=(B.block y (As W.out)).trans W.out;have HK7:=Aa p;have HB7:=Aa B;have s2:=cQ p 2 rfl;have s7:=fZ p 2;clear B p)
  go_ret;refine⟨rfl,?_⟩;have hS:({ S with seen:=tx,rev:=S.rev+1,mine:=(Di S.mine x).1,doc:=Aj (Di S.mine x).2 S.doc }:Cl) = { S with seen:=tx,rev:=S.rev+1,mine:=[],doc:=tx }:=by rw[D.out,P.out];exact congrArg (λt=>({ S with seen:=tx,rev:=S.rev+1,mine:=[],doc:=t }:Cl)) HTX.out
  rw[hS];have b7:=heap_setCell_same w7 y 2 _ _ (Sx tx) HK7.out;have C:=X.out.trans ((Cf HB7.out λk=>k=y).trans (B6 (S:=λk=>k=y) (b:=y) (o:=2) (v:=Sx tx) rfl));have hA1:B8 S 0=[]:=by unfold B8;rw[D.out];rfl
  have hA2:B8 S 1=[]:=by unfold B8;rw[D.out];rfl
  have o1:=g.out.o1;have o2:=g.out.o2;rw[hA1]at o1;rw[hA2]at o2;exact Mt m.out HB6.out Z.out C b7 (IJ (lo':=0) m.out Z.out C o1) (IJ (lo':=0) m.out Z.out C o2)
theorem es(h:Cj lo w y who u S)(l:okK 2000 S)(c i:Int)(v:Value)(x:List Pt)(hx:Ar lo w v x)(hsz:S.seen.length+Al x<=500000)(hrv:0<=S.rev/\S.rev<=1000000)(ho:ordE x S.seen=0){m1:List Pt}(H:S.mine=[m1])(hc:c≠who\/i≠S.id) :
    Cg 52 #[Pd y 0,I6 S.rev,.agg #[I6 c,I6 i,v]] w λe w'=>e=.returned (I6 0)/\Cj lo w' y who u { S with seen:=Aj x S.seen,rev:=S.rev+1,mine:=(Di S.mine x).1,doc:=Aj (Di S.mine x).2 S.doc }/\sameBut w w' λk=>k=y:=by
 have hlt:=Ks h;obtain⟨hlo,v1,v2,h3,h4,h5⟩:=h;obtain⟨W,R,rfl⟩:=C7 h4;obtain⟨p2,c2,rfl⟩:=C7 h5;obtain⟨I,J,rfl⟩:=C7 hx;have j:=JS l.text ho;obtain⟨_,P,_⟩:=OM S.mine x S.seen j l.all;have tp:=(ON 2000 S.mine x S.seen j l.all l.puts (by have:=Nat.mul_le_mul_right 2000 l.two;omega) (by omega)).2;rw[←l.doc]at P;have hdl:=l.len;have H0:Hid _:=ME (c:=c) (i:=i) hlo h3 h4 h5 hx;have CA:Hid (∀b,Ae b (.slice I x.length J) x->Cg 47 #[.slice I x.length J,Sx S.seen] b (Rt b (.tuple #[Sx (Aj x S.seen),I6 0]))):=λb hz=>by
  have hf:=j.fine (show S.seen.length+Al x<1000000 by omega);have:=IR _ x S.seen b hz (j.wf (show S.seen.length+Al x<1000000 by omega)) (λq hq=>by have:=Gh q _ hq;omega) (by omega) hf.len (by omega);rw[j.ord,if_pos rfl]at this;exact this
 rw[H]at P tp;have CD:Hid (∀pp cc b,Ae b (.slice pp (Aq (Bv true x m1)).length cc) (Aq (Bv true x m1))->Cg 47 #[.slice pp (Aq (Bv true x m1)).length cc,Sx S.doc] b (Rt b (.tuple #[Sx (Aj (Aq (Bv true x m1)) S.doc),I6 0]))):=λpp cc b hz=>by
  have P:good (Aq (Bv true x m1)) S.doc:=P;have tp:Al (Aq (Bv true x m1))=Al x:=tp;have hf:=P.fine (show S.doc.length+Al (Aq (Bv true x m1))<1000000 by omega);have:=IR _ (Aq (Bv true x m1)) S.doc b hz (P.wf (show S.doc.length+Al (Aq (Bv true x m1))<1000000 by omega)) (λq hq=>by have:=Gh q _ hq;omega) (by omega) hf.len (by omega);rw[P.ord,if_pos rfl]at this;exact this
 have p:=l.all;have A:=l.puts;rw[H]at p A;have pm1:=A m1 (by simp);have CT1:=Aa λb (N:Ae b (.slice W (B8 S 0).length R) m1) (q2:Ae b (.slice I x.length J) x)=>OZ _ _ false m1 x S.seen b N q2 p.1 j (by omega) (by omega);have CT2:=Aa λb (N:Ae b (.slice I x.length J) x) (q2:Ae b (.slice W (B8 S 0).length R) m1)=>OZ _ _ true x m1 S.seen b N q2 j p.1 (by omega) (by omega);have HM8:Hid (decide (1<=S.mine.length)=true):=by show _=_;rw[H];rfl
 have HM9:Hid (decide (2<=S.mine.length)=false):=by show _=_;rw[H];rfl
 have HA1:Hid (B8 S 0=m1):=by show _=_;unfold B8;rw[H];rfl
 have HA2:Hid (B8 S 1=[]):=by show _=_;unfold B8;rw[H];rfl
 have hrv1:wrap64 (S.rev+1)=S.rev+1:=E0 (by omega) (by omega);obtain⟨hr0,hr1⟩:=hrv;have hne:y≠w.heap.size:=by omega
 have hne':w.heap.size≠y:=by omega
 have HCC:(c==who)=false\/(c==who)=true/\(i==S.id)=false:=by
  cases hb:c==who
  . exact .inl rfl
  . exact .inr ⟨rfl,beq_eq_false_iff_ne.2 (hc.resolve_left λh=>h (eq_of_beq hb))⟩
 clear hc;obtain⟨TD,Y⟩:∃TD,Aj (Aq (Bv true x m1)) S.doc=TD:=⟨_,rfl⟩;obtain⟨S2,hS2⟩:∃S2,({ S with seen:=Aj x S.seen,rev:=S.rev+1,mine:=(Di S.mine x).1,doc:=Aj (Di S.mine x).2 S.doc }:Cl)=S2:=⟨_,rfl⟩;rw[hS2];have HS2:Hid (S2 = { S with seen:=Aj x S.seen,rev:=S.rev+1,mine:=[Aq (Bv false m1 x)],doc:=TD }):=by show _=_;rw[←hS2,H,←Y];rfl
 rw[Y]at CD;clear hS2 Y;generalize hM1:Aq (Bv false m1 x)=M1 at *;clear hM1;generalize hX1:Aq (Bv true x m1)=X1 at *;clear hX1;generalize Aj x S.seen=tx at *;generalize hxn:x.length=xn at *;generalize hn1:(B8 S 0).length=n1 at *;generalize hn2:(B8 S 1).length=n2 at *;have n:=Aa hlo;clear h3 h4 h5 hx hlo hsz hxn hn1 hn2 j H l ho P tp hdl p A pm1;have L:Hid (Bw w (w.alloc (Oc #[I6 c,I6 i,.slice I xn J] 58))):=zA _ _
 rcases HCC with hc1|⟨hc1,hi1⟩
 all_goals as_aux_lemma =>
  skip
  go_enter func52,ntmps52
  have x4:(w.alloc (Oc #[I6 c,I6 i,.slice I xn J] 58)).cell? (Ad y 4)=some (I6 S.rev):=(Ct H0.out.blk).2.2.2.2.1
  go_wp2_with (go_at_call 9999)
  refine wz (λb:World=>ZR lo y w.heap.size who u c i S (.slice W n1 R) (.slice p2 n2 c2) (.slice I xn J) x b) 12 H0.out ZR.grow λw3 Q s G m=>?_;have e2:=λf=>cQ (m.but f).box 2 rfl;have y3:∀f,(G f).cell? (Ad y 3)=some (Sx S.seen):=λf=>(Ct (m.but f).blk).2.2.2.1;(iterate 6 (refine ay m s λ_ k=>?_;go_simp;apply k;clear k))
  (refine ay m s λK hK=>?_;go_simp;apply Exists.intro;refine⟨λ_=>?_,hK _ ?_⟩;exact CA.out _ (m.but _).op.1;clear hK K)
  (iterate 5 (refine ay m s λ_ k=>?_;go_simp;apply k;clear k));clear e2 y3 m;refine ae ?_;intro v3 hv3;have HZ3:=Aa (ZR.grow s hv3);have HB3:Hid (Bw w v3):=L.out.trans ((Q.trans (hv3.mono Q.size)).mono L.out.size);have O:=Aa HB3;clear Q hv3 s;go_wp2;refine wz (λb:World=>ZR lo y w.heap.size who u c i S (.slice W n1 R) (.slice p2 n2 c2) (.slice I xn J) x b) 23 HZ3.out ZR.grow λw6 hb6 hz6 G m=>?_;have e0:=λf=>cQ (m.but f).box 0 rfl;have e1:=λf=>cQ (m.but f).box 1 rfl;have y0:∀f,(G f).cell? (Ad y 0)=some (I6 who):=λf=>(Ct (m.but f).blk).1;have y5:∀f,(G f).cell? (Ad y 5)=some (I6 S.id):=λf=>(Ct (m.but f).blk).2.2.2.2.2.1;have y8:∀f,(G f).cell? (Ad y 8)=some (.bool true):=λf=>by have:=(Ct (m.but f).blk).2.2.2.2.2.2.2.2.1;rwa[HM8.out]at this
  (iterate 23 (refine ay m hz6 λ_ k=>?_;go_simp;apply k;clear k));clear e0 e1 y0 y5 y8 m;refine ae ?_;intro E Z;have t:=Aa (ZR.grow hz6 Z);have HB6:Hid (Bw w E):=O.out.trans ((hb6.trans (Z.mono hb6.size)).mono O.out.size);clear hb6 Z hz6;have k6:=t.out.blk;have K6:=Aa k6;have a:E.heap[y]?=some (Oc #[I6 who,I6 u,Sx S.doc,Sx S.seen,I6 S.rev,I6 S.id,.slice W n1 R,.slice p2 n2 c2,.bool true,.bool false,I6 S.drops] 69):=by have h:=k6;unfold Hl at h;rw[HM8.out,HM9.out]at h;exact h
  have K66:=Aa a;have O1:Hid (Ar lo E (.slice W n1 R) m1):=by have h:=t.out.o1;rw[HA1.out]at h;exact h
  have O2:Hid (Ar lo E (.slice p2 n2 c2) []):=by have h:=t.out.o2;rw[HA2.out]at h;exact h
  have t3:=cQ a 3 rfl;have t4:=cQ a 4 rfl;have f3:=fZ a 3;have f4:=fZ a 4;have d2v6:=cQ a 2 rfl;have d6v6:=cQ a 6 rfl;have d7v6:=cQ a 7 rfl;have d8v6:=cQ a 8 rfl;have d9v6:=cQ a 9 rfl;have f2v6:=fZ a 2;have f6v6:=fZ a 6;have f7v6:=fZ a 7;have e2:=cQ t.out.box 2 rfl;have F:Hid (sameBut E ((E.setCell (Ad y 3) (Sx tx)).setCell (Ad y 4) (I6 (S.rev+1))) λk=>k=y):=(B6 (S:=λk=>k=y) rfl).trans (B6 (S:=λk=>k=y) rfl);have HB1:Hid (((E.setCell (Ad y 3) (Sx tx)).setCell (Ad y 4) (I6 (S.rev+1))).heap[y]?=some (Oc #[I6 who,I6 u,Sx S.doc,Sx tx,I6 (S.rev+1),I6 S.id,.slice W n1 R,.slice p2 n2 c2,.bool true,.bool false,I6 S.drops] 69)):=heap_setCell_same _ y 4 _ _ (I6 (S.rev+1)) (heap_setCell_same E y 3 _ _ (Sx tx) K66.out);clear k6 a
  go_wp2_with (first
   | (have _:=HX8;go_at_call 47;have hsl:sameBut U (U.setCell (Ad y 6) (.slice N M1.length d1)) (λk=>k=y):=B6 (S:=λk=>k=y) rfl;have bl:=heap_setCell_same U y 6 _ _ (.slice N M1.length d1) C.out;refine(CD.out _ _ _ (Eu (lo:=lo) (HX8.out lo) hsl λk _ l=>by obtain rfl:=l;exact⟨n.out,C6 C.out (by decide)⟩).1).mono ?_;rintro e D ⟨rfl,B⟩;have o:=(B.block y (As bl)).trans bl;have HK12:=Aa o;have HB12:=Aa B;have HSL:=Aa hsl;have d2w12:=cQ o 2 rfl;have f2w12:=fZ o 2;clear hsl bl B o)
   | (have _:=HM7;go_at_call 86;refine(CT2.out _ (OX7.out).1 O17.out.1).mono ?_;rintro e U ⟨v8',rfl,hn8,z⟩;obtain⟨q2,d2,rfl⟩:=IC hn8;have d:=(z.block y (As HK7.out)).trans HK7.out;have C:=Aa d;have HX8:Hid (∀lo',Ar lo' U (.slice q2 X1.length d2) X1):=λlo'=>Ev hn8;have HM8':Hid (∀lo',Ar lo' U (.slice N M1.length d1) M1):=λlo'=>Bt (HM7.out lo') z;have O28:=Aa (Bt O27.out z);have HB8:=Aa z;have d2w8:=cQ d 2 rfl;have d6w8:=cQ d 6 rfl;have d7w8:=cQ d 7 rfl;have d8w8:=cQ d 8 rfl;have d9w8:=cQ d 9 rfl;have f2w8:=fZ d 2;have f6w8:=fZ d 6;have f7w8:=fZ d 7;clear hn8 z d)
   | (go_at_call 86;have x6:=IJ (lo':=0) n.out K6.out F.out t.out.op;have o6:=IJ (lo':=0) n.out K6.out F.out O1.out;have o26:=IJ (lo':=0) n.out K6.out F.out O2.out;refine(CT1.out _ o6.1 x6.1).mono ?_;rintro e w7 ⟨v7,rfl,X,r⟩;obtain⟨N,d1,rfl⟩:=IC X;have g:=(r.block y (As HB1.out)).trans HB1.out;have HK7:=Aa g;have HM7:Hid (∀lo',Ar lo' w7 (.slice N M1.length d1) M1):=λlo'=>Ev X;have OX7:=Aa (Bt x6 r);have O17:=Aa (Bt o6 r);have O27:=Aa (Bt o26 r);have HB7:=Aa r;have d2w7:=cQ g 2 rfl;have d6w7:=cQ g 6 rfl;have d7w7:=cQ g 7 rfl;have d8w7:=cQ g 8 rfl;have d9w7:=cQ g 9 rfl;have f2w7:=fZ g 2;have f6w7:=fZ g 6;have f7w7:=fZ g 7;clear x6 o6 o26 X r g))
  go_ret;refine⟨rfl,?_⟩;rw[HS2.out];have b12:=heap_setCell_same D y 2 _ _ (Sx TD) HK12.out;have hs12:sameBut D (D.setCell (Ad y 2) (Sx TD)) (λk=>k=y):=B6 (S:=λk=>k=y) rfl;have hT:sameBut U (D.setCell (Ad y 2) (Sx TD)) (λk=>k=y):=HSL.out.trans ((Cf HB12.out λk=>k=y).trans hs12);have hA:sameBut E U (λk=>k=y):=F.out.trans ((Cf HB7.out λk=>k=y).trans (Cf HB8.out λk=>k=y));exact Mt n.out HB6.out K6.out (hA.trans hT) b12 (Eu (HM8'.out lo) hT λk _ l=>by obtain rfl:=l;exact⟨n.out,C6 C.out (by decide)⟩) (Eu O28.out hT λk _ l=>by obtain rfl:=l;exact⟨n.out,C6 C.out (by decide)⟩)
theorem et(h:Cj lo w y who u S)(o:okK 2000 S)(c i:Int)(v:Value)(x:List Pt)(hx:Ar lo w v x)(hsz:S.seen.length+Al x<=500000)(hrv:0<=S.rev/\S.rev<=1000000)(ho:ordE x S.seen=0){m1 m2:List Pt}(hm:S.mine=[m1,m2])(hc:c≠who\/i≠S.id) :
    Cg 52 #[Pd y 0,I6 S.rev,.agg #[I6 c,I6 i,v]] w λe w'=>e=.returned (I6 0)/\Cj lo w' y who u { S with seen:=Aj x S.seen,rev:=S.rev+1,mine:=(Di S.mine x).1,doc:=Aj (Di S.mine x).2 S.doc }/\sameBut w w' λk=>k=y:=by
 have hlt:=Ks h;obtain⟨hlo,v1,v2,h3,h4,h5⟩:=h;obtain⟨p1,c1,rfl⟩:=C7 h4;obtain⟨Q,Y,rfl⟩:=C7 h5;obtain⟨pv,cv,rfl⟩:=C7 hx;have j:=JS o.text ho;obtain⟨_,t2,_⟩:=OM S.mine x S.seen j o.all;have tp:=(ON 2000 S.mine x S.seen j o.all o.puts (by have:=Nat.mul_le_mul_right 2000 o.two;omega) (by omega)).2;rw[←o.doc]at t2;have hdl:=o.len;have H0:Hid _:=ME (c:=c) (i:=i) hlo h3 h4 h5 hx;have CA:Hid (∀a,Ae a (.slice pv x.length cv) x->Cg 47 #[.slice pv x.length cv,Sx S.seen] a (Rt a (.tuple #[Sx (Aj x S.seen),I6 0]))):=λa hz=>by
  have hf:=j.fine (show S.seen.length+Al x<1000000 by omega);have:=IR _ x S.seen a hz (j.wf (show S.seen.length+Al x<1000000 by omega)) (λq hq=>by have:=Gh q _ hq;omega) (by omega) hf.len (by omega);rw[j.ord,if_pos rfl]at this;exact this
 rw[hm]at t2 tp;have CD:Hid (∀L I a,Ae a (.slice L (Aq (Bv true (Aq (Bv true x m1)) m2)).length I) (Aq (Bv true (Aq (Bv true x m1)) m2))->Cg 47 #[.slice L (Aq (Bv true (Aq (Bv true x m1)) m2)).length I,Sx S.doc] a (Rt a (.tuple #[Sx (Aj (Aq (Bv true (Aq (Bv true x m1)) m2)) S.doc),I6 0]))):=λL I a hz=>by
  have t2:good (Aq (Bv true (Aq (Bv true x m1)) m2)) S.doc:=t2;have tp:Al (Aq (Bv true (Aq (Bv true x m1)) m2))=Al x:=tp;have hf:=t2.fine (show S.doc.length+Al (Aq (Bv true (Aq (Bv true x m1)) m2))<1000000 by omega);have:=IR _ (Aq (Bv true (Aq (Bv true x m1)) m2)) S.doc a hz (t2.wf (show S.doc.length+Al (Aq (Bv true (Aq (Bv true x m1)) m2))<1000000 by omega)) (λq hq=>by have:=Gh q _ hq;omega) (by omega) hf.len (by omega);rw[t2.ord,if_pos rfl]at this;exact this
 have d:=o.all;have z:=o.puts;rw[hm]at d z;have pm1:=z m1 (by simp);have CT1:=Aa λa (C:Ae a (.slice p1 (B8 S 0).length c1) m1) (U:Ae a (.slice pv x.length cv) x)=>OZ _ _ false m1 x S.seen a C U d.1 j (by omega) (by omega);have CT2:=Aa λa (C:Ae a (.slice pv x.length cv) x) (U:Ae a (.slice p1 (B8 S 0).length c1) m1)=>OZ _ _ true x m1 S.seen a C U j d.1 (by omega) (by omega);have pm2:=z m2 (by simp);have hg2:=(OI true j d.1).1;have hp2:=(UL true j d.1 (show S.seen.length+Al x<1000000 by omega) (by omega)).1;have l1:=Qk d.1;have CT3:Hid (∀L I,(∀a,Ae a (.slice Q (B8 S 1).length Y) m2->Ae a (.slice L (Aq (Bv true x m1)).length I) (Aq (Bv true x m1))->Cg 86 #[.slice Q (B8 S 1).length Y,.slice L (Aq (Bv true x m1)).length I,.bool false] a λe w'=>∃v',e=.returned (.tuple #[v',I6 0])/\opN a.heap.size w' v' (Aq (Bv false m2 (Aq (Bv true x m1))))/\Bw a w')):=λL I a C U=>OZ _ _ false m2 (Aq (Bv true x m1)) (Aj m1 S.seen) a C U d.2.1 hg2 (by omega) (by omega);have CT4:Hid (∀L I,(∀a,Ae a (.slice L (Aq (Bv true x m1)).length I) (Aq (Bv true x m1))->Ae a (.slice Q (B8 S 1).length Y) m2->Cg 86 #[.slice L (Aq (Bv true x m1)).length I,.slice Q (B8 S 1).length Y,.bool true] a λe w'=>∃v',e=.returned (.tuple #[v',I6 0])/\opN a.heap.size w' v' (Aq (Bv true (Aq (Bv true x m1)) m2))/\Bw a w')):=λL I a C U=>OZ _ _ true (Aq (Bv true x m1)) m2 (Aj m1 S.seen) a C U hg2 d.2.1 (by omega) (by omega);have HM8:Hid (decide (1<=S.mine.length)=true):=by show _=_;rw[hm];rfl
 have HM9:Hid (decide (2<=S.mine.length)=true):=by show _=_;rw[hm];rfl
 have HA1:Hid (B8 S 0=m1):=by show _=_;unfold B8;rw[hm];rfl
 have HA2:Hid (B8 S 1=m2):=by show _=_;unfold B8;rw[hm];rfl
 have hrv1:wrap64 (S.rev+1)=S.rev+1:=E0 (by omega) (by omega);obtain⟨hr0,hr1⟩:=hrv;have hne:y≠w.heap.size:=by omega
 have hne':w.heap.size≠y:=by omega
 have HCC:(c==who)=false\/(c==who)=true/\(i==S.id)=false:=by
  cases hb:c==who
  . exact .inl rfl
  . exact .inr ⟨rfl,beq_eq_false_iff_ne.2 (hc.resolve_left λh=>h (eq_of_beq hb))⟩
 clear hc;obtain⟨TD,hTD⟩:∃TD,Aj (Aq (Bv true (Aq (Bv true x m1)) m2)) S.doc=TD:=⟨_,rfl⟩;obtain⟨S2,hS2⟩:∃S2,({ S with seen:=Aj x S.seen,rev:=S.rev+1,mine:=(Di S.mine x).1,doc:=Aj (Di S.mine x).2 S.doc }:Cl)=S2:=⟨_,rfl⟩;rw[hS2];have HS2:Hid (S2 = { S with seen:=Aj x S.seen,rev:=S.rev+1,mine:=[Aq (Bv false m1 x),Aq (Bv false m2 (Aq (Bv true x m1)))],doc:=TD }):=by show _=_;rw[←hS2,hm,←hTD];rfl
 rw[hTD]at CD;clear hS2 hTD;generalize hM1:Aq (Bv false m1 x)=M1 at *;clear hM1;generalize hM2:Aq (Bv false m2 (Aq (Bv true x m1)))=M2 at *;clear hM2;generalize hX2:Aq (Bv true (Aq (Bv true x m1)) m2)=X2 at *;clear hX2;generalize hX1:Aq (Bv true x m1)=X1 at *;clear hX1;generalize Aj x S.seen=tx at *;generalize hxn:x.length=xn at *;generalize hn1:(B8 S 0).length=n1 at *;generalize hn2:(B8 S 1).length=n2 at *;have p:=Aa hlo;clear h3 h4 h5 hx hlo hsz hxn hn1 hn2 j hm o ho t2 tp hdl d z pm1 pm2 hg2 hp2 l1;have HZ0B:Hid (Bw w (w.alloc (Oc #[I6 c,I6 i,.slice pv xn cv] 58))):=zA _ _
 rcases HCC with hc1|⟨hc1,hi1⟩
 all_goals as_aux_lemma =>
  skip
  go_enter func52,ntmps52
  have x4:(w.alloc (Oc #[I6 c,I6 i,.slice pv xn cv] 58)).cell? (Ad y 4)=some (I6 S.rev):=(Ct H0.out.blk).2.2.2.2.1
  go_wp2_with (go_at_call 9999)
  refine wz (λa:World=>ZR lo y w.heap.size who u c i S (.slice p1 n1 c1) (.slice Q n2 Y) (.slice pv xn cv) x a) 12 H0.out ZR.grow λw3 hb3 D G s=>?_;have e2:=λl=>cQ (s.but l).box 2 rfl;have y3:∀l,(G l).cell? (Ad y 3)=some (Sx S.seen):=λl=>(Ct (s.but l).blk).2.2.2.1;(iterate 6 (refine ay s D λ_ k=>?_;go_simp;apply k;clear k))
  (refine ay s D λK hK=>?_;go_simp;apply Exists.intro;refine⟨λ_=>?_,hK _ ?_⟩;exact CA.out _ (s.but _).op.1;clear hK K)
  (iterate 5 (refine ay s D λ_ k=>?_;go_simp;apply k;clear k));clear e2 y3 s;refine ae ?_;intro v3 hv3;have HZ3:=Aa (ZR.grow D hv3);have HB3:Hid (Bw w v3):=HZ0B.out.trans ((hb3.trans (hv3.mono hb3.size)).mono HZ0B.out.size);have HZ3B:=Aa HB3;clear hb3 hv3 D;go_wp2;refine wz (λa:World=>ZR lo y w.heap.size who u c i S (.slice p1 n1 c1) (.slice Q n2 Y) (.slice pv xn cv) x a) 23 HZ3.out ZR.grow λw6 hb6 hz6 G s=>?_;have e0:=λl=>cQ (s.but l).box 0 rfl;have e1:=λl=>cQ (s.but l).box 1 rfl;have y0:∀l,(G l).cell? (Ad y 0)=some (I6 who):=λl=>(Ct (s.but l).blk).1;have y5:∀l,(G l).cell? (Ad y 5)=some (I6 S.id):=λl=>(Ct (s.but l).blk).2.2.2.2.2.1;have y8:∀l,(G l).cell? (Ad y 8)=some (.bool true):=λl=>by have:=(Ct (s.but l).blk).2.2.2.2.2.2.2.2.1;rwa[HM8.out]at this
  (iterate 23 (refine ay s hz6 λ_ k=>?_;go_simp;apply k;clear k));clear e0 e1 y0 y5 y8 s;refine ae ?_;intro X hv6;have F:=Aa (ZR.grow hz6 hv6);have HB6:Hid (Bw w X):=HZ3B.out.trans ((hb6.trans (hv6.mono hb6.size)).mono HZ3B.out.size);clear hb6 hv6 hz6;have k6:=F.out.blk;have K6:=Aa k6;have f:X.heap[y]?=some (Oc #[I6 who,I6 u,Sx S.doc,Sx S.seen,I6 S.rev,I6 S.id,.slice p1 n1 c1,.slice Q n2 Y,.bool true,.bool true,I6 S.drops] 69):=by have h:=k6;unfold Hl at h;rw[HM8.out,HM9.out]at h;exact h
  have K66:=Aa f;have O1:Hid (Ar lo X (.slice p1 n1 c1) m1):=by have h:=F.out.o1;rw[HA1.out]at h;exact h
  have O2:Hid (Ar lo X (.slice Q n2 Y) m2):=by have h:=F.out.o2;rw[HA2.out]at h;exact h
  have t3:=cQ f 3 rfl;have t4:=cQ f 4 rfl;have f3:=fZ f 3;have f4:=fZ f 4;have d2v6:=cQ f 2 rfl;have d6v6:=cQ f 6 rfl;have d7v6:=cQ f 7 rfl;have d8v6:=cQ f 8 rfl;have d9v6:=cQ f 9 rfl;have f2v6:=fZ f 2;have f6v6:=fZ f 6;have f7v6:=fZ f 7;have e2:=cQ F.out.box 2 rfl;have Z:Hid (sameBut X ((X.setCell (Ad y 3) (Sx tx)).setCell (Ad y 4) (I6 (S.rev+1))) λk=>k=y):=(B6 (S:=λk=>k=y) rfl).trans (B6 (S:=λk=>k=y) rfl);have HB1:Hid (((X.setCell (Ad y 3) (Sx tx)).setCell (Ad y 4) (I6 (S.rev+1))).heap[y]?=some (Oc #[I6 who,I6 u,Sx S.doc,Sx tx,I6 (S.rev+1),I6 S.id,.slice p1 n1 c1,.slice Q n2 Y,.bool true,.bool true,I6 S.drops] 69)):=heap_setCell_same _ y 4 _ _ (I6 (S.rev+1)) (heap_setCell_same X y 3 _ _ (Sx tx) K66.out);clear k6 f
  go_wp2_with (first
   | (have _:=HX10;go_at_call 47;have hsl:sameBut r (r.setCell (Ad y 7) (.slice q3 M2.length d3)) (λk=>k=y):=B6 (S:=λk=>k=y) rfl;have bl:=heap_setCell_same r y 7 _ _ (.slice q3 M2.length d3) H.out;refine(CD.out _ _ _ (Eu (lo:=lo) (HX10.out lo) hsl λk _ o=>by obtain rfl:=o;exact⟨p.out,C6 H.out (by decide)⟩).1).mono ?_;rintro e W ⟨rfl,O⟩;have t:=(O.block y (As bl)).trans bl;have HK12:=Aa t;have HB12:=Aa O;have HSL:=Aa hsl;have d2w12:=cQ t 2 rfl;have f2w12:=fZ t 2;clear hsl bl O t)
   | (have _:=HX9;go_at_call 86;refine(CT4.out _ _ _ HX9.out.1 O29.out.1).mono ?_;rintro e r ⟨v10,rfl,E,A⟩;obtain⟨q4,d4,rfl⟩:=IC E;have b:=(A.block y (As HK9.out)).trans HK9.out;have H:=Aa b;have HX10:Hid (∀lo',Ar lo' r (.slice q4 X2.length d4) X2):=λlo'=>Ev E;have HM10:Hid (∀lo',Ar lo' r (.slice q3 M2.length d3) M2):=λlo'=>Bt (HM9'.out lo') A;have HB10:=Aa A;have d2w10:=cQ b 2 rfl;have d6w10:=cQ b 6 rfl;have d7w10:=cQ b 7 rfl;have d8w10:=cQ b 8 rfl;have d9w10:=cQ b 9 rfl;have f2w10:=fZ b 2;have f6w10:=fZ b 6;have f7w10:=fZ b 7;clear E A b)
   | (have _:=HX8;go_at_call 86;have P:sameBut w8 (w8.setCell (Ad y 6) (.slice C M1.length d1)) (λk=>k=y):=B6 (S:=λk=>k=y) rfl;have b8:=heap_setCell_same w8 y 6 _ _ (.slice C M1.length d1) R.out;have x8:=Eu (lo:=lo) (HX8.out lo) P λk _ o=>by obtain rfl:=o;exact⟨p.out,C6 R.out (by decide)⟩
      have o28:=Eu O28.out P λk _ o=>by obtain rfl:=o;exact⟨p.out,C6 R.out (by decide)⟩
      refine(CT3.out _ _ _ o28.1 x8.1).mono ?_;rintro e w9 ⟨v9,rfl,hn9,N⟩;obtain⟨q3,d3,rfl⟩:=IC hn9;have n:=(N.block y (As b8)).trans b8;have HK9:=Aa n;have HX9:=Aa (Bt x8 N);have HM9':Hid (∀lo',Ar lo' w9 (.slice q3 M2.length d3) M2):=λlo'=>Ev hn9;have O29:=Aa (Bt o28 N);have HB9:=Aa N;have HS8:=Aa P;have d2w9:=cQ n 2 rfl;have d6w9:=cQ n 6 rfl;have d7w9:=cQ n 7 rfl;have d8w9:=cQ n 8 rfl;have d9w9:=cQ n 9 rfl;have f2w9:=fZ n 2;have f6w9:=fZ n 6;have f7w9:=fZ n 7
      clear P b8 x8 o28 hn9 N n)
   | (have _:=HM7;go_at_call 86;refine(CT2.out _ (OX7.out).1 O17.out.1).mono ?_;rintro e w8 ⟨v8',rfl,hn8,J⟩;obtain⟨U,d2,rfl⟩:=IC hn8;have g:=(J.block y (As HK7.out)).trans HK7.out;have R:=Aa g;have HX8:Hid (∀lo',Ar lo' w8 (.slice U X1.length d2) X1):=λlo'=>Ev hn8;have HM8':Hid (∀lo',Ar lo' w8 (.slice C M1.length d1) M1):=λlo'=>Bt (HM7.out lo') J;have O28:=Aa (Bt O27.out J);have HB8:=Aa J;have d2w8:=cQ g 2 rfl;have d6w8:=cQ g 6 rfl;have d7w8:=cQ g 7 rfl;have d8w8:=cQ g 8 rfl;have d9w8:=cQ g 9 rfl;have f2w8:=fZ g 2;have f6w8:=fZ g 6;have f7w8:=fZ g 7;clear hn8 J g)
   | (go_at_call 86;have x6:=IJ (lo':=0) p.out K6.out Z.out F.out.op;have o6:=IJ (lo':=0) p.out K6.out Z.out O1.out;have o26:=IJ (lo':=0) p.out K6.out Z.out O2.out;refine(CT1.out _ o6.1 x6.1).mono ?_;rintro e w7 ⟨v7,rfl,hn7,B⟩;obtain⟨C,d1,rfl⟩:=IC hn7;have m:=(B.block y (As HB1.out)).trans HB1.out;have HK7:=Aa m;have HM7:Hid (∀lo',Ar lo' w7 (.slice C M1.length d1) M1):=λlo'=>Ev hn7;have OX7:=Aa (Bt x6 B);have O17:=Aa (Bt o6 B);have O27:=Aa (Bt o26 B);have HB7:=Aa B;have d2w7:=cQ m 2 rfl;have d6w7:=cQ m 6 rfl;have d7w7:=cQ m 7 rfl;have d8w7:=cQ m 8 rfl;have d9w7:=cQ m 9 rfl;have f2w7:=fZ m 2;have f6w7:=fZ m 6;have f7w7:=fZ m 7;clear x6 o6 o26 hn7 B m))
  go_ret;refine⟨rfl,?_⟩;rw[HS2.out];have b12:=heap_setCell_same W y 2 _ _ (Sx TD) HK12.out;have hs12:sameBut W (W.setCell (Ad y 2) (Sx TD)) (λk=>k=y):=B6 (S:=λk=>k=y) rfl;have hT:sameBut r (W.setCell (Ad y 2) (Sx TD)) (λk=>k=y):=HSL.out.trans ((Cf HB12.out λk=>k=y).trans hs12);have hA:sameBut X w8 (λk=>k=y):=Z.out.trans ((Cf HB7.out λk=>k=y).trans (Cf HB8.out λk=>k=y));have hB:sameBut w8 r (λk=>k=y):=HS8.out.trans ((Cf HB9.out λk=>k=y).trans (Cf HB10.out λk=>k=y));exact Mt p.out HB6.out K6.out (hA.trans (hB.trans hT)) b12 (Eu (HM8'.out lo) (hB.trans hT) λk _ o=>by obtain rfl:=o;exact⟨p.out,C6 R.out (by decide)⟩) (Eu (HM10.out lo) hT λk _ o=>by obtain rfl:=o;exact⟨p.out,C6 H.out (by decide)⟩)
end
section
attribute [local go_sem] Oper.semAt_some Dz Dl
variable {lo y : Nat}{w : World}{who u : Int}{S : Cl}
theorem jI(h:Cj lo w y who u S)(hk:okK 2000 S)(v:Value)(x:List Pt)(hx:Ar lo w v x)(Z:S.seen.length+Al x<=500000)(hrv:0<=S.rev/\S.rev<=1000000)(ho:ordE x S.seen=0)(X:S.mine≠[])(hd:Aj (Eb S) S.seen≠Aj x S.seen) :
    Cg 52 #[Pd y 0,I6 S.rev,.agg #[I6 who,I6 S.id,v]] w (Rt w (I6 15)):=by
 have hlt:=Ks h;obtain⟨H,v1,v2,h3,U,P⟩:=h;obtain⟨C,D,rfl⟩:=C7 U;obtain⟨L,c2,rfl⟩:=C7 P;obtain⟨r,B,rfl⟩:=C7 hx;have g:=JS hk.text ho;obtain⟨f,E⟩:=NM hk X;have N:B8 S 0=Eb S:=by unfold B8 Eb;cases S.mine<;>rfl
 have H0:Hid _:=ME (c:=who) (i:=S.id) H h3 U P hx;have CA:Hid (∀d,Ae d (.slice r x.length B) x->Cg 47 #[.slice r x.length B,Sx S.seen] d (Rt d (.tuple #[Sx (Aj x S.seen),I6 0]))):=λd hz=>by
  have O:=g.fine (show S.seen.length+Al x<1000000 by omega);have:=IR _ x S.seen d hz (g.wf (show S.seen.length+Al x<1000000 by omega)) (λq hq=>by have:=Gh q _ hq;omega) (by omega) O.len (by omega);rw[g.ord,if_pos rfl]at this;exact this
 have CM:Hid (∀d,Ae d (.slice C (B8 S 0).length D) (B8 S 0)->Cg 47 #[.slice C (B8 S 0).length D,Sx S.seen] d (Rt d (.tuple #[Sx (Aj (B8 S 0) S.seen),I6 0]))):=λd hz=>by
  rw[←N]at f E;have O:=f.fine (show S.seen.length+Al (B8 S 0)<1000000 by omega);have:=IR _ (B8 S 0) S.seen d hz (f.wf (show S.seen.length+Al (B8 S 0)<1000000 by omega)) (λq hq=>by have:=Gh q _ hq;omega) (by omega) O.len (by omega);rw[f.ord,if_pos rfl]at this;exact this
 have Q:Hid (decide (1<=S.mine.length)=true):=by show _=_;exact decide_eq_true (List.length_pos_iff.2 X)
 rw[←N]at hd;obtain⟨hrv0,hrv9⟩:=hrv;generalize Aj x S.seen=tx at *;generalize Aj (B8 S 0) S.seen=tm at *;have hd1:(tm==tx)=false:=beq_eq_false_iff_ne.2 hd;generalize hxn:x.length=xn at *;generalize hn1:(B8 S 0).length=n1 at *;generalize hn2:(B8 S 1).length=n2 at *;clear h3 U P hx H Z hxn hn1 hn2 g X hk ho f E N;have m:Hid (Bw w (w.alloc (Oc #[I6 who,I6 S.id,.slice r xn B] 58))):=zA _ _
 . skip
   go_enter func52,ntmps52
   have x4:(w.alloc (Oc #[I6 who,I6 S.id,.slice r xn B] 58)).cell? (Ad y 4)=some (I6 S.rev):=(Ct H0.out.blk).2.2.2.2.1
   go_wp2_with (go_at_call 9999)
   refine wz (λd:World=>ZR lo y w.heap.size who u who S.id S (.slice C n1 D) (.slice L n2 c2) (.slice r xn B) x d) 12 H0.out ZR.grow λw3 p e G b=>?_;have e2:=λa=>cQ (b.but a).box 2 rfl;have y3:∀a,(G a).cell? (Ad y 3)=some (Sx S.seen):=λa=>(Ct (b.but a).blk).2.2.2.1;(iterate 6 (refine ay b e λ_ k=>?_;go_simp;apply k;clear k))
   (refine ay b e λK F=>?_;go_simp;apply Exists.intro;refine⟨λ_=>?_,F _ ?_⟩;exact CA.out _ (b.but _).op.1;clear F K)
   (iterate 5 (refine ay b e λ_ k=>?_;go_simp;apply k;clear k));clear e2 y3 b;refine ae ?_;intro v3 t;have W:=Aa (ZR.grow e t);have J:Hid (Bw w v3):=m.out.trans ((p.trans (t.mono p.size)).mono m.out.size);have l:=Aa J;clear p t e;go_wp2;refine wz (λd:World=>ZR lo y w.heap.size who u who S.id S (.slice C n1 D) (.slice L n2 c2) (.slice r xn B) x d) 23 W.out ZR.grow λw6 A o G b=>?_;have e0:=λa=>cQ (b.but a).box 0 rfl;have e1:=λa=>cQ (b.but a).box 1 rfl;have y0:∀a,(G a).cell? (Ad y 0)=some (I6 who):=λa=>(Ct (b.but a).blk).1;have y5:∀a,(G a).cell? (Ad y 5)=some (I6 S.id):=λa=>(Ct (b.but a).blk).2.2.2.2.2.1;have y8:∀a,(G a).cell? (Ad y 8)=some (.bool true):=λa=>by have:=(Ct (b.but a).blk).2.2.2.2.2.2.2.2.1;rwa[Q.out]at this
   (iterate 23 (refine ay b o λ_ k=>?_;go_simp;apply k;clear k));clear e0 e1 y0 y5 y8 b;refine ae ?_;intro v6 s;have HZ6:=Aa (ZR.grow o s);have Y:Hid (Bw w v6):=l.out.trans ((A.trans (s.mono A.size)).mono l.out.size);have n:=Aa Y;clear A s o;go_wp2;refine wz (λd:World=>ZR lo y w.heap.size who u who S.id S (.slice C n1 D) (.slice L n2 c2) (.slice r xn B) x d) 14 HZ6.out ZR.grow λw8 z j G b=>?_;have y6:∀a,(G a).cell? (Ad y 6)=some (.slice C n1 D):=λa=>(Ct (b.but a).blk).2.2.2.2.2.2.1;have y3:∀a,(G a).cell? (Ad y 3)=some (Sx S.seen):=λa=>(Ct (b.but a).blk).2.2.2.1;(iterate 8 (refine ay b j λ_ k=>?_;go_simp;apply k;clear k))
   (refine ay b j λK F=>?_;go_simp;apply Exists.intro;refine⟨λ_=>?_,F _ ?_⟩;exact CM.out _ (b.but _).o1.1;clear F K)
   (iterate 5 (refine ay b j λ_ k=>?_;go_simp;apply k;clear k));clear y6 y3 b;refine ae ?_;intro v8 I;have R:Hid (Bw w v8):=n.out.trans ((z.trans (I.mono z.size)).mono n.out.size);clear z I j;go_wp2;go_ret;exact⟨rfl,R.out⟩
theorem jJ(h:Cj lo w y who u S)(hk:okK 2000 S)(v:Value)(x:List Pt)(hx:Ar lo w v x)(hsz:S.seen.length+Al x<=500000)(hrv:0<=S.rev/\S.rev<=1000000)(ho:ordE x S.seen=0)(hm:S.mine≠[]){m1:List Pt}(W:S.mine=[m1])(hid:0<=S.id/\S.id<=1000000)(hd:Aj (Eb S) S.seen=Aj x S.seen) :
    Cg 52 #[Pd y 0,I6 S.rev,.agg #[I6 who,I6 S.id,v]] w λe w'=>e=.returned (I6 0)/\Cj lo w' y who u { S with seen:=Aj x S.seen,rev:=S.rev+1,mine:=S.mine.tail,id:=if S.mine.tail≠[] then S.id+1 else S.id }/\sameBut w w' λk=>k=y:=by
 have hlt:=Ks h;obtain⟨hlo,v1,v2,h3,h4,h5⟩:=h;obtain⟨E,C,rfl⟩:=C7 h4;obtain⟨s,t,rfl⟩:=C7 h5;obtain⟨pv,cv,rfl⟩:=C7 hx;have X:=JS hk.text ho;obtain⟨J,hp0⟩:=NM hk hm;have hA:B8 S 0=Eb S:=by unfold B8 Eb;cases S.mine<;>rfl
 have H0:Hid _:=ME (c:=who) (i:=S.id) hlo h3 h4 h5 hx;have CA:Hid (∀g,Ae g (.slice pv x.length cv) x->Cg 47 #[.slice pv x.length cv,Sx S.seen] g (Rt g (.tuple #[Sx (Aj x S.seen),I6 0]))):=λg hz=>by
  have hf:=X.fine (show S.seen.length+Al x<1000000 by omega);have:=IR _ x S.seen g hz (X.wf (show S.seen.length+Al x<1000000 by omega)) (λq hq=>by have:=Gh q _ hq;omega) (by omega) hf.len (by omega);rw[X.ord,if_pos rfl]at this;exact this
 have CM:Hid (∀g,Ae g (.slice E (B8 S 0).length C) (B8 S 0)->Cg 47 #[.slice E (B8 S 0).length C,Sx S.seen] g (Rt g (.tuple #[Sx (Aj (B8 S 0) S.seen),I6 0]))):=λg hz=>by
  rw[←hA]at J hp0;have hf:=J.fine (show S.seen.length+Al (B8 S 0)<1000000 by omega);have:=IR _ (B8 S 0) S.seen g hz (J.wf (show S.seen.length+Al (B8 S 0)<1000000 by omega)) (λq hq=>by have:=Gh q _ hq;omega) (by omega) hf.len (by omega);rw[J.ord,if_pos rfl]at this;exact this
 have HM8:Hid (decide (1<=S.mine.length)=true):=by show _=_;exact decide_eq_true (List.length_pos_iff.2 hm)
 rw[hA,hd]at CM;have HM9:Hid (decide (2<=S.mine.length)=false):=by show _=_;rw[W];rfl
 have HA2:Hid (B8 S 1=[]):=by show _=_;unfold B8;rw[W];rfl
 have hrv1:wrap64 (S.rev+1)=S.rev+1:=E0 (by omega) (by omega);have hid1:wrap64 (S.id+1)=S.id+1:=E0 (by omega) (by omega);obtain⟨hrv0,hrv9⟩:=hrv;obtain⟨hid0,hid9⟩:=hid;obtain⟨S2,hS2⟩:∃S2,({ S with seen:=Aj x S.seen,rev:=S.rev+1,mine:=S.mine.tail,id:=if S.mine.tail≠[] then S.id+1 else S.id }:Cl)=S2:=⟨_,rfl⟩;rw[hS2];generalize Aj x S.seen=tx at *;rw[←hA]at CM;have HS2:Hid (S2 = { S with seen:=tx,rev:=S.rev+1,mine:=[] }):=by show _=_;rw[←hS2,W];rfl
 clear hS2 hd W;generalize hxn:x.length=xn at *;generalize hn1:(B8 S 0).length=n1 at *;generalize hn2:(B8 S 1).length=n2 at *;have HLO:=Aa hlo;clear h3 h4 h5 hx hlo hsz hxn hn1 hn2 X hm hk ho J hp0 hA;have HZ0B:Hid (Bw w (w.alloc (Oc #[I6 who,I6 S.id,.slice pv xn cv] 58))):=zA _ _
 . skip
   go_enter func52,ntmps52
   have x4:(w.alloc (Oc #[I6 who,I6 S.id,.slice pv xn cv] 58)).cell? (Ad y 4)=some (I6 S.rev):=(Ct H0.out.blk).2.2.2.2.1
   go_wp2_with (go_at_call 9999)
   refine wz (λg:World=>ZR lo y w.heap.size who u who S.id S (.slice E n1 C) (.slice s n2 t) (.slice pv xn cv) x g) 12 H0.out ZR.grow λw3 hb3 B G a=>?_;have e2:=λb=>cQ (a.but b).box 2 rfl;have y3:∀b,(G b).cell? (Ad y 3)=some (Sx S.seen):=λb=>(Ct (a.but b).blk).2.2.2.1;(iterate 6 (refine ay a B λ_ k=>?_;go_simp;apply k;clear k))
   (refine ay a B λK f=>?_;go_simp;apply Exists.intro;refine⟨λ_=>?_,f _ ?_⟩;exact CA.out _ (a.but _).op.1;clear f K)
   (iterate 5 (refine ay a B λ_ k=>?_;go_simp;apply k;clear k));clear e2 y3 a;refine ae ?_;intro v3 hv3;have HZ3:=Aa (ZR.grow B hv3);have HB3:Hid (Bw w v3):=HZ0B.out.trans ((hb3.trans (hv3.mono hb3.size)).mono HZ0B.out.size);have HZ3B:=Aa HB3;clear hb3 hv3 B;go_wp2;refine wz (λg:World=>ZR lo y w.heap.size who u who S.id S (.slice E n1 C) (.slice s n2 t) (.slice pv xn cv) x g) 23 HZ3.out ZR.grow λw6 hb6 hz6 G a=>?_;have e0:=λb=>cQ (a.but b).box 0 rfl;have e1:=λb=>cQ (a.but b).box 1 rfl;have y0:∀b,(G b).cell? (Ad y 0)=some (I6 who):=λb=>(Ct (a.but b).blk).1;have y5:∀b,(G b).cell? (Ad y 5)=some (I6 S.id):=λb=>(Ct (a.but b).blk).2.2.2.2.2.1;have y8:∀b,(G b).cell? (Ad y 8)=some (.bool true):=λb=>by have:=(Ct (a.but b).blk).2.2.2.2.2.2.2.2.1;rwa[HM8.out]at this
   (iterate 23 (refine ay a hz6 λ_ k=>?_;go_simp;apply k;clear k));clear e0 e1 y0 y5 y8 a;refine ae ?_;intro v6 hv6;have HZ6:=Aa (ZR.grow hz6 hv6);have HB6:Hid (Bw w v6):=HZ3B.out.trans ((hb6.trans (hv6.mono hb6.size)).mono HZ3B.out.size);have HZ6B:=Aa HB6;clear hb6 hv6 hz6;go_wp2;refine wz (λg:World=>ZR lo y w.heap.size who u who S.id S (.slice E n1 C) (.slice s n2 t) (.slice pv xn cv) x g) 14 HZ6.out ZR.grow λw8 hb8 O G a=>?_;have y6:∀b,(G b).cell? (Ad y 6)=some (.slice E n1 C):=λb=>(Ct (a.but b).blk).2.2.2.2.2.2.1;have y3:∀b,(G b).cell? (Ad y 3)=some (Sx S.seen):=λb=>(Ct (a.but b).blk).2.2.2.1;(iterate 8 (refine ay a O λ_ k=>?_;go_simp;apply k;clear k))
   (refine ay a O λK f=>?_;go_simp;apply Exists.intro;refine⟨λ_=>?_,f _ ?_⟩;exact CM.out _ (a.but _).o1.1;clear f K)
   (iterate 5 (refine ay a O λ_ k=>?_;go_simp;apply k;clear k));clear y6 y3 a;refine ae ?_;intro v8 hv8;have HZ8:=Aa (ZR.grow O hv8);have HB8:Hid (Bw w v8):=HZ6B.out.trans ((hb8.trans (hv8.mono hb8.size)).mono HZ6B.out.size);clear hb8 hv8 O;have k8:=HZ8.out.blk;have K8:=Aa k8;have r:v8.heap[y]?=some (Oc #[I6 who,I6 u,Sx S.doc,Sx S.seen,I6 S.rev,I6 S.id,.slice E n1 C,.slice s n2 t,.bool true,.bool false,I6 S.drops] 69):=by have h:=k8;unfold Hl at h;rw[HM8.out,HM9.out]at h;exact h
   have t3:=cQ r 3 rfl;have t4:=cQ r 4 rfl;have f3:=fZ r 3;have f4:=fZ r 4;have HS1:Hid (sameBut v8 ((v8.setCell (Ad y 3) (Sx tx)).setCell (Ad y 4) (I6 (S.rev+1))) λk=>k=y):=(B6 (S:=λk=>k=y) rfl).trans (B6 (S:=λk=>k=y) rfl);have HB1:Hid (((v8.setCell (Ad y 3) (Sx tx)).setCell (Ad y 4) (I6 (S.rev+1))).heap[y]?=some (Oc #[I6 who,I6 u,Sx S.doc,Sx tx,I6 (S.rev+1),I6 S.id,.slice E n1 C,.slice s n2 t,.bool true,.bool false,I6 S.drops] 69)):=heap_setCell_same _ y 4 _ _ (I6 (S.rev+1)) (heap_setCell_same v8 y 3 _ _ (Sx tx) r);clear k8 r
   go_wp2_with (go_at_call 9999)
   refine wz (λ_:World=>True) 24 trivial (λ_ _=>trivial) λw14 L _ G2 d=>?_;(iterate 7 (refine ay d trivial λ_ k=>?_;go_simp;apply k;clear k));refine az d trivial 8 λ_ k=>?_;go_simp;apply k;clear k;refine az d trivial 9 λ_ k=>?_;go_simp;apply k;clear k;refine az d trivial 10 λ_ k=>?_;go_simp;apply k;clear k;refine Uj (Z:=λg:World=>g.heap[y]?=some (Oc #[I6 who,I6 u,Sx S.doc,Sx tx,I6 (S.rev+1),I6 S.id,.slice E n1 C,.slice s n2 t,.bool true,.bool false,I6 S.drops] 69)) (m:=12) _ _ _ _ ?_;have j:w14.heap[y]?=some (Oc #[I6 who,I6 u,Sx S.doc,Sx tx,I6 (S.rev+1),I6 S.id,.slice E n1 C,.slice s n2 t,.bool true,.bool false,I6 S.drops] 69):=(L.block y (As HB1.out)).trans HB1.out;obtain⟨G,a⟩:=JC (Z:=λg:World=>g.heap[y]?=some (Oc #[I6 who,I6 u,Sx S.doc,Sx tx,I6 (S.rev+1),I6 S.id,.slice E n1 C,.slice s n2 t,.bool true,.bool false,I6 S.drops] 69)) j (λ{w w'} h hb=>(hb.block y (As h)).trans h);have y7:∀z,(G z).cell? (Ad y 7)=some (.slice s n2 t):=λz=>Az (a.but z) 7;have y9:∀z,(G z).cell? (Ad y 9)=some (.bool false):=λz=>Az (a.but z) 9
   (refine R9 a j (i:=7) rfl (by kernel_rfl) (by kernel_rfl) (by kernel_rfl) (λK f=>?_);go_simp;refine f _ ?_;clear f K)
   (refine R9 a j (i:=11) rfl (by kernel_rfl) (by kernel_rfl) (by kernel_rfl) (λK f=>?_);go_simp;refine f _ ?_;clear f K)
   clear y7 y9 a;refine Qt (by kernel_rfl) ?_;(iterate 2 (refine ay d trivial λ_ k=>?_;go_simp;apply k;clear k));refine aO 14 ⟨_,rfl,?_⟩;intro w31 P K f;have o:=(P.block y (As j)).trans j;have cw31:=cQ o 6 rfl;have fw31:=fZ o 6
   go_simp
   refine f _ _ (λ_=>trivial) ?_;have F:=heap_setCell_same w31 y 6 _ _ (.slice s n2 t) o;have sw31:sameBut w14 (w31.setCell (Ad y 6) (.slice s n2 t)) (λk=>k=y):=(Cf P _).trans (B6 (S:=λk=>k=y) rfl);clear f K cw31 fw31;refine az d trivial 15 λ_ k=>?_;go_simp;apply k;clear k;refine az d trivial 16 λ_ k=>?_;go_simp;apply k;clear k;refine aO 17 ⟨_,rfl,?_⟩;intro w32 R K f;have l:=(R.block y (As F)).trans F;have cw32:=cQ l 8 rfl;have fw32:=fZ l 8
   go_simp
   refine f _ _ (λ_=>trivial) ?_;have N:=heap_setCell_same w32 y 8 _ _ (.bool false) l;have sw32:sameBut (w31.setCell (Ad y 6) (.slice s n2 t)) (w32.setCell (Ad y 8) (.bool false)) (λk=>k=y):=(Cf R _).trans (B6 (S:=λk=>k=y) rfl);clear f K cw32 fw32;refine az d trivial 18 λ_ k=>?_;go_simp;apply k;clear k;refine az d trivial 19 λ_ k=>?_;go_simp;apply k;clear k;refine aO 20 ⟨_,rfl,?_⟩;intro w33 I K f;have p:=(I.block y (As N)).trans N;have cw33:=cQ p 7 rfl;have fw33:=fZ p 7
   go_simp
   refine f _ _ (λ_=>trivial) ?_;have Q:=heap_setCell_same w33 y 7 _ _ (.slice none 0 0) p;have sw33:sameBut (w32.setCell (Ad y 8) (.bool false)) (w33.setCell (Ad y 7) (.slice none 0 0)) (λk=>k=y):=(Cf I _).trans (B6 (S:=λk=>k=y) rfl);clear f K cw33 fw33;refine az d trivial 21 λ_ k=>?_;go_simp;apply k;clear k;refine az d trivial 22 λ_ k=>?_;go_simp;apply k;clear k;refine aO 23 ⟨_,rfl,?_⟩;intro w34 U K f;have n:=(U.block y (As Q)).trans Q;have cw34:=cQ n 9 rfl;have fw34:=fZ n 9
   go_simp
   refine f _ _ (λ_=>trivial) ?_;have H:=heap_setCell_same w34 y 9 _ _ (.bool false) n;have sw34:sameBut (w33.setCell (Ad y 7) (.slice none 0 0)) (w34.setCell (Ad y 9) (.bool false)) (λk=>k=y):=(Cf U _).trans (B6 (S:=λk=>k=y) rfl);clear f K cw34 fw34;refine ae ?_;intro w35 D;have A:=(D.block y (As H)).trans H;have B35:=Aa A;have Y:Hid (sameBut v8 w35 λk=>k=y):=HS1.out.trans ((Cf L _).trans (sw31.trans (sw32.trans (sw33.trans (sw34.trans (Cf D _))))));have d8:=cQ A 8 rfl;have d5:=cQ A 5 rfl;have g5:=fZ A 5;clear L j P R I U D o l p n F N Q H sw31 sw32 sw33 sw34 A d;go_wp2;go_ret;refine⟨rfl,?_⟩;rw[HS2.out];have o2:=HZ8.out.o2;rw[HA2.out]at o2;exact Mt HLO.out HB8.out K8.out Y.out B35.out (Eu o2 Y.out λk _ hk=>by obtain rfl:=hk;exact⟨HLO.out,C6 K8.out (by decide)⟩) (Ev (Ik 0 _))
theorem jK(h:Cj lo w y who u S)(hk:okK 2000 S)(v:Value)(x:List Pt)(hx:Ar lo w v x)(hsz:S.seen.length+Al x<=500000)(hrv:0<=S.rev/\S.rev<=1000000)(ho:ordE x S.seen=0)(hm:S.mine≠[]){m1 m2:List Pt}(Y:S.mine=[m1,m2])(hid:0<=S.id/\S.id<=1000000)(hd:Aj (Eb S) S.seen=Aj x S.seen) :
    Cg 52 #[Pd y 0,I6 S.rev,.agg #[I6 who,I6 S.id,v]] w λe w'=>e=.returned (I6 0)/\Cj lo w' y who u { S with seen:=Aj x S.seen,rev:=S.rev+1,mine:=S.mine.tail,id:=if S.mine.tail≠[] then S.id+1 else S.id }/\sameBut w w' λk=>k=y:=by
 have hlt:=Ks h;obtain⟨hlo,v1,v2,h3,h4,h5⟩:=h;obtain⟨H,E,rfl⟩:=C7 h4;obtain⟨A,B,rfl⟩:=C7 h5;obtain⟨pv,cv,rfl⟩:=C7 hx;have hgx:=JS hk.text ho;obtain⟨N,hp0⟩:=NM hk hm;have hA:B8 S 0=Eb S:=by unfold B8 Eb;cases S.mine<;>rfl
 have H0:Hid _:=ME (c:=who) (i:=S.id) hlo h3 h4 h5 hx;have CA:Hid (∀j,Ae j (.slice pv x.length cv) x->Cg 47 #[.slice pv x.length cv,Sx S.seen] j (Rt j (.tuple #[Sx (Aj x S.seen),I6 0]))):=λj hz=>by
  have hf:=hgx.fine (show S.seen.length+Al x<1000000 by omega);have:=IR _ x S.seen j hz (hgx.wf (show S.seen.length+Al x<1000000 by omega)) (λq hq=>by have:=Gh q _ hq;omega) (by omega) hf.len (by omega);rw[hgx.ord,if_pos rfl]at this;exact this
 have CM:Hid (∀j,Ae j (.slice H (B8 S 0).length E) (B8 S 0)->Cg 47 #[.slice H (B8 S 0).length E,Sx S.seen] j (Rt j (.tuple #[Sx (Aj (B8 S 0) S.seen),I6 0]))):=λj hz=>by
  rw[←hA]at N hp0;have hf:=N.fine (show S.seen.length+Al (B8 S 0)<1000000 by omega);have:=IR _ (B8 S 0) S.seen j hz (N.wf (show S.seen.length+Al (B8 S 0)<1000000 by omega)) (λq hq=>by have:=Gh q _ hq;omega) (by omega) hf.len (by omega);rw[N.ord,if_pos rfl]at this;exact this
 have HM8:Hid (decide (1<=S.mine.length)=true):=by show _=_;exact decide_eq_true (List.length_pos_iff.2 hm)
 rw[hA,hd]at CM;have HM9:Hid (decide (2<=S.mine.length)=true):=by show _=_;rw[Y];rfl
 have HA2:Hid (B8 S 1=m2):=by show _=_;unfold B8;rw[Y];rfl
 have hrv1:wrap64 (S.rev+1)=S.rev+1:=E0 (by omega) (by omega);have hid1:wrap64 (S.id+1)=S.id+1:=E0 (by omega) (by omega);obtain⟨hrv0,hrv9⟩:=hrv;obtain⟨hid0,hid9⟩:=hid;obtain⟨S2,hS2⟩:∃S2,({ S with seen:=Aj x S.seen,rev:=S.rev+1,mine:=S.mine.tail,id:=if S.mine.tail≠[] then S.id+1 else S.id }:Cl)=S2:=⟨_,rfl⟩;rw[hS2];generalize Aj x S.seen=tx at *;rw[←hA]at CM;have HS2:Hid (S2 = { S with seen:=tx,rev:=S.rev+1,mine:=[m2],id:=S.id+1 }):=by show _=_;rw[←hS2,Y];rfl
 clear hS2 hd Y;generalize hxn:x.length=xn at *;generalize hn1:(B8 S 0).length=n1 at *;generalize hn2:(B8 S 1).length=n2 at *;have HLO:=Aa hlo;clear h3 h4 h5 hx hlo hsz hxn hn1 hn2 hgx hm hk ho N hp0 hA;have HZ0B:Hid (Bw w (w.alloc (Oc #[I6 who,I6 S.id,.slice pv xn cv] 58))):=zA _ _
 . skip
   go_enter func52,ntmps52
   have x4:(w.alloc (Oc #[I6 who,I6 S.id,.slice pv xn cv] 58)).cell? (Ad y 4)=some (I6 S.rev):=(Ct H0.out.blk).2.2.2.2.1
   go_wp2_with (go_at_call 9999)
   refine wz (λj:World=>ZR lo y w.heap.size who u who S.id S (.slice H n1 E) (.slice A n2 B) (.slice pv xn cv) x j) 12 H0.out ZR.grow λw3 hb3 D G a=>?_;have e2:=λd=>cQ (a.but d).box 2 rfl;have y3:∀d,(G d).cell? (Ad y 3)=some (Sx S.seen):=λd=>(Ct (a.but d).blk).2.2.2.1;(iterate 6 (refine ay a D λ_ k=>?_;go_simp;apply k;clear k))
   (refine ay a D λK g=>?_;go_simp;apply Exists.intro;refine⟨λ_=>?_,g _ ?_⟩;exact CA.out _ (a.but _).op.1;clear g K)
   (iterate 5 (refine ay a D λ_ k=>?_;go_simp;apply k;clear k));clear e2 y3 a;refine ae ?_;intro v3 hv3;have HZ3:=Aa (ZR.grow D hv3);have HB3:Hid (Bw w v3):=HZ0B.out.trans ((hb3.trans (hv3.mono hb3.size)).mono HZ0B.out.size);have HZ3B:=Aa HB3;clear hb3 hv3 D;go_wp2;refine wz (λj:World=>ZR lo y w.heap.size who u who S.id S (.slice H n1 E) (.slice A n2 B) (.slice pv xn cv) x j) 23 HZ3.out ZR.grow λw6 hb6 hz6 G a=>?_;have e0:=λd=>cQ (a.but d).box 0 rfl;have e1:=λd=>cQ (a.but d).box 1 rfl;have y0:∀d,(G d).cell? (Ad y 0)=some (I6 who):=λd=>(Ct (a.but d).blk).1;have y5:∀d,(G d).cell? (Ad y 5)=some (I6 S.id):=λd=>(Ct (a.but d).blk).2.2.2.2.2.1;have y8:∀d,(G d).cell? (Ad y 8)=some (.bool true):=λd=>by have:=(Ct (a.but d).blk).2.2.2.2.2.2.2.2.1;rwa[HM8.out]at this
   (iterate 23 (refine ay a hz6 λ_ k=>?_;go_simp;apply k;clear k));clear e0 e1 y0 y5 y8 a;refine ae ?_;intro v6 hv6;have HZ6:=Aa (ZR.grow hz6 hv6);have HB6:Hid (Bw w v6):=HZ3B.out.trans ((hb6.trans (hv6.mono hb6.size)).mono HZ3B.out.size);have HZ6B:=Aa HB6;clear hb6 hv6 hz6;go_wp2;refine wz (λj:World=>ZR lo y w.heap.size who u who S.id S (.slice H n1 E) (.slice A n2 B) (.slice pv xn cv) x j) 14 HZ6.out ZR.grow λw8 hb8 Q G a=>?_;have y6:∀d,(G d).cell? (Ad y 6)=some (.slice H n1 E):=λd=>(Ct (a.but d).blk).2.2.2.2.2.2.1;have y3:∀d,(G d).cell? (Ad y 3)=some (Sx S.seen):=λd=>(Ct (a.but d).blk).2.2.2.1;(iterate 8 (refine ay a Q λ_ k=>?_;go_simp;apply k;clear k))
   (refine ay a Q λK g=>?_;go_simp;apply Exists.intro;refine⟨λ_=>?_,g _ ?_⟩;exact CM.out _ (a.but _).o1.1;clear g K)
   (iterate 5 (refine ay a Q λ_ k=>?_;go_simp;apply k;clear k));clear y6 y3 a;refine ae ?_;intro v8 hv8;have HZ8:=Aa (ZR.grow Q hv8);have HB8:Hid (Bw w v8):=HZ6B.out.trans ((hb8.trans (hv8.mono hb8.size)).mono HZ6B.out.size);clear hb8 hv8 Q;have k8:=HZ8.out.blk;have K8:=Aa k8;have t:v8.heap[y]?=some (Oc #[I6 who,I6 u,Sx S.doc,Sx S.seen,I6 S.rev,I6 S.id,.slice H n1 E,.slice A n2 B,.bool true,.bool true,I6 S.drops] 69):=by have h:=k8;unfold Hl at h;rw[HM8.out,HM9.out]at h;exact h
   have t3:=cQ t 3 rfl;have t4:=cQ t 4 rfl;have f3:=fZ t 3;have f4:=fZ t 4;have HS1:Hid (sameBut v8 ((v8.setCell (Ad y 3) (Sx tx)).setCell (Ad y 4) (I6 (S.rev+1))) λk=>k=y):=(B6 (S:=λk=>k=y) rfl).trans (B6 (S:=λk=>k=y) rfl);have HB1:Hid (((v8.setCell (Ad y 3) (Sx tx)).setCell (Ad y 4) (I6 (S.rev+1))).heap[y]?=some (Oc #[I6 who,I6 u,Sx S.doc,Sx tx,I6 (S.rev+1),I6 S.id,.slice H n1 E,.slice A n2 B,.bool true,.bool true,I6 S.drops] 69)):=heap_setCell_same _ y 4 _ _ (I6 (S.rev+1)) (heap_setCell_same v8 y 3 _ _ (Sx tx) t);clear k8 t
   go_wp2_with (go_at_call 9999)
   refine wz (λ_:World=>True) 24 trivial (λ_ _=>trivial) λw14 O _ G2 f=>?_;(iterate 7 (refine ay f trivial λ_ k=>?_;go_simp;apply k;clear k));refine az f trivial 8 λ_ k=>?_;go_simp;apply k;clear k;refine az f trivial 9 λ_ k=>?_;go_simp;apply k;clear k;refine az f trivial 10 λ_ k=>?_;go_simp;apply k;clear k;refine Uj (Z:=λj:World=>j.heap[y]?=some (Oc #[I6 who,I6 u,Sx S.doc,Sx tx,I6 (S.rev+1),I6 S.id,.slice H n1 E,.slice A n2 B,.bool true,.bool true,I6 S.drops] 69)) (m:=12) _ _ _ _ ?_;have l:w14.heap[y]?=some (Oc #[I6 who,I6 u,Sx S.doc,Sx tx,I6 (S.rev+1),I6 S.id,.slice H n1 E,.slice A n2 B,.bool true,.bool true,I6 S.drops] 69):=(O.block y (As HB1.out)).trans HB1.out;obtain⟨G,a⟩:=JC (Z:=λj:World=>j.heap[y]?=some (Oc #[I6 who,I6 u,Sx S.doc,Sx tx,I6 (S.rev+1),I6 S.id,.slice H n1 E,.slice A n2 B,.bool true,.bool true,I6 S.drops] 69)) l (λ{w w'} h hb=>(hb.block y (As h)).trans h);have y7:∀z,(G z).cell? (Ad y 7)=some (.slice A n2 B):=λz=>Az (a.but z) 7;have y9:∀z,(G z).cell? (Ad y 9)=some (.bool true):=λz=>Az (a.but z) 9
   (refine R9 a l (i:=7) rfl (by kernel_rfl) (by kernel_rfl) (by kernel_rfl) (λK g=>?_);go_simp;refine g _ ?_;clear g K)
   (refine R9 a l (i:=11) rfl (by kernel_rfl) (by kernel_rfl) (by kernel_rfl) (λK g=>?_);go_simp;refine g _ ?_;clear g K)
   clear y7 y9 a;refine Qt (by kernel_rfl) ?_;(iterate 2 (refine ay f trivial λ_ k=>?_;go_simp;apply k;clear k));refine aO 14 ⟨_,rfl,?_⟩;intro w31 R K g;have r:=(R.block y (As l)).trans l;have cw31:=cQ r 6 rfl;have fw31:=fZ r 6
   go_simp
   refine g _ _ (λ_=>trivial) ?_;have I:=heap_setCell_same w31 y 6 _ _ (.slice A n2 B) r;have sw31:sameBut w14 (w31.setCell (Ad y 6) (.slice A n2 B)) (λk=>k=y):=(Cf R _).trans (B6 (S:=λk=>k=y) rfl);clear g K cw31 fw31;refine az f trivial 15 λ_ k=>?_;go_simp;apply k;clear k;refine az f trivial 16 λ_ k=>?_;go_simp;apply k;clear k;refine aO 17 ⟨_,rfl,?_⟩;intro w32 W K g;have n:=(W.block y (As I)).trans I;have cw32:=cQ n 8 rfl;have fw32:=fZ n 8
   go_simp
   refine g _ _ (λ_=>trivial) ?_;have P:=heap_setCell_same w32 y 8 _ _ (.bool true) n;have sw32:sameBut (w31.setCell (Ad y 6) (.slice A n2 B)) (w32.setCell (Ad y 8) (.bool true)) (λk=>k=y):=(Cf W _).trans (B6 (S:=λk=>k=y) rfl);clear g K cw32 fw32;refine az f trivial 18 λ_ k=>?_;go_simp;apply k;clear k;refine az f trivial 19 λ_ k=>?_;go_simp;apply k;clear k;refine aO 20 ⟨_,rfl,?_⟩;intro w33 L K g;have s:=(L.block y (As P)).trans P;have cw33:=cQ s 7 rfl;have fw33:=fZ s 7
   go_simp
   refine g _ _ (λ_=>trivial) ?_;have U:=heap_setCell_same w33 y 7 _ _ (.slice none 0 0) s;have sw33:sameBut (w32.setCell (Ad y 8) (.bool true)) (w33.setCell (Ad y 7) (.slice none 0 0)) (λk=>k=y):=(Cf L _).trans (B6 (S:=λk=>k=y) rfl);clear g K cw33 fw33;refine az f trivial 21 λ_ k=>?_;go_simp;apply k;clear k;refine az f trivial 22 λ_ k=>?_;go_simp;apply k;clear k;refine aO 23 ⟨_,rfl,?_⟩;intro w34 X K g;have p:=(X.block y (As U)).trans U;have cw34:=cQ p 9 rfl;have fw34:=fZ p 9
   go_simp
   refine g _ _ (λ_=>trivial) ?_;have J:=heap_setCell_same w34 y 9 _ _ (.bool false) p;have sw34:sameBut (w33.setCell (Ad y 7) (.slice none 0 0)) (w34.setCell (Ad y 9) (.bool false)) (λk=>k=y):=(Cf X _).trans (B6 (S:=λk=>k=y) rfl);clear g K cw34 fw34;refine ae ?_;intro w35 F;have C:=(F.block y (As J)).trans J;have B35:=Aa C;have SAME:Hid (sameBut v8 w35 λk=>k=y):=HS1.out.trans ((Cf O _).trans (sw31.trans (sw32.trans (sw33.trans (sw34.trans (Cf F _))))));have d8:=cQ C 8 rfl;have d5:=cQ C 5 rfl;have g5:=fZ C 5;clear O l R W L X F r n s p I P U J sw31 sw32 sw33 sw34 C f;go_wp2;go_ret;refine⟨rfl,?_⟩;rw[HS2.out];have o2:=HZ8.out.o2;rw[HA2.out]at o2;have b36:=heap_setCell_same w35 y 5 _ _ (I6 (S.id+1)) B35.out;have hT:=SAME.out.trans (B6 (w:=w35) (S:=λk=>k=y) (b:=y) (o:=5) (v:=I6 (S.id+1)) rfl);exact Mt HLO.out HB8.out K8.out hT b36 (Eu o2 hT λk _ hk=>by obtain rfl:=hk;exact⟨HLO.out,C6 K8.out (by decide)⟩) (Ev (Ik 0 _))
end
theorem hH{lo:Nat}{w:World}{y:Nat}{who u:Int}{S:Cl}(h:Cj lo w y who u S)(n:okK 2000 S)(rev c i:Int)(v:Value)(x:List Pt)(l:Ar lo w v x)(E:∀p∈x,Cp p)(A:Al x<=400000)(G:x.length<=1000000)(B:S.seen.length<=100000)(o:0<=S.id/\S.id<=1000000)(d:0<=S.rev/\S.rev<=1000000) :
    Cg 52 #[Pd y 0,I6 rev,.agg #[I6 c,I6 i,v]] w λe w'=>e=.returned (I6 (Ga who S rev c i x))/\Cj lo w' y who u (Fm who S rev c i x)/\sameBut w w' λk=>k=y:=by
 by_cases z:rev=S.rev
 case neg =>
  have a:Ga who S rev c i x=0:=if_pos z;have g:Fm who S rev c i x=S:=if_pos (.inl z);rw[a,g];exact(ic h rev c i v x l z).mono λe w' ⟨q,t⟩=>⟨q,NN h t⟩
 subst z
 by_cases f:ordE x S.seen=0
 case neg =>
  have a:Ga who S S.rev c i x=15:=by unfold Ga;rw[if_neg (by simp),if_pos f]
  have g:Fm who S S.rev c i x=S:=if_pos (.inr (by rw[a];decide));rw[a,g];exact(ia h c i v x l E A G B f).mono λe w' ⟨q,t⟩=>⟨q,NN h t⟩
 have b:S.seen.length+Al x<=500000:=by omega
 have j:=n.two
 by_cases m:Mv who S c i
 case pos =>
  by_cases r:Aj (Eb S) S.seen=Aj x S.seen
  . have a:Ga who S S.rev c i x=0:=by unfold Ga;rw[if_neg (by simp),if_neg (by simpa using f),if_neg λe=>e.2 r]
    have g:Fm who S S.rev c i x = { S with seen:=Aj x S.seen,rev:=S.rev+1,mine:=S.mine.tail,id:=if S.mine.tail≠[] then S.id+1 else S.id }:=by unfold Fm;rw[if_neg (by rw[a];simp),if_pos m]
    rw[a,g];obtain⟨s,rfl,rfl⟩:=m
    rcases hms:S.mine with _|⟨m1,_|⟨m2,_|⟨m3,F⟩⟩⟩
    . exact absurd hms s
    . rw[←hms];exact jJ h n v x l b d f s hms o r
    . rw[←hms];exact jK h n v x l b d f s hms o r
    . rw[hms]at j;simp at j
  . have a:Ga who S S.rev c i x=15:=by unfold Ga;rw[if_neg (by simp),if_neg (by simpa using f),if_pos ⟨m,r⟩]
    have g:Fm who S S.rev c i x=S:=if_pos (.inr (by rw[a];decide));rw[a,g];obtain⟨s,rfl,rfl⟩:=m;exact(jI h n v x l b d f s r).mono λe w' ⟨q,t⟩=>⟨q,NN h t⟩
 case neg =>
  have a:Ga who S S.rev c i x=0:=by unfold Ga;rw[if_neg (by simp),if_neg (by simpa using f),if_neg λe=>m e.1]
  have g:Fm who S S.rev c i x = { S with seen:=Aj x S.seen,rev:=S.rev+1,mine:=(Di S.mine x).1,doc:=Aj (Di S.mine x).2 S.doc }:=by unfold Fm;rw[if_neg (by rw[a];simp),if_neg m]
  rw[a,g]
  rcases hms:S.mine with _|⟨m1,_|⟨m2,_|⟨m3,F⟩⟩⟩
  . rw[←hms];exact er h n c i v x l b d f hms
  . rw[←hms]
    exact es h n c i v x l b d f hms (Decidable.or_iff_not_imp_left.2 λC D=>m ⟨by rw[hms];simp,Decidable.not_not.1 C,D⟩)
  . rw[←hms]
    exact et h n c i v x l b d f hms (Decidable.or_iff_not_imp_left.2 λC D=>m ⟨by rw[hms];simp,Decidable.not_not.1 C,D⟩)
  . rw[hms]at j;simp at j
section
attribute [local go_sem] Oper.semAt_some Dz Dl
variable {lo r bx bmx : Nat}{w : World}{bs : List Nat}{D D0 : List (List UInt8)}{R : Rm}{l0 n : Int}
theorem ko(h:Ay lo w r bx bmx bs D R)(z:Inv l0 n D0 R)(hn:n<=100000)(p:Pk)(J:okPk R.E D0 R.cl.length p)(hk:p.kind=3)(v:Value)(hx:Ar lo w v p.x.op)(hbl:bs.length<=1000) :
    Cg 15 #[Pd r 0,pkV p v] w λe w'=>e=.returned (.tuple #[])/\Ay lo w' r bx bmx bs D (setC R p.c (Fm (p.c:Int) (Bo R p.c).2 p.rev p.x.c p.x.i p.x.op))/\sameBut w w' (Fd lo w bmx):=by
 obtain⟨t,E,rfl⟩:=C7 hx;obtain⟨b,q,_⟩:=L4 h J.c;obtain⟨pc,cc,pf,cf,W,h3,_⟩:=Ht h;obtain⟨g,rfl,I⟩:=N6 h3 q;obtain⟨_,l⟩:=z.clk J.c;have hsm:=l.small z.lk;have hrl:=l.revle z.lk;have hE:=z.few;have hpx:=z.lk.puts (J.told hk);obtain⟨d,hd,_,hdl⟩:=z.lk.at_ (i:=p.rev.toNat) (by have:=J.rev;omega);obtain⟨Y,_⟩:=z.lk.link _ _ _ (J.told hk) hd;obtain⟨X,hxl⟩:=Qu Y (by omega) (by omega);have CC:Hid (∀s,Bw w s->Cg 52 #[Pd b 0,I6 p.rev,.agg #[I6 p.x.c,I6 p.x.i,.slice t p.x.op.length E]] s λe w'=>∃u,e=.returned u/\Ay lo w' r bx bmx bs D (setC R p.c (Fm (p.c:Int) (Bo R p.c).2 p.rev p.x.c p.x.i p.x.op))/\sameBut w w' (Fd lo w bmx)):=λs j=>by
  have hr:=Ii h j;obtain⟨b',L,hc⟩:=L4 hr J.c;rw[q]at L;obtain rfl:=Bq L;refine AC (hH hc l.ok p.rev p.x.c p.x.i (.slice t p.x.op.length E) p.x.op (Bt hx j) X (by omega) (by omega) (by omega) ⟨l.id.1,by have:=l.id.2;split at this<;>omega⟩ ⟨l.rev,by omega⟩) ?_;rintro e w' ⟨rfl,a,c⟩;obtain⟨i1,i2⟩:=UR hr q a c;exact⟨_,rfl,i1,SJ j i2⟩
 have j:Bw w (w.alloc (Oc #[I6 p.kind,I6 (p.c:Int),I6 p.rev,I6 p.id,I6 p.x.c,I6 p.x.i,.slice t p.x.op.length E] 60)):=zA _ _;have C:=heap_alloc_new w (Oc #[I6 p.kind,I6 (p.c:Int),I6 p.rev,I6 p.id,I6 p.x.c,I6 p.x.i,.slice t p.x.op.length E] 60);obtain⟨B,F⟩:∃B,w.heap.size=B:=⟨_,rfl⟩;have HBT:=Aa F;have hkb:p.c<bs.length:=(De q);have hki:(p.c:Int)<(bs.length:Int):=by omega
 have hbi:(bs.length:Int)<=1000:=by omega
 have x1:=cQ W 1 rfl;have O:=(zC j r 1 (Fu h)).trans x1;have xg':=(zC j g p.c (Ca w _ I)).trans I;have HB:=Aa j;have Z:=Aa C;unfold pkV;rw[hk]at *;rw[F]at Z;generalize setC R p.c (Fm (p.c:Int) (Bo R p.c).2 p.rev p.x.c p.x.i p.x.op)=R' at *;generalize p.c=a1 at *;generalize p.rev=a2 at *;generalize p.id=a3 at *;generalize p.x.c=a4 at *;generalize p.x.i=a5 at *;generalize p.x.op.length=a6 at *;generalize bs.length=N at *;have HZ:Hid (ZK [(((Ad r 1):Addr),Sl g N cc),(((Ad g a1):Addr),Pd b 0),(((Ad B 1):Addr),I6 (a1:Int))] (w.alloc (Oc #[I6 3,I6 (a1:Int),I6 a2,I6 a3,I6 a4,I6 a5,.slice t a6 E] 60))):=.cons O (.cons xg' (.cons (Az Z.out 1) (.nil _)));have HBX:Hid (∀s,Below (w.alloc (Oc #[I6 3,I6 (a1:Int),I6 a2,I6 a3,I6 a4,I6 a5,.slice t a6 E] 60)).heap.size (w.alloc (Oc #[I6 3,I6 (a1:Int),I6 a2,I6 a3,I6 a4,I6 a5,.slice t a6 E] 60)) s->s.heap[B]?=some (Oc #[I6 3,I6 (a1:Int),I6 a2,I6 a3,I6 a4,I6 a5,.slice t a6 E] 60)):=λs q=>(q.block B (As Z.out)).trans Z.out;have HF:Hid (∀w2 w3,Ay lo w2 r bx bmx bs D R'->sameBut w w2 (Fd lo w bmx)->Bw w2 w3->Ay lo w3 r bx bmx bs D R'/\sameBut w w3 (Fd lo w bmx)):=λw2 w3 a c q=>⟨Ii a q,SI c q⟩;clear h z J hx j C W h3 I l hsm hrl hE q F x1 O xg' Z hpx hd hdl Y X hxl
 go_enter func15,ntmps15
 go_wp2;rw[HBT.out];refine wz (λs:World=>ZK [(((Ad r 1):Addr),Sl g N cc),(((Ad g a1):Addr),Pd b 0),(((Ad B 1):Addr),I6 (a1:Int))] s) 9 HZ.out ZK.grow λw30 m Q G hG=>?_;have q0:∀o,(G o).cell? ((Ad r 1):Addr)=some (Sl g N cc):=λo=>hG.but o (((Ad r 1):Addr),Sl g N cc) (by simp);have q1:∀o,(G o).cell? ((Ad g a1):Addr)=some (Pd b 0):=λo=>hG.but o (((Ad g a1):Addr),Pd b 0) (by simp);have q2:∀o,(G o).cell? ((Ad B 1):Addr)=some (I6 (a1:Int)):=λo=>hG.but o (((Ad B 1):Addr),I6 (a1:Int)) (by simp);(iterate 9 (refine ay hG Q λ_ k=>?_;go_simp;apply k;clear k));clear q0 q1 q2 hG;refine ae ?_;intro P A;have H:=m.trans (A.mono m.size);have f:=HBX.out P H;have c0:=cQ f 0 rfl;have c2:=cQ f 2 rfl;have c3:=cQ f 3 rfl;have c4:=cQ f 4 rfl;have c5:=cQ f 5 rfl;have c6:=cQ f 6 rfl;have U:Hid (Bw w P):=HB.out.trans (H.mono HB.out.size);clear H m A Q f
 go_wp2_with (go_at_call 52;refine(CC.out _ U.out).mono ?_;rintro e w2 ⟨u,rfl,W,K⟩;have H2:Hid _:=HF.out _ _ W K (A9 _ _);clear W K)
 exact bodyPost_ret (results_none rfl _ _ _) rfl ⟨rfl,H2.out⟩
theorem lj(h:Ay lo w r bx bmx bs D R)(Q:Inv l0 n D0 R)(hn:n<=100000)(p:Pk)(hp:okPk R.E D0 R.cl.length p)(hk:p.kind=4)(v:Value)(hx:Ar lo w v p.x.op)(hbl:bs.length<=1000) :
    Cg 15 #[Pd r 0,pkV p v] w λe w'=>e=.returned (.tuple #[])/\Ay lo w' r bx bmx bs D (setC R p.c (Fh (Bo R p.c).2 p.id))/\sameBut w w' (Fd lo w bmx):=by
 obtain⟨F,H,rfl⟩:=C7 hx;obtain⟨b,o,_⟩:=L4 h hp.c;obtain⟨pc,cc,pf,cf,C,h3,_⟩:=Ht h;obtain⟨g,rfl,E⟩:=N6 h3 o;obtain⟨_,j⟩:=Q.clk hp.c;have hsm:=j.small Q.lk;have hrl:=j.revle Q.lk;have hE:=Q.few;have CC:Hid (∀q,Bw w q->Cg 53 #[Pd b 0,I6 p.id] q λe w'=>∃u,e=.returned u/\Ay lo w' r bx bmx bs D (setC R p.c (Fh (Bo R p.c).2 p.id))/\sameBut w w' (Fd lo w bmx)):=λq f=>by
  have hr:=Ii h f;obtain⟨b',J,hc⟩:=L4 hr hp.c;rw[o]at J;obtain rfl:=Bq J;refine AC (j6 hc p.id ⟨j.dr.1,by have h1:=j.dr.2;have C:=j.id.2;split at h1<;>split at C<;>omega⟩) ?_;rintro e w' ⟨rfl,a,c⟩;obtain⟨i1,i2⟩:=UR hr o a c;exact⟨_,rfl,i1,SJ f i2⟩
 have f:Bw w (w.alloc (Oc #[I6 p.kind,I6 (p.c:Int),I6 p.rev,I6 p.id,I6 p.x.c,I6 p.x.i,.slice F p.x.op.length H] 60)):=zA _ _;have z:=heap_alloc_new w (Oc #[I6 p.kind,I6 (p.c:Int),I6 p.rev,I6 p.id,I6 p.x.c,I6 p.x.i,.slice F p.x.op.length H] 60);obtain⟨t,A⟩:∃t,w.heap.size=t:=⟨_,rfl⟩;have HBT:=Aa A;have hkb:p.c<bs.length:=(De o);have hki:(p.c:Int)<(bs.length:Int):=by omega
 have hbi:(bs.length:Int)<=1000:=by omega
 have x1:=cQ C 1 rfl;have K:=(zC f r 1 (Fu h)).trans x1;have X:=(zC f g p.c (Ca w _ E)).trans E;have HB:=Aa f;have U:=Aa z;unfold pkV;rw[hk]at *;rw[A]at U;generalize setC R p.c (Fh (Bo R p.c).2 p.id)=R' at *;generalize p.c=a1 at *;generalize p.rev=a2 at *;generalize p.id=a3 at *;generalize p.x.c=a4 at *;generalize p.x.i=a5 at *;generalize p.x.op.length=a6 at *;generalize bs.length=N at *;have HZ:Hid (ZK [(((Ad r 1):Addr),Sl g N cc),(((Ad g a1):Addr),Pd b 0),(((Ad t 1):Addr),I6 (a1:Int))] (w.alloc (Oc #[I6 4,I6 (a1:Int),I6 a2,I6 a3,I6 a4,I6 a5,.slice F a6 H] 60))):=.cons K (.cons X (.cons (Az U.out 1) (.nil _)));have HBX:Hid (∀q,Below (w.alloc (Oc #[I6 4,I6 (a1:Int),I6 a2,I6 a3,I6 a4,I6 a5,.slice F a6 H] 60)).heap.size (w.alloc (Oc #[I6 4,I6 (a1:Int),I6 a2,I6 a3,I6 a4,I6 a5,.slice F a6 H] 60)) q->q.heap[t]?=some (Oc #[I6 4,I6 (a1:Int),I6 a2,I6 a3,I6 a4,I6 a5,.slice F a6 H] 60)):=λq o=>(o.block t (As U.out)).trans U.out;have HF:Hid (∀Y Z,Ay lo Y r bx bmx bs D R'->sameBut w Y (Fd lo w bmx)->Bw Y Z->Ay lo Z r bx bmx bs D R'/\sameBut w Z (Fd lo w bmx)):=λY Z a c o=>⟨Ii a o,SI c o⟩;clear h Q hp hx f z C h3 E j hsm hrl hE o A x1 K X U
 go_enter func15,ntmps15
 go_wp2;rw[HBT.out];refine wz (λq:World=>ZK [(((Ad r 1):Addr),Sl g N cc),(((Ad g a1):Addr),Pd b 0),(((Ad t 1):Addr),I6 (a1:Int))] q) 9 HZ.out ZK.grow λw30 l O G W=>?_;have q0:∀m,(G m).cell? ((Ad r 1):Addr)=some (Sl g N cc):=λm=>W.but m (((Ad r 1):Addr),Sl g N cc) (by simp);have q1:∀m,(G m).cell? ((Ad g a1):Addr)=some (Pd b 0):=λm=>W.but m (((Ad g a1):Addr),Pd b 0) (by simp);have q2:∀m,(G m).cell? ((Ad t 1):Addr)=some (I6 (a1:Int)):=λm=>W.but m (((Ad t 1):Addr),I6 (a1:Int)) (by simp);(iterate 9 (refine ay W O λ_ k=>?_;go_simp;apply k;clear k));clear q0 q1 q2 W;refine ae ?_;intro L s;have B:=l.trans (s.mono l.size);have d:=HBX.out L B;have c0:=cQ d 0 rfl;have c2:=cQ d 2 rfl;have c3:=cQ d 3 rfl;have c4:=cQ d 4 rfl;have c5:=cQ d 5 rfl;have c6:=cQ d 6 rfl;have P:Hid (Bw w L):=HB.out.trans (B.mono HB.out.size);clear B l s O d
 go_wp2_with (go_at_call 53;refine(CC.out _ P.out).mono ?_;rintro e Y ⟨u,rfl,C,I⟩;have H2:Hid _:=HF.out _ _ C I (A9 _ _);clear C I)
 exact bodyPost_ret (results_none rfl _ _ _) rfl ⟨rfl,H2.out⟩
end
end Go.Proofs.YtkcpjanmemdjlaaGreatDoor
