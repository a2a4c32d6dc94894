/-
  A part of the texts that the proof uses.
-/
import Derived.Test.YtedgnlgjmnccgabGreatDoorPartI
import Derived.Deep.LoopGhost
import Derived.Deep.CutRange
import Derived.Laws.AppendOwnNone
import Derived.Test.YtedgnlgjmnccgabGreatDoorPartG
import Derived.Test.YtedgnlgjmnccgabGreatDoorPartH
set_option maxRecDepth 100000
set_option maxHeartbeats 40000000
set_option linter.unusedVariables false
namespace Go.Proofs.YtedgnlgjmnccgabGreatDoor
section
open Go.RowKit
attribute [local go_sem] Oper.semAt_some
theorem JjP(v1 v2:Value)(a b:List Pt)(w:World)(h1:opAt w v1 a)(h2:opAt w v2 b)(w1:∀p∈a,wfP p)(w2:∀p∈b,wfP p)(s1:∀p∈a,p.put.length<100000000)(s2:∀p∈b,p.put.length<100000000)(f1:fineP a)(f2:fineP b)(he:JbG a b=0)(hl:(Jar b).1=(Jar a).2)(n:Nat)(hn:Jag a=n) :
    Calls Tryz.prog 122 #[v1,v2] w fun e w'=>∃v',e=.returned (.tuple #[v',.int .i64 0])/\opN w.heap.size w' v' (JcY (gapE n (endP (midP 0 a) b) [] 0))/\Below w.heap.size w w':=by
 have cB:Hid _:=JdK v1 v2 a b w h1 h2 w1 w2 s1 s2 f1.len f2.len;rw[he]at cB;have cL1:Hid (∀wx,Below w.heap.size w wx->Calls Tryz.prog 184 #[v1] wx fun e w'=>e=.returned (.tuple #[.int .i64 (Jar a).1,.int .i64 (Jar a).2])/\Below wx.heap.size wx w'):=fun wx hb=>JbD v1 a wx (Ja3 h1 hb) f1.len;have cL2:Hid (∀wx,Below w.heap.size w wx->Calls Tryz.prog 184 #[v2] wx fun e w'=>e=.returned (.tuple #[.int .i64 (Jar b).1,.int .i64 (Jar b).2])/\Below wx.heap.size wx w'):=fun wx hb=>JbD v2 b wx (Ja3 h2 hb) f2.len;have F1:=hdz f1;have F2:=hdz f2;have HA1:=hdz ((JaZ f1).1.trans hn);have HN:=hdz hn;have HLE:=hdz hl;rw[hl]at cL2;generalize (Jar a).1=N1 at *;have hN1: -9223372036854775808<=N1:=by have:=HA1.out;omega
 have hn9:n<3000000:=by
  have e1:=(Jcx a (Jak f1.one) (by have:=f1.w;omega)).2.2.1;rw[JbB]at e1;have e2:=JbJ a (Jak f1.one);unfold Jea at e2;have e3:=f1.w;omega
 obtain⟨A2,hA2⟩:∃A,(Jar a).2=A:=⟨_,rfl⟩;obtain⟨B2,hB2⟩:∃A,(Jar b).2=A:=⟨_,rfl⟩;rw[hA2]at cL1 cL2;rw[hB2]at cL2;clear hA2 hB2;obtain⟨p1,c1,rfl,ha1,ha2,ha3⟩:=h1;obtain⟨p2,c2,rfl,hb1',hb2',hb3'⟩:=h2;have R1:=hdz ha3;have R2:=hdz hb3';obtain⟨la,hla⟩:∃la,a.length=la:=⟨_,rfl⟩;obtain⟨lb,hlb⟩:∃lb,b.length=lb:=⟨_,rfl⟩;have HLA:=hdz hla;have HLB:=hdz hlb;have hla9:la<10000000:=by have:=f1.len;omega
 have hlb9:lb<10000000:=by have:=f2.len;omega
 rw[hla]at cB cL1 ⊢;rw[hlb]at cB cL2 ⊢;clear w1 w2 s1 s2 f1 f2 he hl ha3 hb3' hla hlb hn
 go_enter Tryz.func122,Tryz.ntmps122
 go_wp2_with (first
  | (have _:=HB2;go_at_call 184;refine(cL2.out _ HB2.out).mono ?_;rintro e w3 ⟨rfl,hb3⟩;have HB3:=hdz (HB2.out.trans (hb3.mono HB2.out.size));clear hb3)
  | (have _:=HB1;go_at_call 184;refine(cL1.out _ HB1.out).mono ?_;rintro e w2 ⟨rfl,hb2⟩;have HB2:=hdz (HB1.out.trans (hb2.mono HB1.out.size));clear hb2)
  | (go_at_call 183;refine Calls.mono cB.out ?_;rintro e w1 ⟨rfl,hb1⟩;have HB1:=hdz hb1;clear hb1))
 have hst:cmpA w3 w3.heap.size a la (.slice none 0 0) (.int .i64 0) (.int .i64 0) w3:=⟨0,rfl,by rw[Nat.zero_add];exact HLA.out.symm,rfl,World.ownsRow_nil _ _ _ _,.refl _ _⟩;have HST:=hdz hst;clear hst HB1 HB2 cB cL1 cL2
 go_loopg [11,12,46] la (fun k u11 u12 u46 wr=>cmpA w3 w3.heap.size a k u11 u12 u46 wr)
 case atStart=>exact HST.out
 case round =>
  obtain⟨j,rfl,hjk,rfl,hown,hbw⟩:=hrel;have HBW:=hdz hbw;have HOW:=hdz hown;have hws:w3.heap.size<=wr.heap.size:=hbw.size;clear HST
  by_cases hj:j<la
  . have hja : j<a.length:=by rw[HLA.out];exact hj
    have hne:a≠[]:=by intro e;rw[e]at hja;exact absurd hja (Nat.not_lt_zero _)
    obtain⟨b0,o,rfl,hb0,hcell⟩:=R1.out hne;obtain⟨c0,c1',c2'⟩:=hcell j a[j] (lgg hja);have hbb:=HB3.out.trans (HBW.out.mono HB3.out.size);have g0:=(hbb.cell (p:=⟨b0,o+j*3,none⟩) hb0).trans c0;have g1:=(hbb.cell (p:=⟨b0,o+j*3+1,none⟩) hb0).trans c1';have g2:=(hbb.cell (p:=⟨b0,o+j*3+2,none⟩) hb0).trans c2';have hone:=F1.out.one a[j] (List.getElem_mem _);have hso:=Jak F1.out.one a[j] (List.getElem_mem _);have hts:a.take (j+1)=a.take j++[a[j]]:=List.take_succ_eq_append_getElem hja;have hlong:Jag (a.take (j+1))<=n:=by
     have e:=HN.out;have e2:Jag a=Jag (a.take (j+1))+Jag (a.drop (j+1)):=by rw[←Jby,List.take_append_drop]
     have e3:=JcW (a.drop (j+1)) fun q hq=>Jak F1.out.one q (List.mem_of_mem_drop hq);omega
    have hlong0:=JcW (a.take j) fun q hq=>Jak F1.out.one q (List.mem_of_mem_take hq);have hmid:=JnL (a.take j) a[j] 0;rw[←hts,Int.zero_add]at hmid;have hln:=Jl1 (a.take j) a[j];rw[←hts]at hln;have hML:=JhZ F1.out j;have hML1:=JhZ F1.out (j+1);generalize a[j]=q at *;obtain⟨K,D,U⟩:=q;obtain⟨hK0,hD0⟩:=hso;simp only at g0 g1 g2 hK0 hD0 hmid hln;obtain⟨M,hM⟩:∃M,midP 0 (a.take j)=M:=⟨_,rfl⟩;obtain⟨M1,hM1⟩:∃M1,midP 0 (a.take (j+1))=M1:=⟨_,rfl⟩;obtain⟨A0,hA0⟩:∃A0,Jag (a.take j)=A0:=⟨_,rfl⟩;obtain⟨A1,hA1'⟩:∃A1,Jag (a.take (j+1))=A1:=⟨_,rfl⟩;rw[hM,hM1,hA0]at hmid;rw[hA0,hA1']at hln;rw[hA0]at hlong0 ⊢;rw[hA1']at hlong;rw[hM]at HOW hML;rw[hM1]at hML1;obtain⟨Kn,rfl⟩:∃Kn:Nat,K=(Kn:Int):=⟨K.toNat,by omega⟩;rw[Int.toNat_natCast]at hmid;have hlenM:M1.length=M.length+(Kn+U.length):=by rw[hmid,List.length_append,List.length_append,JdR,Jdu]
    have HM1:=hdz hM1;have HMID:=hdz hmid;have HA1:=hdz hA1';have HLN:=hdz hln;obtain⟨k,rfl⟩:∃k,gk=k+1:=⟨gk - 1,by have:=HLA.out;omega⟩;have HJK:=hdz hjk;have hMs:M.length+Kn+U.length<3000000:=by omega
    have hAs:A0+Kn+D<3000000:=by omega
    have hjla:(j:Int)<(la:Int):=by omega
    have hj9:(j:Int)<10000000:=by omega
    have hUz:(ByteArray.mk U.toArray).size=U.length:=by simp[ByteArray.size]
    clear hcell c0 c1' c2' hbb hone hts hM hM1 hA0 hA1' hjk hown hbw hmid hln hML hML1 hlong hlenM hne hja;go_wp2;obtain⟨W1,hW1⟩:∃W1,wr.alloc (.cells #[.int .i64 (Kn:Int),.int .i64 D,.string ⟨U.toArray⟩] 50)=W1:=⟨_,rfl⟩;rw[hW1];obtain⟨β,hβ⟩:∃β,wr.heap.size=β:=⟨_,rfl⟩;rw[hβ];have hstK:cmpK w3 w3.heap.size M A0 Kn β (.cells #[.int .i64 (Kn:Int),.int .i64 D,.string ⟨U.toArray⟩] 50 (0,0)) Kn u11 (.int .i64 A0) (.int .i64 0) W1:=by
     rw[←hW1,←hβ];refine⟨0,rfl,by omega,by simp,?_,HBW.out.alloc HBW.out.size _,heap_alloc_new _ _⟩;simpa[Jb5] using HOW.out.alloc _
    have HSTK:=hdz hstK;clear hstK HBW HOW hW1 hβ hws g0 g1 g2
    go_loopg [11,12,52] Kn (fun k u11 u12 u52 wx=>cmpK w3 w3.heap.size M A0 Kn β (.cells #[.int .i64 (Kn:Int),.int .i64 D,.string ⟨U.toArray⟩] 50 (0,0)) k u11 u12 u52 wx)
    case atStart=>exact HSTK.out
    case round =>
     obtain⟨t,rfl,htk,rfl,hown,hbw,hbox⟩:=hrel;clear HSTK;obtain⟨L,hL⟩:∃L,M++Jb5 A0 t=L:=⟨_,rfl⟩;have hLl:L.length=M.length+t:=by rw[←hL,List.length_append,JdR]
     have HL:=hdz hL;rw[hL]at hown;obtain⟨pm,cm,rfl⟩:=Jae hown;have HOX:=hdz hown;have HBX:=hdz hbw;have HBO:=hdz hbox;have hwsx:=hbw.size;have hLs:L.length<3000000:=by omega
     have hts':t<=Kn:=by omega
     clear hL hown hbw hbox
     by_cases ht:t<Kn
     . obtain ⟨kK,rfl⟩:∃kK,gk=kK+1:=⟨gk - 1,by omega⟩
       have HTK:=hdz htk;have ht':(t:Int)<(Kn:Int):=by omega
       have HLL:=hdz hLl;obtain⟨i0,hi,hz0,hz1,hz2⟩:=info_parts Jkf;clear htk hLl ht
       go_wp2_with (at_builtin;refine wpList_append_own _ rfl _ _ 287 rfl w3.heap.size 289 i0 (.agg #[.int .i64 0,.int .u8 0]) 2 16 Tryz.underlying287 hi hz0 hz1 hz2 rfl (by decide) _ _ _ rfl (HOX.out.alloc _) ⟨wr.heap.size,0,none⟩ 1 1 (JeP (A0+t,0)) rfl rfl (JaW _ _ _) (Jeh _) (by unfold maxLen;omega) (by omega) (by first | omega | (simp;omega)) ?_)
       intro v' w' hown' hg' _;obtain⟨p',c',rfl⟩:=Jae hown';have HB':Hid (w'.heap[β]?=some (.cells #[.int .i64 (Kn:Int),.int .i64 D,.string ⟨U.toArray⟩] 50 (0,0))):=JeX ((heap_alloc_old _ _ (Jav HBO.out)).trans HBO.out) (HOX.out.alloc _) hg' (by intro c fz e;cases e);have HBW':Hid (Below w3.heap.size w3 w'):=(HBX.out.alloc HBX.out.size _).grown hg' (by rw[wsa];omega) fun k hk=>(HOX.out.lt k hk).1;have HO':=hdz hown';clear hown' hg';go_wp2
       go_roundg kK
       case measure=>omega
       case rel =>
        have e1:M++Jb5 A0 (t+1)=L++[(A0+t,0)]:=by rw[JoS,←HL.out,List.append_assoc]
        refine⟨t+1,by go_num,by have:=HTK.out;omega,by go_num,?_,HBW'.out,HB'.out⟩;rw[e1,Jcz,List.length_append];exact HO'.out
     . obtain rfl:t=Kn:=by omega
       obtain rfl:gk=0:=by omega
       have x2:=ce HBO.out 2 rfl;have hlt':¬(t:Int)<(t:Int):=by omega
       have HLL:=hdz hLl;clear htk hLl ht hts';go_wp2;have hstU:cmpU w3 w3.heap.size L U β (.cells #[.int .i64 (t:Int),.int .i64 D,.string ⟨U.toArray⟩] 50 (0,0)) U.length (.slice pm L.length cm) (.int .i64 0) wr:=⟨0,rfl,by omega,by simpa[putC] using HOX.out,HBX.out,HBO.out⟩;have HSTU:=hdz hstU;clear hstU HBO HOX HBX
       go_loopg [11,65] U.length (fun k u11 u65 wx=>cmpU w3 w3.heap.size L U β (.cells #[.int .i64 (t:Int),.int .i64 D,.string ⟨U.toArray⟩] 50 (0,0)) k u11 u65 wx)
       case atStart=>exact HSTU.out
       case round =>
        obtain⟨x,rfl,hxk,hown,hbw,hbox⟩:=hrel;clear HSTU;obtain⟨L2,hL2⟩:∃L2,L++putC (U.take x)=L2:=⟨_,rfl⟩;have hLl2:L2.length=L.length+x:=by rw[←hL2,List.length_append,Jdu,List.length_take];omega
        have HL2:=hdz hL2;rw[hL2]at hown;obtain⟨pm2,cm2,rfl⟩:=Jae hown;have HOX:=hdz hown;have HBX:=hdz hbw;have HBO:=hdz hbox;have y0:=ce HBO.out 0 rfl;have y1:=ce HBO.out 1 rfl;have y2:=ce HBO.out 2 rfl;have hwsx2:=hbw.size;have hLs2:L2.length<3000000:=by have:=HLL.out;omega
        clear hL2 hown hbw hbox
        by_cases hx:x<U.length
        . obtain ⟨kU,rfl⟩:∃kU,gk=kU+1:=⟨gk - 1,by omega⟩
          have HXK:=hdz hxk;have hx':(x:Int)<(U.length:Int):=by omega
          have HX:=hdz hx;obtain⟨i0,hi,hz0,hz1,hz2⟩:=info_parts Jkf;clear hxk hLl2 hx
          go_wp2_with (at_builtin;refine wpList_append_own _ rfl _ _ 287 rfl w3.heap.size 289 i0 (.agg #[.int .i64 0,.int .u8 0]) 2 16 Tryz.underlying287 hi hz0 hz1 hz2 rfl (by decide) _ _ _ rfl (HOX.out.alloc _) ⟨wr.heap.size,0,none⟩ 1 1 (JeP (-1,U[x]'HX.out)) rfl rfl (JaW _ _ _) (Jeh _) (by unfold maxLen;omega) (by omega) (by first | omega | (simp;omega)) ?_)
          intro v' w' hown' hg' _;obtain⟨p',c',rfl⟩:=Jae hown';have HB':Hid (w'.heap[β]?=some (.cells #[.int .i64 (t:Int),.int .i64 D,.string ⟨U.toArray⟩] 50 (0,0))):=JeX ((heap_alloc_old _ _ (Jav HBO.out)).trans HBO.out) (HOX.out.alloc _) hg' (by intro c fz e;cases e);have HBW':Hid (Below w3.heap.size w3 w'):=(HBX.out.alloc HBX.out.size _).grown hg' (by rw[wsa];omega) fun k hk=>(HOX.out.lt k hk).1;have HO':=hdz hown';clear hown' hg';go_wp2
          go_roundg kU
          case measure=>omega
          case rel =>
           have e1:L++putC (U.take (x+1))=L2++[(-1,U[x]'HX.out)]:=by rw[Jlr U x HX.out,←HL2.out,List.append_assoc]
           refine⟨x+1,by go_num,by have:=HXK.out;omega,?_,HBW'.out,HB'.out⟩;rw[e1,Jcz,List.length_append];exact HO'.out
        . obtain rfl:x=U.length:=by omega
          obtain rfl:gk=0:=by omega
          have hlt2:¬(U.length:Int)<(U.length:Int):=by omega
          clear hxk hLl2 hx;go_wp2
          go_roundg k
          case measure=>omega
          case rel =>
           have e1:M1=L2:=by rw[HMID.out,←HL2.out,←HL.out,List.take_length,List.append_assoc]
           refine⟨j+1,by go_num,by have:=HJK.out;omega,?_,?_,HBX.out⟩
           . rw[HA1.out,HLN.out];go_num
           . rw[HM1.out,e1];exact HOX.out
  . obtain rfl : j = la := by have:=HLA.out;omega
    obtain rfl:gk=0:=by have:=HLA.out;omega
    have eT:a.take j=a:=List.take_of_length_le (by rw[HLA.out];exact nlr _);have hmlen:=Jka a 0 fun q hq=>(Jak F1.out.one q hq).1;obtain⟨M,hM⟩:∃M,midP 0 a=M:=⟨_,rfl⟩;have HME:=hdz hM;rw[eT,hM]at HOW;rw[hM]at hmlen;have hLM:Jag b=(M.length:Int):=by rw[hmlen,←(JaZ F1.out).2,←HLE.out];exact(JaZ F2.out).1.symm
    have HLM:=hdz hLM;have hMs:M.length<2000000:=by rw[←hM];have:=JhZ F1.out a.length;rwa[List.take_length]at this
    rw[eT,HN.out];have how:=HOW.out;obtain⟨pm,cm,rfl⟩:=Jae how;have HOM:=hdz how
    have hcm:M.length<=cm/\cm<=maxLen:=by
     rcases how.2 with ⟨hx,h0⟩|⟨g,cap,cur,hx,_,_,h4,h5,_⟩
     . simp only[Value.slice.injEq]at hx
       omega
     . simp only[Value.slice.injEq,true_and]at hx
       obtain⟨_,rfl⟩:=hx;exact⟨h4,h5⟩
    have hMp:pm=none->M=[]/\cm=0:=by
     intro e
     rcases how.2 with ⟨hx,h0⟩|⟨g,cap,cur,hx,_,_,h4,h5,_⟩
     . simp only[Value.slice.injEq]at hx
       exact⟨List.eq_nil_of_length_eq_zero h0,hx.2.2⟩
     . simp only[Value.slice.injEq,true_and]at hx
       rw[e]at hx;cases hx.1
    have hMg:∀ad,pm=some ad->∃gm,ad=⟨gm,0,none⟩/\gm<wr.heap.size/\∀(i:Nat) u,(JbX M)[i]?=some u->wr.cell? ⟨gm,i,none⟩=some u:=by
     intro ad e
     rcases how.2 with ⟨hx,h0⟩|⟨g,cap,cur,hx,_,hgg,h4,h5,_⟩
     . simp only[Value.slice.injEq]at hx
       rw[e]at hx;cases hx.1
     . simp only[Value.slice.injEq,true_and]at hx
       rw[e]at hx;obtain⟨hx1,rfl⟩:=hx;obtain rfl:=osi hx1;subst e;refine⟨g,rfl,Jav hgg,fun i u hi=>?_⟩;have hlt:=(llt hi);rw[JgP]at hlt;rw[how.cellAt i hlt];exact hi
    have HMp:=hdz hMp;have HMg:=hdz hMg;obtain⟨hcm1,hcm2⟩:=hcm;unfold maxLen at hcm2;have hjl:¬(j:Int)<(j:Int):=by omega
    clear hj hjk hown hbw how hMp hMg eT hM hmlen hLM;go_wp2;obtain⟨NB,hNB⟩:∃NB,wr.heap.size=NB:=⟨_,rfl⟩;have HNB:=hdz hNB;have hstE:cmpE wr NB M b lb (.slice none 0 0) (.int .i64 0) (.int .i64 0) wr:=⟨0,rfl,by rw[Nat.zero_add];exact HLB.out.symm,rfl,World.ownsRow_nil _ _ _ _,.refl _ _⟩;obtain⟨W2,hW2⟩:∃W2,wr=W2:=⟨_,rfl⟩;rw[hW2]at hstE HBW HOM HMg HNB hws ⊢;have HSTE:=hdz hstE;clear hstE HOW hNB hW2
    go_loopg [12,16,84] lb (fun k u12 u16 u84 wx=>cmpE W2 NB M b k u16 u12 u84 wx)
    case atStart=>exact HSTE.out
    case round =>
     obtain⟨x,rfl,hxk,rfl,hown,hbw⟩:=hrel;obtain⟨E,hE⟩:∃E,endP M (b.take x)=E:=⟨_,rfl⟩;rw[hE]at hown;have hEs:E.length<2000000:=by rw[←hE];exact JlF F2.out M x
     obtain⟨pe,cee,rfl⟩:=Jae hown;have HOX:=hdz hown;have HBX:=hdz hbw;have hNB:NB<=wr.heap.size:=by rw[←HNB.out];exact hbw.size
     have HE:=hdz hE;clear HSTE hown hbw
     by_cases hx:x<lb
     . have hxb : x<b.length:=by rw[HLB.out];exact hx
       have hne:b≠[]:=by intro e;rw[e]at hxb;exact absurd hxb (Nat.not_lt_zero _)
       obtain⟨b0,o,rfl,hb0,hcell⟩:=R2.out hne;obtain⟨c0,c1',c2'⟩:=hcell x b[x] (lgg hxb);have hbW:=HB3.out.trans (HBW.out.mono HB3.out.size);have hbb:=hbW.trans (HBX.out.mono (show w.heap.size<=NB by rw[←HNB.out];exact hbW.size));have g0:=(hbb.cell (p:=⟨b0,o+x*3,none⟩) hb0).trans c0;have g1:=(hbb.cell (p:=⟨b0,o+x*3+1,none⟩) hb0).trans c1';have g2:=(hbb.cell (p:=⟨b0,o+x*3+2,none⟩) hb0).trans c2';have hso:=Jak F2.out.one b[x] (List.getElem_mem _);have hts:b.take (x+1)=b.take x++[b[x]]:=List.take_succ_eq_append_getElem hxb;have hlong:Jag (b.take (x+1))<=(M.length:Int):=by
        have e:=HLM.out;have e2:Jag b=Jag (b.take (x+1))+Jag (b.drop (x+1)):=by rw[←Jby,List.take_append_drop]
        have e3:=JcW (b.drop (x+1)) fun q hq=>Jak F2.out.one q (List.mem_of_mem_drop hq);omega
       have hlong0:=JcW (b.take x) fun q hq=>Jak F2.out.one q (List.mem_of_mem_take hq);have hend:=JnX (b.take x) b[x] M fun q hq=>Jak F2.out.one q (List.mem_of_mem_take hq);rw[←hts,hE]at hend;have hln:=Jl1 (b.take x) b[x];rw[←hts]at hln;have hES1:=JlF F2.out M (x+1);generalize b[x]=q at *;obtain⟨K,D,U⟩:=q;obtain⟨hK0,hD0⟩:=hso;simp only at g0 g1 g2 hK0 hD0 hend hln;obtain⟨Kn,rfl⟩:∃Kn:Nat,K=(Kn:Int):=⟨K.toNat,by omega⟩;obtain⟨An,hAn⟩:∃An:Nat,Jag (b.take x)=(An:Int):=⟨(Jag (b.take x)).toNat,by omega⟩;rw[hAn]at hend hln ⊢;rw[Int.toNat_natCast,Int.toNat_natCast]at hend;have hAK:An+Kn<=M.length:=by omega
       have hAD:(An:Int)+Kn+D<=(M.length:Int):=by omega
       obtain⟨E1,hE1⟩:∃E1,E++(M.drop An).take Kn=E1:=⟨_,rfl⟩;have hE1l:E1.length=E.length+Kn:=by rw[←hE1,List.length_append,List.length_take,List.length_drop];omega
       have HEND:Hid (endP M (b.take (x+1))=E1++putC U):=show endP M (b.take (x+1))=E1++putC U by rw[hend,←List.append_assoc,hE1]
       have hE1s:E1.length+U.length<2000000:=by rw[HEND.out,List.length_append,Jdu]at hES1;omega
       have HLN:=hdz hln;have HE1:=hdz hE1;have HE1l:=hdz hE1l;obtain⟨k,rfl⟩:∃k,gk=k+1:=⟨gk - 1,by have:=HLB.out;omega⟩;have HXK:=hdz hxk;have hxlb:(x:Int)<(lb:Int):=by omega
       have hx9:(x:Int)<10000000:=by omega
       have hUz:(ByteArray.mk U.toArray).size=U.length:=by simp[ByteArray.size]
       have hq0:(0:Int)<=(An:Int):=by omega
       have hq1:(An:Int)<=(An:Int)+(Kn:Int):=by omega
       have hq2:(An:Int)+(Kn:Int)<=(cm:Int):=by omega
       have hq3:(An:Int)+(Kn:Int)<3000000:=by omega
       have hT1:((An:Int)+(Kn:Int)).toNat=An+Kn:=by omega
       have hT2:An+Kn - An=Kn:=by omega
       clear hcell c0 c1' c2' hbW hbb hts hE hend hln hES1 hlong hE1 hE1l hne hxb hxk hlong0 hAn;obtain⟨i0,hi,hz0,hz1,hz2⟩:=info_parts Jkf
       go_upto_region 30 with fail
       go_cut [16] from 85 to 119 (fun u16 wc=>wc.ownsRow NB 289 2 u16 E1.length (JbX E1)/\Below NB W2 wc/\wc.heap[wr.heap.size]?=some (.cells #[.int .i64 (Kn:Int),.int .i64 D,.string ⟨U.toArray⟩] 50 (0,0)))
       case first =>
        by_cases hpm:pm=none
        . obtain ⟨hM0,hcm0⟩:=HMp.out hpm
          subst hpm hM0 hcm0;simp only[List.length_nil]at hAK hAD;obtain rfl:An=0:=by omega
          obtain rfl:Kn=0:=by omega
          have hEE:E1=E:=by rw[←HE1.out];simp
          have HEE:=hdz hEE;clear hEE hAK hAD
          go_wp2_with (at_builtin;refine wpList_append_own_none rfl _ _ 287 rfl NB 289 i0 2 Tryz.underlying287 hi _ _ _ rfl (HOX.out.alloc _) rfl ?_)
          go_meet
          case rel =>
           refine⟨?_,HBX.out.alloc hNB _,heap_alloc_new _ _⟩;rw[HEE.out];exact HOX.out.alloc _
        . obtain ⟨ad,rfl⟩:∃ad,pm=some ad:=by
            cases pm with
            | none=>exact absurd rfl hpm
            | some ad=>exact⟨ad,rfl⟩
          obtain⟨gm,rfl,hgm,hcells⟩:=HMg.out ad rfl;have HCL:Hid (∀(i:Nat) u,(JbX M)[i]?=some u->(wr.alloc (.cells #[.int .i64 (Kn:Int),.int .i64 D,.string ⟨U.toArray⟩] 50)).cell? ⟨gm,i,none⟩=some u):=fun i u hi=>by
           have hlt:gm<NB:=by rw[←HNB.out];exact hgm
           exact(World.cell?_of_block (w:=wr) (a:=⟨gm,i,none⟩) (heap_alloc_old _ _ (by show gm<wr.heap.size;omega))).trans ((HBX.out.cell (p:=⟨gm,i,none⟩) hlt).trans (hcells i u hi))
          clear hcells hpm
          by_cases hc:cm=An
          . subst hc
            have hK0':Kn=0:=by omega
            have HK0:=hdz hK0';have HEE:Hid (E1=E):=show E1=E by rw[←HE1.out,hK0'];simp
            clear hK0'
            go_wp2_with (at_builtin;refine wpList_append_own _ rfl _ _ 287 rfl NB 289 i0 (.agg #[.int .i64 0,.int .u8 0]) 2 16 Tryz.underlying287 hi hz0 hz1 hz2 rfl (by decide) _ _ _ rfl (HOX.out.alloc _) ⟨gm,0,none⟩ Kn _ [] rfl (by rw[HK0.out];rfl) (fun j u hj=>by cases hj) (fun u hu=>by cases hu) (by unfold maxLen;omega) (by omega) (by first | omega | (simp;omega)) ?_)
            intro v' w' hown' hg' _;obtain⟨p',c',rfl⟩:=Jae hown';have HB':Hid (w'.heap[wr.heap.size]?=some (.cells #[.int .i64 (Kn:Int),.int .i64 D,.string ⟨U.toArray⟩] 50 (0,0))):=JeX (heap_alloc_new _ _) (HOX.out.alloc _) hg' (by intro c fz e;cases e);have HBW':Hid (Below NB W2 w'):=(HBX.out.alloc hNB _).grown hg' (by rw[wsa];omega) fun k hk=>(HOX.out.lt k hk).1;have HO':=hdz hown';clear hown' hg';go_wp2
            go_meet
            case rel =>
             refine⟨?_,HBW'.out,HB'.out⟩;have e:JbX E1=JbX E:=by rw[HEE.out]
             rw[HE1l.out,e];exact HO'.out
          . go_wp2_with (at_builtin;refine wpList_append_own _ rfl _ _ 287 rfl NB 289 i0 (.agg #[.int .i64 0,.int .u8 0]) 2 16 Tryz.underlying287 hi hz0 hz1 hz2 rfl (by decide) _ _ _ rfl (HOX.out.alloc _) ⟨gm,An*2,none⟩ Kn _ (JbX ((M.drop An).take Kn)) rfl (by rw[JgP,List.length_take,List.length_drop];congr 1;omega) (fun j u hj=>by rw[Addr.add_lit];exact HCL.out _ u (Jku M An Kn j u hj)) (Jpo _) (by unfold maxLen;omega) (by omega) (by first | omega | (simp;omega)) ?_)
            intro v' w' hown' hg' _;obtain⟨p',c',rfl⟩:=Jae hown';have HB':Hid (w'.heap[wr.heap.size]?=some (.cells #[.int .i64 (Kn:Int),.int .i64 D,.string ⟨U.toArray⟩] 50 (0,0))):=JeX (heap_alloc_new _ _) (HOX.out.alloc _) hg' (by intro c fz e;cases e);have HBW':Hid (Below NB W2 w'):=(HBX.out.alloc hNB _).grown hg' (by rw[wsa];omega) fun k hk=>(HOX.out.lt k hk).1;have HO':=hdz hown';clear hown' hg';go_wp2
            go_meet
            case rel =>
             refine⟨?_,HBW'.out,HB'.out⟩;rw[←HE1.out,Jcz,List.length_append];have e:((M.drop An).take Kn).length=Kn:=by rw[List.length_take,List.length_drop];omega
             rw[e];exact HO'.out
       case rest =>
        obtain⟨ho,hbc,hbox⟩:=hcut;obtain⟨p',c',rfl⟩:=Jae ho;obtain⟨β,hβ⟩:∃β,wr.heap.size=β:=⟨_,rfl⟩;rw[hβ]at hbox ⊢;have x0:=ce hbox 0 rfl;have x1:=ce hbox 1 rfl;have x2:=ce hbox 2 rfl;have hst:cmpU W2 NB E1 U β (.cells #[.int .i64 (Kn:Int),.int .i64 D,.string ⟨U.toArray⟩] 50 (0,0)) U.length (.slice p' E1.length c') (.int .i64 0) wc:=⟨0,rfl,by omega,by simpa[putC] using ho,hbc,hbox⟩;have HST:=hdz hst;clear hst ho hbc hbox hβ g0 g1 g2;go_wp2
        go_loopg [16,100] U.length (fun k u16 u100 wx=>cmpU W2 NB E1 U β (.cells #[.int .i64 (Kn:Int),.int .i64 D,.string ⟨U.toArray⟩] 50 (0,0)) k u16 u100 wx)
        case atStart=>exact HST.out
        case round =>
         obtain⟨z,rfl,hzk,hown,hbw,hbox⟩:=hrel;clear HST x0 x1 x2;obtain⟨L2,hL2⟩:∃L2,E1++putC (U.take z)=L2:=⟨_,rfl⟩;have hLl2:L2.length=E1.length+z:=by rw[←hL2,List.length_append,Jdu,List.length_take];omega
         have HL2:=hdz hL2;rw[hL2]at hown;obtain⟨pm2,cm2,rfl⟩:=Jae hown;have HOX2:=hdz hown;have HBX2:=hdz hbw;have HBO:=hdz hbox;have y0:=ce HBO.out 0 rfl;have y1:=ce HBO.out 1 rfl;have y2:=ce HBO.out 2 rfl;have hwsx2:NB<=wr.heap.size:=by rw[←HNB.out];exact hbw.size
         have hLs2:L2.length<3000000:=by omega
         clear hL2 hown hbw hbox
         by_cases hz:z<U.length
         . obtain ⟨kU,rfl⟩:∃kU,gk=kU+1:=⟨gk - 1,by omega⟩
           have HZK:=hdz hzk;have hz':(z:Int)<(U.length:Int):=by omega
           have HZ:=hdz hz;clear hzk hLl2 hz
           go_wp2_with (at_builtin;refine wpList_append_own _ rfl _ _ 287 rfl NB 289 i0 (.agg #[.int .i64 0,.int .u8 0]) 2 16 Tryz.underlying287 hi hz0 hz1 hz2 rfl (by decide) _ _ _ rfl (HOX2.out.alloc _) ⟨wr.heap.size,0,none⟩ 1 1 (JeP (-1,U[z]'HZ.out)) rfl rfl (JaW _ _ _) (Jeh _) (by unfold maxLen;omega) (by omega) (by first | omega | (simp;omega)) ?_)
           intro v' w' hown' hg' _;obtain⟨p',c',rfl⟩:=Jae hown';have HB':Hid (w'.heap[β]?=some (.cells #[.int .i64 (Kn:Int),.int .i64 D,.string ⟨U.toArray⟩] 50 (0,0))):=JeX ((heap_alloc_old _ _ (Jav HBO.out)).trans HBO.out) (HOX2.out.alloc _) hg' (by intro c fz e;cases e);have HBW':Hid (Below NB W2 w'):=(HBX2.out.alloc hwsx2 _).grown hg' (by rw[wsa];omega) fun k hk=>(HOX2.out.lt k hk).1;have HO':=hdz hown';clear hown' hg';go_wp2
           go_roundg kU
           case measure=>omega
           case rel =>
            have e1:E1++putC (U.take (z+1))=L2++[(-1,U[z]'HZ.out)]:=by rw[Jlr U z HZ.out,←HL2.out,List.append_assoc]
            refine⟨z+1,by go_num,by have:=HZK.out;omega,?_,HBW'.out,HB'.out⟩;rw[e1,Jcz,List.length_append];exact HO'.out
         . obtain rfl:z=U.length:=by omega
           obtain rfl:gk=0:=by omega
           have hlt2:¬(U.length:Int)<(U.length:Int):=by omega
           clear hzk hLl2 hz;go_wp2
           go_roundg k
           case measure=>omega
           case rel =>
            have e1:endP M (b.take (x+1))=L2:=by rw[HEND.out,←HL2.out,List.take_length]
            refine⟨x+1,by go_num,by have:=HXK.out;omega,?_,?_,HBX2.out⟩
            . rw[HLN.out]
            . rw[e1];exact HOX2.out
     . obtain rfl : x = lb:=by have:=HLB.out;omega
       obtain rfl:gk=0:=by have:=HLB.out;omega
       have eT:b.take x=b:=List.take_of_length_le (by rw[HLB.out];exact nlr _);have HEE:Hid (endP (midP 0 a) b=E):=show endP (midP 0 a) b=E by rw[HME.out,←HE.out,eT]
       have hok:okC n (endP (midP 0 a) b) 0:=Jq0 n b (midP 0 a) 0 (Jak F2.out.one) (Jqy n a 0 F1.out.one (Int.le_refl 0) (by rw[HN.out];omega));rw[HEE.out]at hok;have HOK:=hdz hok;have hN:=HA1.out;subst hN;have hxx:¬(x:Int)<(x:Int):=by omega
       obtain⟨NC,hNC⟩:∃NC,wr.heap.size=NC:=⟨_,rfl⟩;obtain⟨W3,hW3⟩:∃W3,wr=W3:=⟨_,rfl⟩;rw[hW3]at HOX HBX hNB hNC ⊢;have HNC:=hdz hNC;have HNBC:Hid (NB<=NC):=show NB<=NC by rw[←hNC];exact hNB
       have hE0:(0:Int)<=(E.length:Int):=by omega
       clear hx hxk eT hok hW3 hNC
       go_upto_region 38 with fail
       go_cut [20] from 120 to 125 (fun u20 wc=>∃g1 g2 q,u20=.pointer (some ⟨q,0,none⟩)/\gapR W3 NC g1 g2 q n (List.replicate (n+1) []) (List.replicate n false) wc)
       case first =>
        have hm1:=Jto n (by omega);have hm2:=Jq4 n (by omega);have hwn:IntKind.i64.wrap ((n:Int)+1)=(n:Int)+1:=by rw[IntKind.wrap_i64];omega
        have hNCw:=HNC.out;have HNW:=hdz hNCw;clear hNCw
        go_region
        all_goals
         have hm0:n+1<=maxLen:=by unfold maxLen;omega
         have hm3:n<=maxLen:=by omega
         go_wp2
         go_meet
         case rel =>
          first
           | (refine⟨W3.heap.size,W3.heap.size+1,_,rfl,?_,?_,?_,?_,?_,?_⟩;rotate_left 2;(focus (simp[go_sem];done));(focus (simp[go_sem];done));(exact⟨by omega,by omega,by omega⟩);(rw[←HNW.out];exact Jc7 _ _ _ _);(rw[List.map_replicate];first | exact(JaC _ NC _ _ _ _ (by simp) (by have:=HNW.out;omega) hm0).drew | exact((JaC _ NC _ _ _ _ (by simp) (by have:=HNW.out;omega) hm0).alloc _).drew | exact(((JaC _ NC _ _ _ _ (by simp) (by have:=HNW.out;omega) hm0).alloc _).alloc _).drew);(rw[List.map_replicate];first | exact(JaC _ NC _ _ _ _ (by simp) (by have:=HNW.out;omega) hm3).drew | exact((JaC _ NC _ _ _ _ (by simp) (by have:=HNW.out;omega) hm3).alloc _).drew | exact(((JaC _ NC _ _ _ _ (by simp) (by have:=HNW.out;omega) hm3).alloc _).alloc _).drew))
           | (refine⟨W3.heap.size,W3.heap.size+1+1,_,rfl,?_,?_,?_,?_,?_,?_⟩;rotate_left 2;(focus (simp[go_sem];done));(focus (simp[go_sem];done));(exact⟨by omega,by omega,by omega⟩);(rw[←HNW.out];exact Jc7 _ _ _ _);(rw[List.map_replicate];first | exact(JaC _ NC _ _ _ _ (by simp) (by have:=HNW.out;omega) hm0).drew | exact((JaC _ NC _ _ _ _ (by simp) (by have:=HNW.out;omega) hm0).alloc _).drew | exact(((JaC _ NC _ _ _ _ (by simp) (by have:=HNW.out;omega) hm0).alloc _).alloc _).drew);(rw[List.map_replicate];first | exact(JaC _ NC _ _ _ _ (by simp) (by have:=HNW.out;omega) hm3).drew | exact((JaC _ NC _ _ _ _ (by simp) (by have:=HNW.out;omega) hm3).alloc _).drew | exact(((JaC _ NC _ _ _ _ (by simp) (by have:=HNW.out;omega) hm3).alloc _).alloc _).drew))
           | (refine⟨W3.heap.size+1,W3.heap.size+1+1,_,rfl,?_,?_,?_,?_,?_,?_⟩;rotate_left 2;(focus (simp[go_sem];done));(focus (simp[go_sem];done));(exact⟨by omega,by omega,by omega⟩);(rw[←HNW.out];exact Jc7 _ _ _ _);(rw[List.map_replicate];first | exact(JaC _ NC _ _ _ _ (by simp) (by have:=HNW.out;omega) hm0).drew | exact((JaC _ NC _ _ _ _ (by simp) (by have:=HNW.out;omega) hm0).alloc _).drew | exact(((JaC _ NC _ _ _ _ (by simp) (by have:=HNW.out;omega) hm0).alloc _).alloc _).drew);(rw[List.map_replicate];first | exact(JaC _ NC _ _ _ _ (by simp) (by have:=HNW.out;omega) hm3).drew | exact((JaC _ NC _ _ _ _ (by simp) (by have:=HNW.out;omega) hm3).alloc _).drew | exact(((JaC _ NC _ _ _ _ (by simp) (by have:=HNW.out;omega) hm3).alloc _).alloc _).drew))
           | (refine⟨W3.heap.size+1,W3.heap.size,_,rfl,?_,?_,?_,?_,?_,?_⟩;rotate_left 2;(focus (simp[go_sem];done));(focus (simp[go_sem];done));(exact⟨by omega,by omega,by omega⟩);(rw[←HNW.out];exact Jc7 _ _ _ _);(rw[List.map_replicate];first | exact(JaC _ NC _ _ _ _ (by simp) (by have:=HNW.out;omega) hm0).drew | exact((JaC _ NC _ _ _ _ (by simp) (by have:=HNW.out;omega) hm0).alloc _).drew | exact(((JaC _ NC _ _ _ _ (by simp) (by have:=HNW.out;omega) hm0).alloc _).alloc _).drew);(rw[List.map_replicate];first | exact(JaC _ NC _ _ _ _ (by simp) (by have:=HNW.out;omega) hm3).drew | exact((JaC _ NC _ _ _ _ (by simp) (by have:=HNW.out;omega) hm3).alloc _).drew | exact(((JaC _ NC _ _ _ _ (by simp) (by have:=HNW.out;omega) hm3).alloc _).alloc _).drew))
           | (refine⟨W3.heap.size+1+1,W3.heap.size,_,rfl,?_,?_,?_,?_,?_,?_⟩;rotate_left 2;(focus (simp[go_sem];done));(focus (simp[go_sem];done));(exact⟨by omega,by omega,by omega⟩);(rw[←HNW.out];exact Jc7 _ _ _ _);(rw[List.map_replicate];first | exact(JaC _ NC _ _ _ _ (by simp) (by have:=HNW.out;omega) hm0).drew | exact((JaC _ NC _ _ _ _ (by simp) (by have:=HNW.out;omega) hm0).alloc _).drew | exact(((JaC _ NC _ _ _ _ (by simp) (by have:=HNW.out;omega) hm0).alloc _).alloc _).drew);(rw[List.map_replicate];first | exact(JaC _ NC _ _ _ _ (by simp) (by have:=HNW.out;omega) hm3).drew | exact((JaC _ NC _ _ _ _ (by simp) (by have:=HNW.out;omega) hm3).alloc _).drew | exact(((JaC _ NC _ _ _ _ (by simp) (by have:=HNW.out;omega) hm3).alloc _).alloc _).drew))
           | (refine⟨W3.heap.size+1+1,W3.heap.size+1,_,rfl,?_,?_,?_,?_,?_,?_⟩;rotate_left 2;(focus (simp[go_sem];done));(focus (simp[go_sem];done));(exact⟨by omega,by omega,by omega⟩);(rw[←HNW.out];exact Jc7 _ _ _ _);(rw[List.map_replicate];first | exact(JaC _ NC _ _ _ _ (by simp) (by have:=HNW.out;omega) hm0).drew | exact((JaC _ NC _ _ _ _ (by simp) (by have:=HNW.out;omega) hm0).alloc _).drew | exact(((JaC _ NC _ _ _ _ (by simp) (by have:=HNW.out;omega) hm0).alloc _).alloc _).drew);(rw[List.map_replicate];first | exact(JaC _ NC _ _ _ _ (by simp) (by have:=HNW.out;omega) hm3).drew | exact((JaC _ NC _ _ _ _ (by simp) (by have:=HNW.out;omega) hm3).alloc _).drew | exact(((JaC _ NC _ _ _ _ (by simp) (by have:=HNW.out;omega) hm3).alloc _).alloc _).drew))
       case rest =>
        obtain⟨g1,g2,q,rfl,hgr⟩:=hcut;have y0:=hgr.c0;have y1:=hgr.c1;have hst:cmpD W3 NC g1 g2 q n n (.int .i64 0) wc:=⟨0,rfl,by omega,by simpa using hgr⟩;have HST:=hdz hst;clear hst hgr;go_wp2
        go_loopg [129] n (fun k i wx=>cmpD W3 NC g1 g2 q n k i wx)
        case atStart=>exact HST.out
        case round =>
         obtain⟨j2,rfl,hjk,hg⟩:=hrel;have HG:=hdz hg;clear HST y0 y1;have z0:=hg.c0;have z1:=hg.c1
         by_cases hj2:j2<n
         . obtain ⟨k,rfl⟩:∃k,gk=k+1:=⟨gk - 1,by omega⟩
           have HJK:=hdz hjk;have z2:wr.cell? ⟨g2,j2,none⟩=some (.bool false):=by
            rw[hg.r2.cellAt j2 (by omega),List.getElem?_map,List.getElem?_append_right (by simp),List.length_replicate,Nat.sub_self,List.getElem?_replicate,if_pos (by omega)];rfl
           have z3:wr.frozen? ⟨g2,j2,none⟩=false:=hg.r2.frozenAt j2;have hjn:(j2:Int)<(n:Int):=by omega
           clear hg hjk;go_wp2
           go_roundg k
           case measure=>omega
           case rel =>
            have e1:(List.replicate j2 true++List.replicate (n - j2) false).set j2 true=List.replicate (j2+1) true++List.replicate (n - (j2+1)) false:=by
             rw[List.set_append_right _ _ (by simp),List.length_replicate,Nat.sub_self,show n - j2=(n - (j2+1))+1 by omega,List.replicate_succ,List.set_cons_zero,List.replicate_succ' (n:=j2),List.append_assoc];rfl
            have:=Jl9 HG.out j2 true;rw[e1]at this;exact⟨j2+1,by go_num,by have:=HJK.out;omega,this⟩
         . obtain rfl : j2=n:=by omega
           obtain rfl:gk=0:=by omega
           have hjn:¬(j2:Int)<(j2:Int):=by omega
           have HGF:Hid (gapR W3 NC g1 g2 q j2 (cst0 j2).put (cst0 j2).drop wr):=by
            have:=HG.out;rw[Nat.sub_self,List.replicate_zero,List.append_nil]at this;exact this
           clear hg hjk hj2;go_wp2;have hst:cmpG W3 NC g1 g2 q j2 E E.length (.int .i64 0) (.int .i64 0) wr:=⟨0,rfl,by omega,rfl,HGF.out⟩;have HST:=hdz hst;clear hst HG HGF z0 z1
           go_loopg [22,139] E.length (fun k u22 i wx=>cmpG W3 NC g1 g2 q j2 E k u22 i wx)
           case atStart=>exact HST.out
           case round =>
            obtain⟨t,rfl,htk,rfl,hg⟩:=hrel;clear HST;have hinv:=cinvs j2 E (JjX j2 E 0 (Int.le_refl 0) HOK.out) t (by omega);obtain⟨st,hst⟩:∃st,(E.take t).foldl Jds (cst0 j2)=st:=⟨_,rfl⟩;rw[hst]at hg hinv ⊢;have HST4:=hdz hst;have HG:=hdz hg;have z0:=hg.c0;have z1:=hg.c1;have hNCw:NC<=wr.heap.size:=by have:=hg.below.size;have:=HNC.out;omega
            have hql:q<wr.heap.size:=blt wr _ z0;have hg1l:g1<wr.heap.size:=(hg.r1.lt g1 rfl).2;have hg2l:g2<wr.heap.size:=(hg.r2.lt g2 rfl).2;clear hst
            by_cases ht:t<E.length
            . obtain ⟨k,rfl⟩:∃k,gk=k+1:=⟨gk - 1,by omega⟩
              have HTK:=hdz htk;obtain⟨⟨i,c⟩,hx⟩:∃z,E[t]=z:=⟨_,rfl⟩;have hEt:E[t]?=some (i,c):=by rw[lgg ht,hx]
              have hfold:(E.take (t+1)).foldl Jds (cst0 j2)=Jds st (i,c):=by
               rw[List.take_succ_eq_append_getElem ht,List.foldl_append,HST4.out,hx];rfl
              have HFOLD:=hdz hfold;have hxi:=JjX j2 E 0 (Int.le_refl 0) HOK.out (i,c) (List.mem_of_getElem? hEt);simp only at hxi;have hox:=HOX.out
              obtain ⟨ge,rfl,hge1,hge2⟩:∃ge,pe=some ⟨ge,0,none⟩/\NB<=ge/\ge<W3.heap.size:=by
               rcases hox.2 with ⟨hx',h0⟩|⟨g,cap,cur,hx',hgb,hgg,_⟩
               . omega
               . simp only[Value.slice.injEq,true_and]at hx'
                 exact⟨g,hx'.1,hgb,Jav hgg⟩
              obtain⟨e0,e1⟩:=Jpp E t (i,c) hEt;have q0:wr.cell? ⟨ge,t*2,none⟩=some (.int .i64 i):=(hg.below.cell (p:=⟨ge,t*2,none⟩) (by show ge<NC;rw[←HNC.out];exact hge2)).trans ((hox.cellAt (t*2) (by omega)).trans e0);have q1:wr.cell? ⟨ge,t*2+1,none⟩=some (.int .u8 (c.toNat:Int)):=(hg.below.cell (p:=⟨ge,t*2+1,none⟩) (by show ge<NC;rw[←HNC.out];exact hge2)).trans ((hox.cellAt (t*2+1) (by omega)).trans e1);have htE:(t:Int)<(E.length:Int):=by omega
              obtain⟨i1,i2,i3,i4⟩:=hinv;clear hox e0 e1 hfold htk hx hEt
              by_cases hi:i<0
              . obtain ⟨u0,hu0⟩:∃u0,st.put[st.last]?=some u0:=⟨_,lgg (by omega)⟩
                have hus:u0.length<=t:=i4 u0 (List.mem_of_getElem? hu0);have q2:wr.cell? ⟨g1,st.last,none⟩=some (.string ⟨u0.toArray⟩):=by
                 rw[hg.r1.cellAt st.last (by omega),List.getElem?_map,hu0];rfl
                have q3:wr.frozen? ⟨g1,st.last,none⟩=false:=hg.r1.frozenAt st.last;have HSTEP:Hid (Jds st (i,c)=⟨st.put.set st.last (u0++[c]),st.drop,st.last⟩):=show Jds st (i,c)=⟨st.put.set st.last (u0++[c]),st.drop,st.last⟩ by
                 unfold Jds;rw[if_pos hi,hu0];rfl
                have hlast:(st.last:Int)<(j2:Int)+1:=by omega
                have hsz:(ByteArray.mk u0.toArray).size+1<=400000000:=by
                 have:(ByteArray.mk u0.toArray).size=u0.length:=by simp[ByteArray.size]
                 omega
                clear hg hu0 i4 hxi
                go_upto_region 49 with fail
                have hcv:(convert 158 9 (.slice (some ⟨wr.heap.size+1,0,none⟩) 1 1)).run Tryz.prog ((wr.alloc (.cells #[.int .i64 i,.int .u8 (c.toNat:Int)] 289)).alloc (.cells #[.int .u8 (c.toNat:Int)] 5)).drew=.ok (.string ⟨[c].toArray⟩) ((wr.alloc (.cells #[.int .i64 i,.int .u8 (c.toNat:Int)] 289)).alloc (.cells #[.int .u8 (c.toNat:Int)] 5)).drew:=by
                 refine run_convert_bytes_back _ 158 9 5 ⟨wr.heap.size+1,0,none⟩ 1 [c] Tryz.underlying158 Tryz.underlying5 Tryz.underlying9 fun j hj=>?_;obtain rfl:j=0:=by simpa using hj
                 simp[go_sem,Addr.add]
                go_region
                go_wp2
                go_roundg k
                case measure=>omega
                case rel =>
                 refine⟨t+1,by go_num,by have:=HTK.out;omega,?_,?_⟩
                 . rw[HFOLD.out,HSTEP.out]
                 . rw[HFOLD.out,HSTEP.out]
                   have hg:=Js0 HG.out st.last (u0++[c]);rw[←Jps]at hg;exact JqR (JgK (JgK hg (by simpa using hNCw) _) (by simp;omega) _)
              . have q4:wr.frozen? ⟨g2,i.toNat,none⟩=false:=hg.r2.frozenAt i.toNat
                have hi2:0<=i/\i<(j2:Int):=by
                 rcases hxi with h|h
                 . exact absurd h hi
                 . exact h
                obtain⟨iN,rfl⟩:∃iN:Nat,i=(iN:Int):=⟨i.toNat,by omega⟩;rw[Int.toNat_natCast]at q4;obtain⟨dd,hdd⟩:∃dd,st.drop[iN]?=some dd:=⟨_,lgg (by omega)⟩;have q2:wr.cell? ⟨g2,iN,none⟩=some (.bool dd):=by
                 rw[hg.r2.cellAt iN (by omega),List.getElem?_map,hdd];rfl
                have HSTEP:Hid (Jds st ((iN:Int),c)=⟨st.put,st.drop.set iN false,iN+1⟩):=show Jds st ((iN:Int),c)=⟨st.put,st.drop.set iN false,iN+1⟩ by
                 unfold Jds;rw[if_neg hi];rfl
                have hi3:=hi2.2;clear hg hdd i4 hxi hi2;go_wp2
                go_roundg k
                case measure=>omega
                case rel =>
                 refine⟨t+1,by go_num,by have:=HTK.out;omega,?_,?_⟩
                 . rw[HFOLD.out,HSTEP.out];go_num
                 . rw[HFOLD.out,HSTEP.out];exact JgK (Jl9 HG.out iN false) (by simpa using hNCw) _
            . obtain rfl:t=E.length:=by omega
              obtain rfl:gk=0:=by omega
              have hrow:=JhL j2 E j2 [] [] [] 0 rfl rfl (by omega) HOK.out;have hcst:(⟨[]++[] :: List.replicate j2 [],[]++List.replicate j2 true,0⟩:CSt)=cst0 j2:=rfl;rw[hcst]at hrow;have hst':=HST4.out;rw[List.take_length]at hst';rw[hst',List.nil_append,List.nil_append,show((0:Nat):Int)=0 from rfl]at hrow;obtain⟨i1,i2,i3,i4⟩:=hinv;have hGl:(gapE j2 E [] 0).1.length=j2:=by
               have e:(Jhk (gapE j2 E [] 0)).length=j2:=by rw[←hrow.2];exact i2
               simpa[Jhk] using e
              have hGp:JbZ (gapE j2 E [] 0).1+(gapE j2 E [] 0).2.length<1000000000:=by
               have:=Jqm j2 E [] 0;simp only[List.length_nil]at this;omega
              have hGP:=hg.r1;have hGD:=hg.r2;rw[hrow.1]at hGP;rw[hrow.2]at hGD
              have CG:Hid _:=Jj4 g1 g2 j2 (gapE j2 E [] 0) wr hGl (by omega) hGp
               (fun i qq hi=>by
                 have hlt:=(llt hi);have hl:(JjC (gapE j2 E [] 0)).length=j2+1:=by simp[JjC,hGl]
                 rw[hGP.cellAt i (by unfold JjC at hl;omega),List.getElem?_map,show(JjC (gapE j2 E [] 0))[i]?=some qq from hi];rfl)
               (fun i d hi=>by
                 have hlt:=(llt hi);rw[List.length_map,hGl]at hlt
                 rw[hGD.cellAt i (by omega),List.getElem?_map,show(Jhk (gapE j2 E [] 0))[i]?=some d from hi];rfl)
               hg1l hg2l
              have HBF:=hdz hg.below;have htt:¬(E.length:Int)<(E.length:Int):=by omega
              have HGG:Hid (endP (midP 0 a) b=E):=HEE;clear hg hrow hcst hst' i4 hGl hGp hGP hGD htk ht
              go_wp2_with (go_at_call 185;refine Calls.mono CG.out ?_;rintro e w9 ⟨v9,rfl,o9,hb9⟩)
              obtain⟨p9,c9,rfl⟩:=Jae o9
              go_ret2
              refine⟨_,rfl,?_,?_⟩
              . have k1:=HB3.out.trans (HBW.out.mono HB3.out.size)
                have k2:=k1.trans (HBX.out.mono (show w.heap.size<=NB by rw[←HNB.out];exact k1.size));have k3:=k2.trans (HBF.out.mono (show w.heap.size<=NC by rw[←HNC.out];exact k2.size));rw[HGG.out];exact JeE k3.size o9
              . have k1:=HB3.out.trans (HBW.out.mono HB3.out.size)
                have k2:=k1.trans (HBX.out.mono (show w.heap.size<=NB by rw[←HNB.out];exact k1.size));have k3:=k2.trans (HBF.out.mono (show w.heap.size<=NC by rw[←HNC.out];exact k2.size));exact k3.trans (hb9.mono k3.size)
theorem comp_eq{a b:List Pt}(f1:fineP a)(f2:fineP b)(hl:(Jar b).1=(Jar a).2){n:Nat}(hn:Jag a=n):JcY (gapE n (endP (midP 0 a) b) [] 0)=Jaq (JdU a b):=by
 obtain⟨n1,_,n3,n4⟩:=JaY f1;obtain⟨m1,_,m3,_⟩:=JaY f2;have o1:∀p∈Jac a,oneP p:=fun p hp=>(n1 p hp).1;have o2:∀p∈Jac b,oneP p:=fun p hp=>(m1 p hp).1;have e1:=(JaZ f1).2;have e2:=(JaZ f2).1;have ok:okC n (endP (midP 0 a) b) 0:=Jq0 n b (midP 0 a) 0 (Jak f2.one) (Jqy n a 0 f1.one (by omega) (by omega));have e3:=Jkn n (endP (midP 0 a) b) [] 0 nst0 ok;rw[Jb6]at e3;have e4:=Jrk n (Jao (Jac a)+Jao (Jac b)) (Jac a) (Jac b) 0 nst0 o1 o2 (by omega) (by rw[Jka _ 0 fun p hp=>(Jak o1 p hp).1];omega) (by omega) (nlr _);rw[JnM a f1.one,Js6 b f2.one]at e4;rw[JmU]
 congr 1
 exact e3.trans e4.symm
end
section
open Go.RowKit
theorem Jlb(s:ByteArray)(rs:List Nat)(u v:Int)(qs:List Pt)(val:Value)(w:World)(hr:∀r∈rs,Jas r)(he:encs rs=s.data.toList)(hs:s.size<1000000)(ho:opAt w val qs)(hwf:∀q∈qs,wfP q)(hsm:∀q∈qs,q.put.length<100000000)(hl:qs.length<=1000) :
    Calls Tryz.prog 14 #[.string s,.int .i64 u,.int .i64 v,val] w fun e w'=>∃v',e=.returned (.tuple #[v',.int .i64 (tzE rs u v qs)])/\opN w.heap.size w' v' (tzO rs u v qs)/\Below w.heap.size w w':=by
 unfold tzE tzO
 by_cases hu:Jaz u/\Jaz v
 . rw [(JgZ u).2 hu.1,(JgZ v).2 hu.2,Bool.and_self,if_pos rfl,if_pos rfl]
   by_cases hc:chkE qs (by_ u rs)=0
   . rw[if_pos hc,if_pos hc]
     exact JjL s rs u v qs val w hr he hs hu.1 hu.2 ho hwf hsm hl hc
   . rw[if_neg hc,if_neg hc]
     exact(Jm1 s rs u v qs val w hr he hs hu.1 hu.2 ho hwf hsm hl hc).mono fun e w' h=>⟨_,h.1,JbS _ w',h.2⟩
 . have e:(uB u && uB v)=false:=Bool.eq_false_iff.2 fun e=>hu (by rw[Bool.and_eq_true]at e;exact⟨(JgZ u).1 e.1,(JgZ v).1 e.2⟩)
   rw[e,if_neg (by decide),if_neg (by decide)];exact(Jla s u v val hu w).mono fun e w' h=>⟨_,h.1,JbS _ w',h.2⟩
theorem Jlg(v1 v2:Value)(a b:List Pt)(t:List UInt8)(w:World)(h1:opAt w v1 a)(h2:opAt w v2 b)(ha:good a t)(hb:good b (Jaa a t))(hl1:t.length+Jal a<1000000)(hl2:(Jaa a t).length+Jal b<1000000) :
    Calls Tryz.prog 122 #[v1,v2] w fun e w'=>∃v',e=.returned (.tuple #[v',.int .i64 0])/\opN w.heap.size w' v' (Jaq (JdU a b))/\Below w.heap.size w w':=by
 have f1:=ha.fine hl1;have f2:=hb.fine hl2;have he:=ha.both hb hl1 hl2;have hl:(Jar b).1=(Jar a).2:=by rw[(ha.lens hl1).2,(hb.lens hl2).1]
 obtain⟨n,hn⟩:∃n:Nat,Jag a=n:=⟨(Jag a).toNat,by have:=JcW a (Jak f1.one);omega⟩;rw[←comp_eq f1 f2 hl hn];exact JjP v1 v2 a b w h1 h2 (ha.wf hl1) (hb.wf hl2) (fun q hq=>by have:=JaH q _ hq;omega) (fun q hq=>by have:=JaH q _ hq;omega) f1 f2 he hl n hn
theorem Jcu(v1 v2:Value)(F:Bool)(a b:List Pt)(t:List UInt8)(w:World)(h1:opAt w v1 a)(h2:opAt w v2 b)(ha:good a t)(hb:good b t)(hl1:t.length+Jal a<1000000)(hl2:t.length+Jal b<1000000) :
    Calls Tryz.prog 125 #[v1,v2,.bool F] w fun e w'=>∃v',e=.returned (.tuple #[v',.int .i64 0])/\opN w.heap.size w' v' (Jaq (Jaw F a b))/\Below w.heap.size w w':=by
 have f1:=ha.fine hl1;have f2:=hb.fine hl2;have:=JjM v1 v2 F a b w h1 h2 (ha.wf hl1) (hb.wf hl2) (fun q hq=>by have:=JaH q _ hq;omega) (fun q hq=>by have:=JaH q _ hq;omega) f1.len f2.len fun _=>⟨f1,f2⟩;have e:Ji8 a b=0:=by unfold Ji8;rw[ha.both hb hl1 hl2,if_pos rfl,(ha.lens hl1).1,(hb.lens hl2).1,if_pos rfl]
 rw[e,if_pos rfl]at this;exact this
end
section
open Go.RowKit Go.Maps
attribute [local go_sem] Oper.semAt_some Ja7 Jbe
variable {lo y : Nat}{w : World}{who u : Int}{S : Cl}
theorem Jm5(h:isRc lo w y who u S)(v:Value)(q:List Pt)(hx:opAt w v q)(h6:60<q.length) :
    Calls Tryz.prog 48 #[.pointer (some ⟨y,0,none⟩),v] w fun e w'=>e=.returned (.int .i64 4)/\Below w.heap.size w w':=by
 obtain⟨p,c,rfl,_⟩:=hx;have h6':(60:Int)<(q.length:Int):=by omega
 clear h
 go_enter Tryz.func48,Tryz.ntmps48
 go_wp2;go_ret;exact⟨rfl,brf _ _⟩
theorem Jlk{w5 W:World}{S':Cl}{v1 v2 v1' v2':Value}(hlo:lo<=y)(hb:Below w.heap.size w w5)(h3:w5.heap[y]?=some (.cells (JbI who u S v1 v2) 98 (0,0)))(hs:sameBut w5 W fun k=>k=y)
    (hW:W.heap[y]?=some (.cells (JbI who u S' v1' v2') 98 (0,0))) (h1:opX lo W v1' (Jau S' 0)) (h2:opX lo W v2' (Jau S' 1)):isRc lo W y who u S'/\sameBut w W fun k=>k=y :=
 ⟨⟨hlo,v1',v2',hW,h1,h2⟩,(Jai hb _).trans hs⟩
theorem Jdr{lo lo' y:Nat}{w5 W:World}{who u:Int}{S:Cl}{v1 v2 v:Value}{o:List Pt}(hlo:lo<=y)(h3:w5.heap[y]?=some (.cells (JbI who u S v1 v2) 98 (0,0)))(hs:sameBut w5 W fun k=>k=y)(h:opX lo w5 v o):opX lo W v o :=
 Jbb h hs fun k _ hk=>by obtain rfl:=hk;exact⟨hlo,JaP h3 (by decide)⟩
theorem Jlm(h:isRc lo w y who u S)(hk:okK 2000 S)(hu:Jaz u)(v:Value)(q:List Pt)(hx:opAt w v q)(hwf:∀p∈q,wfP p)(hpl:∀p∈q,p.put.length<=300)(h6:¬60<q.length)(hsz:S.seen.length<=100000)(hid:0<=S.id/\S.id<=1000000) :
    Calls Tryz.prog 48 #[.pointer (some ⟨y,0,none⟩),v] w fun e w'=>e=.returned (.int .i64 (edE u S q))/\isRc lo w' y who u (edS u S q)/\sameBut w w' fun k=>k=y:=by
 have hlt:=JeK h;have HC:=hdz h;have HK:=hdz hk;have hdl:=hk.len;have hrs:encs (Jam S.doc)=S.doc:=JbM (Jmi hk.V);have CT:Hid (∀wx,Below w.heap.size w wx->Calls Tryz.prog 14 #[.string ⟨S.doc.toArray⟩,.int .i64 u,.int .i64 1,v] wx fun e w'=>∃v',e=.returned (.tuple #[v',.int .i64 (tzE (Jam S.doc) u 1 q)])/\opN wx.heap.size w' v' (edO u S q)/\Below wx.heap.size wx w'):=fun wx hb=>Jlb ⟨S.doc.toArray⟩ (Jam S.doc) u 1 q v wx (fun r hr=>JbV hr) (by rw[hrs]) (by simp[ByteArray.size];omega) (JaK hx hb (nlr _)) hwf (fun p hp=>by have:=hpl p hp;omega) (by omega);have HPU:Hid (tzE (Jam S.doc) u 1 q=0->Jal (edO u S q)<=30000/\good (edO u S q) S.doc):=fun ht=>by
  obtain⟨g1,_,e3,e4⟩:=Jkj hu hk ht;obtain⟨hp1,_,_⟩:=JcC e3;refine⟨?_,g1⟩;rw[e4,JmP q _ fun p hp=>(hp1 p hp).1];have:=JjR q hpl;have:q.length*300<=60*300:=Nat.mul_le_mul_right _ (by omega);omega
 obtain⟨hlo,v1,v2,h3,h4,h5⟩:=h;obtain⟨p1,c1,rfl⟩:=Ja0 h4;obtain⟨p2,c2,rfl⟩:=Ja0 h5;have H4:=hdz h4;have H5:=hdz h5;generalize hn1:(Jau S 0).length=n1 at *;generalize hn2:(Jau S 1).length=n2 at *;have H3:=hdz h3;have HLO:=hdz hlo;obtain⟨p,c,rfl,r1,r2,r3⟩:=hx;have R3:=hdz r3;obtain⟨n,hn⟩:∃n,q.length=n:=⟨_,rfl⟩;have HN:=hdz hn;rw[hn]at r1 h6 CT ⊢;clear r3 hn h3 h4 h5 hlo;unfold maxLen at r2;have hni:(n:Int)<=60:=by omega
 have HID:=hdz hid;have HSZ:=hdz hsz;have HDL:Hid (S.doc.length<=200000):=(by omega:S.doc.length<=200000);have HNE:Hid (∀(r:Int),edE u S q=r->r≠0->edS u S q=S):=fun r e1 e2=>if_neg (by rw[e1];exact e2);have HL6:Hid (¬60<q.length):=by show ¬_;rw[HN.out];exact h6
 clear hk hu hwf hpl h6 hsz hid hdl hrs hn1 hn2;generalize hOO:edO u S q=O at *;have HOO:=hdz hOO;clear hOO
 go_enter Tryz.func48,Tryz.ntmps48
 go_wp2
 go_loopw [15] (fun i wr=>∃k:Nat,i=.int .i64 k/\k<=n/\(q.take k).any JdO=false/\Below w.heap.size w wr) (fun i _=>n - (intOf i).toNat)
 case atStart=>exact⟨0,rfl,Nat.zero_le _,rfl,brf _ _⟩
 case round =>
  obtain⟨k,rfl,hk,hno,hbw⟩:=hrel;have HNO:=hdz hno;have HBW:=hdz hbw;clear hno hbw
  by_cases hltn:k<n
  . have hkr:k<q.length:=by rw[HN.out];exact hltn
    have hne:q≠[]:=by intro e;rw[e]at hkr;exact absurd hkr (Nat.not_lt_zero _)
    obtain⟨b,o,rfl,hb,hcell⟩:=R3.out hne;obtain⟨e0,e1,e2⟩:=hcell k q[k] (lgg hkr);have g0:=(HBW.out.cell (p:=⟨b,o+k*3,none⟩) hb).trans e0;have g1:=(HBW.out.cell (p:=⟨b,o+k*3+1,none⟩) hb).trans e1;have g2:=(HBW.out.cell (p:=⟨b,o+k*3+2,none⟩) hb).trans e2;have hki:(k:Int)<(n:Int):=by omega
    have hts:q.take (k+1)=q.take k++[q[k]]:=List.take_succ_eq_append_getElem hkr;have hin:q[k]∈q:=List.getElem_mem hkr;have HBO:Hid (∀o,Below w.heap.size w (wr.alloc o)):=fun o=>HBW.out.alloc HBW.out.size o
    by_cases hm:200<q[k].put.length
    . have HAN:Hid (edE u S q=4):=if_pos (.inr (List.any_eq_true.2 ⟨_,hin,decide_eq_true hm⟩))
      clear hcell e0 e1 e2 hne hts hin CT HPU;generalize q[k]=qq at *;obtain⟨K,D,U⟩:=qq;simp only at g0 g1 g2 hm;have hm1:(200:Int)<(U.length:Int):=by omega
      have hz:(ByteArray.mk U.toArray).size=U.length:=by simp[ByteArray.size]
      go_wp2;go_ret;refine⟨by rw[HAN.out];rfl,?_⟩;rw[HNE.out 4 HAN.out (by decide)];exact JdP HC.out (HBO.out _)
    . have HAN:Hid ((q.take (k+1)).any JdO=false):=by show _=_;rw[hts,List.any_append,HNO.out];simp[JdO,hm]
      clear hcell e0 e1 e2 hne hts hin CT HPU;generalize q[k]=qq at *;obtain⟨K,D,U⟩:=qq;simp only at g0 g1 g2 hm;have hm1:¬(200:Int)<(U.length:Int):=by omega
      have hz:(ByteArray.mk U.toArray).size=U.length:=by simp[ByteArray.size]
      go_wp2
      go_roundw
      case rel=>exact⟨k+1,by go_num,by omega,HAN.out,HBO.out _⟩
      case measure=>simp[intOf];omega
  . obtain rfl:k=n:=by omega
    have HAN:Hid (¬(60<q.length\/q.any JdO=true)):=by
     have:=HNO.out;rw[←HN.out,List.take_length]at this;show ¬_;rintro (e|e)
     . exact HL6.out e
     . rw[this]at e;cases e
    have hki:¬((k:Int)<(k:Int)):=by omega
    clear R3 HNO
    by_cases ht:tzE (Jam S.doc) u 1 q=0
    case neg =>
     have HED:Hid (edE u S q=tzE (Jam S.doc) u 1 q):=by show _=_;unfold edE;rw[if_neg HAN.out,if_pos ht]
     have HS:Hid (edS u S q=S):=HNE.out _ HED.out ht;clear HPU HAN HNE;generalize tzE (Jam S.doc) u 1 q=E at *;have hE1:(E==0)=false:=beq_eq_false_iff_ne.2 ht
     go_wp2_with (go_at_call 9999)
     refine wz (fun wx:World=>wx.heap[y]?=some (.cells (JbI who u S (.slice p1 n1 c1) (.slice p2 n2 c2)) 98 (0,0))) 15 ((HBW.out.block y hlt).trans H3.out) wzb fun w30 hb30 hz0 G hG=>?_;have hb2A:=HBW.out.trans (hb30.mono HBW.out.size);have y1:∀x,(G x).cell? ⟨y,1,none⟩=some (.int .i64 u):=fun x=>(Jap (hG.but x)).2.1;have y2:∀x,(G x).cell? ⟨y,2,none⟩=some (.string ⟨S.doc.toArray⟩):=fun x=>(Jap (hG.but x)).2.2.1;(iterate 9 (refine ay hG hz0 fun _ k=>?_;go_simp;apply k;clear k));clear y1 y2;refine JaI (i:=9) (by kernel_rfl) ⟨_,rfl,?_⟩;intro w31 hb31 K hK
     go_simp
     have hb2B:=hb2A.trans (hb31.mono hb2A.size);refine(CT.out w31 hb2B).mono ?_;rintro e w3 ⟨v',rfl,hn3,hb3⟩;obtain⟨p3,c3,rfl⟩:=Jbu hn3;have hz2:w3.heap[y]?=some (.cells (JbI who u S (.slice p1 n1 c1) (.slice p2 n2 c2)) 98 (0,0)):=((hb2B.trans (hb3.mono hb2B.size)).block y hlt).trans H3.out;refine⟨_,rfl,hK _ _ (fun _=>hz2) ?_⟩;clear hK K hz0;(iterate 5 (refine ay hG hz2 fun _ k=>?_;go_simp;apply k;clear k));clear hG hz2;refine JaA (by kernel_rfl) ?_;intro w4 hb4;have hb44:=(hb2B.trans (hb3.mono hb2B.size));have HB4:Hid (Below w.heap.size w w4):=hb44.trans (hb4.mono hb44.size);have HN4:Hid (∀lo',opX lo' w4 (.slice p3 O.length c3) O):=fun lo'=>Jan (JaG hn3) hb4;have HN4':=hdz ((Jan (lo:=0) (JaG hn3) hb4).1);have hk4:=(HB4.out.block y hlt).trans H3.out;have HK4:=hdz hk4;have t2:=(Jap hk4).2.2.1;clear hb30 hb31 hb3 hb4 hb44 hb2A hb2B hn3 hk4;go_wp2;go_ret;rw[HED.out,HS.out];exact⟨rfl,JdP HC.out HB4.out⟩
    case pos =>
    obtain⟨hpu,g1⟩:=HPU.out ht;rw[ht]at CT;have hdl:=HDL.out;have CA:Hid (∀p3 c3 wx,opAt wx (.slice p3 O.length c3) O->Calls Tryz.prog 32 #[.slice p3 O.length c3,.string ⟨S.doc.toArray⟩] wx fun e w'=>e=.returned (.tuple #[.string ⟨(Jaa O S.doc).toArray⟩,.int .i64 0])/\Below wx.heap.size wx w'):=fun p3 c3 wx ho=>by
     have hf:=g1.fine (show S.doc.length+Jal O<1000000 by omega);have:=Jbd _ O S.doc wx ho (g1.wf (show S.doc.length+Jal O<1000000 by omega)) (fun q hq=>by have:=JaH q _ hq;omega) (by omega) hf.len (by omega);rw[g1.ord,if_pos rfl]at this;exact this
    have hzz:(ByteArray.mk (Jaa O S.doc).toArray).size=(Jaa O S.doc).length:=by simp[ByteArray.size]
    by_cases hfu:2000<(Jaa O S.doc).length
    . have HED:Hid (edE u S q=12):=by show _=_;unfold edE;rw[if_neg HAN.out,if_neg (by simpa using ht),HOO.out,if_pos hfu]
      have HS:Hid (edS u S q=S):=HNE.out _ HED.out (by decide);have hfi:(2000:Int)<((Jaa O S.doc).length:Int):=by omega
      clear HPU HAN HNE g1 hpu hdl HDL HOO ht hfu;generalize Jaa O S.doc=TX at *
      go_wp2_with (go_at_call 9999)
      refine wz (fun wx:World=>wx.heap[y]?=some (.cells (JbI who u S (.slice p1 n1 c1) (.slice p2 n2 c2)) 98 (0,0))) 15 ((HBW.out.block y hlt).trans H3.out) wzb fun w30 hb30 hz0 G hG=>?_;have hb2A:=HBW.out.trans (hb30.mono HBW.out.size);have y1:∀x,(G x).cell? ⟨y,1,none⟩=some (.int .i64 u):=fun x=>(Jap (hG.but x)).2.1;have y2:∀x,(G x).cell? ⟨y,2,none⟩=some (.string ⟨S.doc.toArray⟩):=fun x=>(Jap (hG.but x)).2.2.1;(iterate 9 (refine ay hG hz0 fun _ k=>?_;go_simp;apply k;clear k));clear y1 y2;refine JaI (i:=9) (by kernel_rfl) ⟨_,rfl,?_⟩;intro w31 hb31 K hK
      go_simp
      have hb2B:=hb2A.trans (hb31.mono hb2A.size);refine(CT.out w31 hb2B).mono ?_;rintro e w3 ⟨v',rfl,hn3,hb3⟩;obtain⟨p3,c3,rfl⟩:=Jbu hn3;have hz2:w3.heap[y]?=some (.cells (JbI who u S (.slice p1 n1 c1) (.slice p2 n2 c2)) 98 (0,0)):=((hb2B.trans (hb3.mono hb2B.size)).block y hlt).trans H3.out;refine⟨_,rfl,hK _ _ (fun _=>hz2) ?_⟩;clear hK K hz0;(iterate 5 (refine ay hG hz2 fun _ k=>?_;go_simp;apply k;clear k));clear hG hz2;refine JaA (by kernel_rfl) ?_;intro w4 hb4;have hb44:=(hb2B.trans (hb3.mono hb2B.size));have HB4:Hid (Below w.heap.size w w4):=hb44.trans (hb4.mono hb44.size);have HN4:Hid (∀lo',opX lo' w4 (.slice p3 O.length c3) O):=fun lo'=>Jan (JaG hn3) hb4;have HN4':=hdz ((Jan (lo:=0) (JaG hn3) hb4).1);have hk4:=(HB4.out.block y hlt).trans H3.out;have HK4:=hdz hk4;have t2:=(Jap hk4).2.2.1;clear hb30 hb31 hb3 hb4 hb44 hb2A hb2B hn3 hk4
      go_wp2_with (go_at_call 32;refine(CA.out _ _ _ HN4'.out).mono ?_;rintro e w5 ⟨rfl,hb5⟩;have HB5:=hdz (HB4.out.trans (hb5.mono HB4.out.size));clear hb5)
      go_ret;rw[HED.out,HS.out];exact⟨rfl,JdP HC.out HB5.out⟩
    . have he0:edE u S q=0:=by unfold edE;rw[if_neg HAN.out,if_neg (by simpa using ht),HOO.out,if_neg hfu]
      have HED:=hdz he0;have HS:Hid (edS u S q = { S with doc:=Jaa O S.doc,mine:=addM O S.mine,id:=if S.mine=[] then S.id+1 else S.id }):=by show _=_;rw[←HOO.out];exact if_pos he0
      have hfi:¬(2000:Int)<((Jaa O S.doc).length:Int):=by omega
      have CC:Hid (∀m1 m2 p3 c3 p2 n2 c2 wx,S.mine=[m1,m2]->opAt wx (.slice p2 n2 c2) m2->opAt wx (.slice p3 O.length c3) O->Calls Tryz.prog 122 #[.slice p2 n2 c2,.slice p3 O.length c3] wx fun e w'=>∃v',e=.returned (.tuple #[v',.int .i64 0])/\opN wx.heap.size w' v' (Jaq (JdU m2 O))/\Below wx.heap.size wx w'):=fun m1 m2 p3 c3 p2 n2 c2 wx e ho2 ho3=>by
       have hal:=HK.out.all;have hpt:=HK.out.puts;have hdc:=HK.out.doc;rw[e]at hal hpt hdc;have l1:=Jgz hal.1;have p1:=hpt m1 (by simp);have p2:=hpt m2 (by simp);have e2:allM [m1,m2] S.seen=Jaa m2 (Jaa m1 S.seen):=rfl;rw[e2]at hdc;rw[hdc]at g1 hdl;have:=HSZ.out;exact Jlg _ _ m2 O (Jaa m1 S.seen) wx ho2 ho3 hal.2.1 g1 (by omega) (by omega)
      have HTW:=hdz HK.out.two;clear HPU HAN HNE g1 hpu hdl HDL HOO ht hfu he0;generalize hTX:Jaa O S.doc=TX at *;clear hTX
      go_wp2_with (go_at_call 9999)
      refine wz (fun wx:World=>wx.heap[y]?=some (.cells (JbI who u S (.slice p1 n1 c1) (.slice p2 n2 c2)) 98 (0,0))) 15 ((HBW.out.block y hlt).trans H3.out) wzb fun w30 hb30 hz0 G hG=>?_;have hb2A:=HBW.out.trans (hb30.mono HBW.out.size);have y1:∀x,(G x).cell? ⟨y,1,none⟩=some (.int .i64 u):=fun x=>(Jap (hG.but x)).2.1;have y2:∀x,(G x).cell? ⟨y,2,none⟩=some (.string ⟨S.doc.toArray⟩):=fun x=>(Jap (hG.but x)).2.2.1;(iterate 9 (refine ay hG hz0 fun _ k=>?_;go_simp;apply k;clear k));clear y1 y2;refine JaI (i:=9) (by kernel_rfl) ⟨_,rfl,?_⟩;intro w31 hb31 K hK
      go_simp
      have hb2B:=hb2A.trans (hb31.mono hb2A.size);refine(CT.out w31 hb2B).mono ?_;rintro e w3 ⟨v',rfl,hn3,hb3⟩;obtain⟨p3,c3,rfl⟩:=Jbu hn3;have hz2:w3.heap[y]?=some (.cells (JbI who u S (.slice p1 n1 c1) (.slice p2 n2 c2)) 98 (0,0)):=((hb2B.trans (hb3.mono hb2B.size)).block y hlt).trans H3.out;refine⟨_,rfl,hK _ _ (fun _=>hz2) ?_⟩;clear hK K hz0;(iterate 5 (refine ay hG hz2 fun _ k=>?_;go_simp;apply k;clear k));clear hG hz2;refine JaA (by kernel_rfl) ?_;intro w4 hb4;have hb44:=(hb2B.trans (hb3.mono hb2B.size));have HB4:Hid (Below w.heap.size w w4):=hb44.trans (hb4.mono hb44.size);have HN4:Hid (∀lo',opX lo' w4 (.slice p3 O.length c3) O):=fun lo'=>Jan (JaG hn3) hb4;have HN4':=hdz ((Jan (lo:=0) (JaG hn3) hb4).1);have hk4:=(HB4.out.block y hlt).trans H3.out;have HK4:=hdz hk4;have t2:=(Jap hk4).2.2.1;clear hb30 hb31 hb3 hb4 hb44 hb2A hb2B hn3 hk4;have hid0:=HID.out.1;have hid9:=HID.out.2;have hid1:wrap64 (S.id+1)=S.id+1:=Jax (by omega) (by omega)
      rcases hm:S.mine with _|⟨m1,_|⟨m2,_|⟨m3,ms⟩⟩⟩
      . have HM8:Hid (decide (1<=S.mine.length)=false):=by show _=_;rw[hm];rfl
        have HM9:Hid (decide (2<=S.mine.length)=false):=by show _=_;rw[hm];rfl
        have HS1:Hid (edS u S q = { S with doc:=TX,mine:=[O],id:=S.id+1 }):=by show _=_;rw[HS.out];simp[hm,addM]
        have HA1:Hid (Jau S 1=[]):=by show _=_;unfold Jau;rw[hm];rfl
        clear CC HS hm
        go_wp2_with (first
         | (go_at_call 32;refine(CA.out _ _ _ HN4'.out).mono ?_;rintro e w5 ⟨rfl,hb5⟩;have HB5:=hdz hb5;have hk5:=(hb5.block y (alt HK4.out)).trans HK4.out;have HK5:=hdz hk5;have HK55:Hid (w5.heap[y]?=some (.cells #[.int .i64 who,.int .i64 u,.string ⟨S.doc.toArray⟩,.string ⟨S.seen.toArray⟩,.int .i64 S.rev,.int .i64 S.id,.slice p1 n1 c1,.slice p2 n2 c2,.bool false,.bool false,.int .i64 S.drops] 98 (0,0))):=by have h:=hk5;unfold JbI at h;rw[HM8.out,HM9.out]at h;exact h
            have t5:w5.cell? ⟨y,5,none⟩=some (.int .i64 S.id):=(Jap hk5).2.2.2.2.2.1;have t22:w5.cell? ⟨y,2,none⟩=some (.string ⟨S.doc.toArray⟩):=(Jap hk5).2.2.1;have t6:w5.cell? ⟨y,6,none⟩=some (.slice p1 n1 c1):=(Jap hk5).2.2.2.2.2.2.1;have t7:w5.cell? ⟨y,7,none⟩=some (.slice p2 n2 c2):=(Jap hk5).2.2.2.2.2.2.2.1;have t8:w5.cell? ⟨y,8,none⟩=some (.bool false):=by have:=(Jap hk5).2.2.2.2.2.2.2.2.1;rwa[HM8.out]at this
            have t9:w5.cell? ⟨y,9,none⟩=some (.bool false):=by have:=(Jap hk5).2.2.2.2.2.2.2.2.2.1;rwa[HM9.out]at this
            have ff:∀o,w5.frozen? ⟨y,o,none⟩=false:=fun o=>Jcn hk5;have f2:=ff 2;have f5:=ff 5;have f6:=ff 6;have f7:=ff 7;have f8:=ff 8;have f9:=ff 9
            clear hb5 hk5 ff))
        go_ret;rw[HED.out,HS1.out];refine⟨rfl,?_⟩;have b1:=heap_setCell_same w5 y 2 _ _ (.string ⟨TX.toArray⟩) HK55.out;have b2:=heap_setCell_same _ y 6 _ _ (.slice p3 O.length c3) b1;have b3:=heap_setCell_same _ y 8 _ _ (.bool true) b2;have b4:=heap_setCell_same _ y 5 _ _ (.int .i64 (S.id+1)) b3;have hs:sameBut w5 ((((w5.setCell ⟨y,2,none⟩ (.string ⟨TX.toArray⟩)).setCell ⟨y,6,none⟩ (.slice p3 O.length c3)).setCell ⟨y,8,none⟩ (.bool true)).setCell ⟨y,5,none⟩ (.int .i64 (S.id+1))) (fun k=>k=y):=(((Jaj (S:=fun k=>k=y) rfl).trans (Jaj (S:=fun k=>k=y) rfl)).trans (Jaj (S:=fun k=>k=y) rfl)).trans (Jaj (S:=fun k=>k=y) rfl);have hb45:=HB4.out.trans (HB5.out.mono HB4.out.size);have o2:=Jan H5.out hb45;rw[HA1.out]at o2;exact Jlk HLO.out hb45 HK5.out hs b4 (Jdr (lo':=0) HLO.out HK5.out hs (Jan (HN4.out lo) HB5.out)) (Jdr (lo':=0) HLO.out HK5.out hs o2)
      . have HM8:Hid (decide (1<=S.mine.length)=true):=by show _=_;rw[hm];rfl
        have HM9:Hid (decide (2<=S.mine.length)=false):=by show _=_;rw[hm];rfl
        have HS1:Hid (edS u S q = { S with doc:=TX,mine:=[m1,O] }):=by show _=_;rw[HS.out];simp[hm,addM]
        have HA1:Hid (Jau S 0=m1):=by show _=_;unfold Jau;rw[hm];rfl
        clear CC HS hm
        go_wp2_with (first
         | (go_at_call 32;refine(CA.out _ _ _ HN4'.out).mono ?_;rintro e w5 ⟨rfl,hb5⟩;have HB5:=hdz hb5;have hk5:=(hb5.block y (alt HK4.out)).trans HK4.out;have HK5:=hdz hk5;have HK55:Hid (w5.heap[y]?=some (.cells #[.int .i64 who,.int .i64 u,.string ⟨S.doc.toArray⟩,.string ⟨S.seen.toArray⟩,.int .i64 S.rev,.int .i64 S.id,.slice p1 n1 c1,.slice p2 n2 c2,.bool true,.bool false,.int .i64 S.drops] 98 (0,0))):=by have h:=hk5;unfold JbI at h;rw[HM8.out,HM9.out]at h;exact h
            have t5:w5.cell? ⟨y,5,none⟩=some (.int .i64 S.id):=(Jap hk5).2.2.2.2.2.1;have t22:w5.cell? ⟨y,2,none⟩=some (.string ⟨S.doc.toArray⟩):=(Jap hk5).2.2.1;have t6:w5.cell? ⟨y,6,none⟩=some (.slice p1 n1 c1):=(Jap hk5).2.2.2.2.2.2.1;have t7:w5.cell? ⟨y,7,none⟩=some (.slice p2 n2 c2):=(Jap hk5).2.2.2.2.2.2.2.1;have t8:w5.cell? ⟨y,8,none⟩=some (.bool true):=by have:=(Jap hk5).2.2.2.2.2.2.2.2.1;rwa[HM8.out]at this
            have t9:w5.cell? ⟨y,9,none⟩=some (.bool false):=by have:=(Jap hk5).2.2.2.2.2.2.2.2.2.1;rwa[HM9.out]at this
            have ff:∀o,w5.frozen? ⟨y,o,none⟩=false:=fun o=>Jcn hk5;have f2:=ff 2;have f5:=ff 5;have f6:=ff 6;have f7:=ff 7;have f8:=ff 8;have f9:=ff 9
            clear hb5 hk5 ff))
        go_ret;rw[HED.out,HS1.out];refine⟨rfl,?_⟩;have b1:=heap_setCell_same w5 y 2 _ _ (.string ⟨TX.toArray⟩) HK55.out;have b2:=heap_setCell_same _ y 7 _ _ (.slice p3 O.length c3) b1;have b3:=heap_setCell_same _ y 9 _ _ (.bool true) b2;have hs:sameBut w5 (((w5.setCell ⟨y,2,none⟩ (.string ⟨TX.toArray⟩)).setCell ⟨y,7,none⟩ (.slice p3 O.length c3)).setCell ⟨y,9,none⟩ (.bool true)) (fun k=>k=y):=((Jaj (S:=fun k=>k=y) rfl).trans (Jaj (S:=fun k=>k=y) rfl)).trans (Jaj (S:=fun k=>k=y) rfl);have hb45:=HB4.out.trans (HB5.out.mono HB4.out.size);have o1:=Jan H4.out hb45;rw[HA1.out]at o1;exact Jlk HLO.out hb45 HK5.out hs b3 (Jdr (lo':=0) HLO.out HK5.out hs o1) (Jdr (lo':=0) HLO.out HK5.out hs (Jan (HN4.out lo) HB5.out))
      . have HM8:Hid (decide (1<=S.mine.length)=true):=by show _=_;rw[hm];rfl
        have HM9:Hid (decide (2<=S.mine.length)=true):=by show _=_;rw[hm];rfl
        have HS1:Hid (edS u S q = { S with doc:=TX,mine:=[m1,Jaq (JdU m2 O)] }):=by show _=_;rw[HS.out];simp[hm,addM]
        have HA1:Hid (Jau S 0=m1):=by show _=_;unfold Jau;rw[hm];rfl
        have HA2:Hid (Jau S 1=m2):=by show _=_;unfold Jau;rw[hm];rfl
        have HMM:=hdz hm;clear HS hm
        go_wp2_with (first
         | (go_at_call 32;refine(CA.out _ _ _ HN4'.out).mono ?_;rintro e w5 ⟨rfl,hb5⟩;have HB5:=hdz hb5;have hk5:=(hb5.block y (alt HK4.out)).trans HK4.out;have HK5:=hdz hk5;have HK55:Hid (w5.heap[y]?=some (.cells #[.int .i64 who,.int .i64 u,.string ⟨S.doc.toArray⟩,.string ⟨S.seen.toArray⟩,.int .i64 S.rev,.int .i64 S.id,.slice p1 n1 c1,.slice p2 n2 c2,.bool true,.bool true,.int .i64 S.drops] 98 (0,0))):=by have h:=hk5;unfold JbI at h;rw[HM8.out,HM9.out]at h;exact h
            have t5:w5.cell? ⟨y,5,none⟩=some (.int .i64 S.id):=(Jap hk5).2.2.2.2.2.1;have t22:w5.cell? ⟨y,2,none⟩=some (.string ⟨S.doc.toArray⟩):=(Jap hk5).2.2.1;have t6:w5.cell? ⟨y,6,none⟩=some (.slice p1 n1 c1):=(Jap hk5).2.2.2.2.2.2.1;have t7:w5.cell? ⟨y,7,none⟩=some (.slice p2 n2 c2):=(Jap hk5).2.2.2.2.2.2.2.1;have t8:w5.cell? ⟨y,8,none⟩=some (.bool true):=by have:=(Jap hk5).2.2.2.2.2.2.2.2.1;rwa[HM8.out]at this
            have t9:w5.cell? ⟨y,9,none⟩=some (.bool true):=by have:=(Jap hk5).2.2.2.2.2.2.2.2.2.1;rwa[HM9.out]at this
            have ff:∀o,w5.frozen? ⟨y,o,none⟩=false:=fun o=>Jcn hk5;have f2:=ff 2;have f5:=ff 5;have f6:=ff 6;have f7:=ff 7;have f8:=ff 8;have f9:=ff 9
            clear hb5 hk5 ff)
         | (go_at_call 122;have hs6:sameBut w5 (w5.setCell ⟨y,2,none⟩ (.string ⟨TX.toArray⟩)) (fun k=>k=y):=Jaj (S:=fun k=>k=y) rfl;have b1:=heap_setCell_same w5 y 2 _ _ (.string ⟨TX.toArray⟩) HK55.out;have hb45:=HB4.out.trans (HB5.out.mono HB4.out.size);have o2:=Jan H5.out hb45;rw[HA2.out]at o2;refine(CC.out m1 m2 _ _ _ _ _ _ HMM.out (Jdr (lo':=0) HLO.out HK5.out hs6 o2).1 (Jdr (lo':=0) HLO.out HK5.out hs6 (Jan (HN4.out lo) HB5.out)).1).mono ?_;rintro e w7 ⟨v7,rfl,hn7,hb7⟩;obtain⟨p7,c7,rfl⟩:=Jbu hn7;have hk7:=(hb7.block y (alt b1)).trans b1;have HK7:=hdz hk7;have HN7:Hid (∀lo',opX lo' w7 (.slice p7 (Jaq (JdU m2 O)).length c7) (Jaq (JdU m2 O))):=fun lo'=>JaG hn7;have HB7:=hdz hb7;have HS6:=hdz hs6;have f77:=fz hk7 7;have t77:=ce hk7 7 rfl;clear hs6 b1 hb45 o2 hn7 hb7 hk7))
        go_ret;rw[HED.out,HS1.out];refine⟨rfl,?_⟩;have hb45:=HB4.out.trans (HB5.out.mono HB4.out.size);have o1:=Jan H4.out hb45;rw[HA1.out]at o1;have hs67:=HS6.out.trans (Jai HB7.out fun k=>k=y);have b7:=heap_setCell_same w7 y 7 _ _ (.slice p7 (Jaq (JdU m2 O)).length c7) HK7.out;have hs78:sameBut w7 (w7.setCell ⟨y,7,none⟩ (.slice p7 (Jaq (JdU m2 O)).length c7)) (fun k=>k=y):=Jaj (S:=fun k=>k=y) rfl;have o7:opX lo (w7.setCell ⟨y,7,none⟩ (.slice p7 (Jaq (JdU m2 O)).length c7)) (.slice p7 (Jaq (JdU m2 O)).length c7) (Jaq (JdU m2 O)):=Jbb (HN7.out lo) hs78 fun k _ hk=>by obtain rfl:=hk;exact⟨HLO.out,JaP HK7.out (by decide)⟩
        exact Jlk HLO.out hb45 HK5.out (hs67.trans hs78) b7 (Jdr (lo':=0) HLO.out HK5.out (hs67.trans hs78) o1) o7
      . have:=HTW.out;rw[hm]at this;simp at this
theorem JoE(h:isRc lo w y who u S)(hk:okK 2000 S)(hu:Jaz u)(v:Value)(q:List Pt)(hx:opAt w v q)(hwf:∀p∈q,wfP p)(hpl:∀p∈q,p.put.length<=300)(hsz:S.seen.length<=100000)(hid:0<=S.id/\S.id<=1000000) :
    Calls Tryz.prog 48 #[.pointer (some ⟨y,0,none⟩),v] w fun e w'=>e=.returned (.int .i64 (edE u S q))/\isRc lo w' y who u (edS u S q)/\sameBut w w' fun k=>k=y:=by
 by_cases h6:60<q.length
 . have e1:edE u S q=4:=if_pos (.inl h6)
   have e2:edS u S q=S:=if_neg (by rw[e1];decide);rw[e1,e2];exact(Jm5 h v q hx h6).mono fun e w' ⟨h1,h2⟩=>⟨h1,JdP h h2⟩
 . exact Jlm h hk hu v q hx hwf hpl h6 hsz hid
end
section
open Go.RowKit Go.Maps
attribute [local go_sem] Oper.semAt_some Ja7 Jbe
variable {lo y β : Nat}{who u c i : Int}{S : Cl}{v1 v2 v : Value}{x : List Pt}{w : World}
structure ZR (lo y β:Nat) (who u c i:Int) (S:Cl) (v1 v2 v:Value) (x:List Pt) (wx:World):Prop where
 low:lo<=y
 blk:wx.heap[y]?=some (.cells (JbI who u S v1 v2) 98 (0,0))
 o1:opX lo wx v1 (Jau S 0)
 o2:opX lo wx v2 (Jau S 1)
 box:wx.heap[β]?=some (.cells #[.int .i64 c,.int .i64 i,v] 103 (0,0))
 op:opX lo wx v x
theorem ZR.grow{w':World}(h:ZR lo y β who u c i S v1 v2 v x w)(hb:Below w.heap.size w w'):ZR lo y β who u c i S v1 v2 v x w' :=
 ⟨h.low,(hb.block y (alt h.blk)).trans h.blk,Jan h.o1 hb,Jan h.o2 hb,(hb.block β (alt h.box)).trans h.box,Jan h.op hb⟩
theorem ZR.rc(h:ZR lo y β who u c i S v1 v2 v x w):isRc lo w y who u S:=⟨h.low,v1,v2,h.blk,h.o1,h.o2⟩
theorem Jeb(hlo:lo<=y)(h3:w.heap[y]?=some (.cells (JbI who u S v1 v2) 98 (0,0)))(h4:opX lo w v1 (Jau S 0))(h5:opX lo w v2 (Jau S 1))(hx:opX lo w v x) :
    ZR lo y w.heap.size who u c i S v1 v2 v x (w.alloc (.cells #[.int .i64 c,.int .i64 i,v] 103)):=by
 have hb:Below w.heap.size w (w.alloc (.cells #[.int .i64 c,.int .i64 i,v] 103)):=(brf _ _).alloc (nlr _) _;exact⟨hlo,(hb.block y (alt h3)).trans h3,Jan h4 hb,Jan h5 hb,heap_alloc_new _ _,Jan hx hb⟩
theorem JoB(h:isRc lo w y who u S)(rev c i:Int)(v:Value)(x:List Pt)(hx:opX lo w v x)(hr:rev≠S.rev) :
    Calls Tryz.prog 50 #[.pointer (some ⟨y,0,none⟩),.int .i64 rev,.agg #[.int .i64 c,.int .i64 i,v]] w fun e w'=>e=.returned (.int .i64 0)/\Below w.heap.size w w':=by
 have hlt:=JeK h;obtain⟨hlo,v1,v2,h3,h4,h5⟩:=h;obtain⟨p1,c1,rfl⟩:=Ja0 h4;obtain⟨p2,c2,rfl⟩:=Ja0 h5;obtain⟨pv,cv,rfl⟩:=Ja0 hx;have H0:Hid _:=Jeb (c:=c) (i:=i) hlo h3 h4 h5 hx;have hr1:(rev==S.rev)=false:=beq_eq_false_iff_ne.2 hr;generalize x.length=xn at *;clear h3 h4 h5 hx hlo
 . skip
   go_enter Tryz.func50,Tryz.ntmps50
   have x4:(w.alloc (.cells #[.int .i64 c,.int .i64 i,.slice pv xn cv] 103)).cell? ⟨y,4,none⟩=some (.int .i64 S.rev):=(Jap H0.out.blk).2.2.2.2.1
   go_wp2_with (go_at_call 9999)
   go_ret;exact⟨rfl,(brf _ _).alloc (nlr _) _⟩
theorem JoC(h:isRc lo w y who u S)(c i:Int)(v:Value)(x:List Pt)(hx:opX lo w v x)(hwf:∀p∈x,wfP p)(hpu:Jal x<=400000)(hl:x.length<=1000000)(hsz:S.seen.length<=100000)(ho:ordE x S.seen≠0) :
    Calls Tryz.prog 50 #[.pointer (some ⟨y,0,none⟩),.int .i64 S.rev,.agg #[.int .i64 c,.int .i64 i,v]] w fun e w'=>e=.returned (.int .i64 15)/\Below w.heap.size w w':=by
 have hlt:=JeK h;obtain⟨hlo,v1,v2,h3,h4,h5⟩:=h;obtain⟨p1,c1,rfl⟩:=Ja0 h4;obtain⟨p2,c2,rfl⟩:=Ja0 h5;obtain⟨pv,cv,rfl⟩:=Ja0 hx;have H0:Hid _:=Jeb (c:=c) (i:=i) hlo h3 h4 h5 hx;have CA:Hid (∀wx,ZR lo y w.heap.size who u c i S (.slice p1 (Jau S 0).length c1) (.slice p2 (Jau S 1).length c2) (.slice pv x.length cv) x wx->Calls Tryz.prog 32 #[.slice pv x.length cv,.string ⟨S.seen.toArray⟩] wx fun e w'=>e=.returned (.tuple #[.string ⟨(if ordE x S.seen=0 then Jaa x S.seen else []).toArray⟩,.int .i64 (ordE x S.seen)])/\Below wx.heap.size wx w'):=fun wx hz=>Jbd _ x S.seen wx hz.op.1 hwf (fun q hq=>by have:=JaH q _ hq;omega) (by omega) (by omega) (by omega);rw[if_neg ho]at CA;have ho1:(ordE x S.seen==0)=false:=beq_eq_false_iff_ne.2 ho;generalize ordE x S.seen=E at *;generalize hxn:x.length=xn at *;generalize hn1:(Jau S 0).length=n1 at *;generalize hn2:(Jau S 1).length=n2 at *;clear h3 h4 h5 hx hlo hwf hpu hl hsz hxn hn1 hn2;have HZ0B:Hid (Below w.heap.size w (w.alloc (.cells #[.int .i64 c,.int .i64 i,.slice pv xn cv] 103))):=(brf _ _).alloc (nlr _) _
 . skip
   go_enter Tryz.func50,Tryz.ntmps50
   have x4:(w.alloc (.cells #[.int .i64 c,.int .i64 i,.slice pv xn cv] 103)).cell? ⟨y,4,none⟩=some (.int .i64 S.rev):=(Jap H0.out.blk).2.2.2.2.1
   go_wp2_with (go_at_call 9999)
   refine wz (fun wx:World=>ZR lo y w.heap.size who u c i S (.slice p1 n1 c1) (.slice p2 n2 c2) (.slice pv xn cv) x wx) 12 H0.out ZR.grow fun w3 hb3 hz3 G hG=>?_;have e2:=fun y'=>ce (hG.but y').box 2 rfl;have y3:∀y',(G y').cell? ⟨y,3,none⟩=some (.string ⟨S.seen.toArray⟩):=fun y'=>(Jap (hG.but y').blk).2.2.2.1;(iterate 6 (refine ay hG hz3 fun _ k=>?_;go_simp;apply k;clear k))
   (refine ay hG hz3 fun K hK=>?_;go_simp;apply Exists.intro;refine⟨fun _=>?_,hK _ ?_⟩;exact CA.out _ (hG.but _);clear hK K)
   (iterate 5 (refine ay hG hz3 fun _ k=>?_;go_simp;apply k;clear k));clear e2 y3 hG;refine JaA (by kernel_rfl) ?_;intro v3 hv3;have HB3:Hid (Below w.heap.size w v3):=HZ0B.out.trans ((hb3.trans (hv3.mono hb3.size)).mono HZ0B.out.size);clear hb3 hv3 hz3;go_wp2;go_ret;exact⟨rfl,HB3.out⟩
theorem Jql(h:isRc lo w y who u S)(hk:okK 2000 S)(c i:Int)(v:Value)(x:List Pt)(hx:opX lo w v x)(hsz:S.seen.length+Jal x<=500000)(hrv:0<=S.rev/\S.rev<=1000000)(ho:ordE x S.seen=0)(hm:S.mine=[]) :
    Calls Tryz.prog 50 #[.pointer (some ⟨y,0,none⟩),.int .i64 S.rev,.agg #[.int .i64 c,.int .i64 i,v]] w fun e w'=>e=.returned (.int .i64 0)/\isRc lo w' y who u { S with seen:=Jaa x S.seen,rev:=S.rev+1,mine:=(Jbl S.mine x).1,doc:=Jaa (Jbl S.mine x).2 S.doc }/\sameBut w w' fun k=>k=y:=by
 have hlt:=JeK h;obtain⟨hlo,v1,v2,h3,h4,h5⟩:=h;obtain⟨p1,c1,rfl⟩:=Ja0 h4;obtain⟨p2,c2,rfl⟩:=Ja0 h5;obtain⟨pv,cv,rfl⟩:=Ja0 hx;have hgx:=Jbs hk.text ho;have hdc:S.doc=S.seen:=by have:=hk.doc;rw[hm]at this;exact this
 have H0:Hid _:=Jeb (c:=c) (i:=i) hlo h3 h4 h5 hx;have CA:Hid (∀wx,opAt wx (.slice pv x.length cv) x->Calls Tryz.prog 32 #[.slice pv x.length cv,.string ⟨S.seen.toArray⟩] wx fun e w'=>e=.returned (.tuple #[.string ⟨(Jaa x S.seen).toArray⟩,.int .i64 0])/\Below wx.heap.size wx w'):=fun wx hz=>by
  have hf:=hgx.fine (show S.seen.length+Jal x<1000000 by omega);have:=Jbd _ x S.seen wx hz (hgx.wf (show S.seen.length+Jal x<1000000 by omega)) (fun q hq=>by have:=JaH q _ hq;omega) (by omega) hf.len (by omega);rw[hgx.ord,if_pos rfl]at this;exact this
 have HM8:Hid (decide (1<=S.mine.length)=false):=by show _=_;rw[hm];rfl
 have HM9:Hid (decide (2<=S.mine.length)=false):=by show _=_;rw[hm];rfl
 have HMM:=hdz hm;have HDC:=hdz hdc;have hrv1:wrap64 (S.rev+1)=S.rev+1:=Jax (by omega) (by omega);obtain⟨hr0,hr1⟩:=hrv;have hne:y≠w.heap.size:=by omega
 have hne':w.heap.size≠y:=by omega
 have HCC:(c==who)=true\/(c==who)=false:=by cases (c==who)<;>simp
 generalize hTX:Jaa x S.seen=tx at *;have HTX:=hdz hTX;clear hTX;generalize hxn:x.length=xn at *;generalize hn1:(Jau S 0).length=n1 at *;generalize hn2:(Jau S 1).length=n2 at *;have HLO:=hdz hlo;clear h3 h4 h5 hx hlo hsz hxn hn1 hn2 hgx hdc hm hk ho;have HZ0B:Hid (Below w.heap.size w (w.alloc (.cells #[.int .i64 c,.int .i64 i,.slice pv xn cv] 103))):=(brf _ _).alloc (nlr _) _
 rcases HCC with hc1|hc1
 all_goals as_aux_lemma =>
  skip
  go_enter Tryz.func50,Tryz.ntmps50
  have x4:(w.alloc (.cells #[.int .i64 c,.int .i64 i,.slice pv xn cv] 103)).cell? ⟨y,4,none⟩=some (.int .i64 S.rev):=(Jap H0.out.blk).2.2.2.2.1
  go_wp2_with (go_at_call 9999)
  refine wz (fun wx:World=>ZR lo y w.heap.size who u c i S (.slice p1 n1 c1) (.slice p2 n2 c2) (.slice pv xn cv) x wx) 12 H0.out ZR.grow fun w3 hb3 hz3 G hG=>?_;have e2:=fun y'=>ce (hG.but y').box 2 rfl;have y3:∀y',(G y').cell? ⟨y,3,none⟩=some (.string ⟨S.seen.toArray⟩):=fun y'=>(Jap (hG.but y').blk).2.2.2.1;(iterate 6 (refine ay hG hz3 fun _ k=>?_;go_simp;apply k;clear k))
  (refine ay hG hz3 fun K hK=>?_;go_simp;apply Exists.intro;refine⟨fun _=>?_,hK _ ?_⟩;exact CA.out _ (hG.but _).op.1;clear hK K)
  (iterate 5 (refine ay hG hz3 fun _ k=>?_;go_simp;apply k;clear k));clear e2 y3 hG;refine JaA (by kernel_rfl) ?_;intro v3 hv3;have HZ3:=hdz (ZR.grow hz3 hv3);have HB3:Hid (Below w.heap.size w v3):=HZ0B.out.trans ((hb3.trans (hv3.mono hb3.size)).mono HZ0B.out.size);have HZ3B:=hdz HB3;clear hb3 hv3 hz3;go_wp2;refine wz (fun wx:World=>ZR lo y w.heap.size who u c i S (.slice p1 n1 c1) (.slice p2 n2 c2) (.slice pv xn cv) x wx) 23 HZ3.out ZR.grow fun w6 hb6 hz6 G hG=>?_;have e0:=fun y'=>ce (hG.but y').box 0 rfl;have e1:=fun y'=>ce (hG.but y').box 1 rfl;have y0:∀y',(G y').cell? ⟨y,0,none⟩=some (.int .i64 who):=fun y'=>(Jap (hG.but y').blk).1;have y5:∀y',(G y').cell? ⟨y,5,none⟩=some (.int .i64 S.id):=fun y'=>(Jap (hG.but y').blk).2.2.2.2.2.1;have y8:∀y',(G y').cell? ⟨y,8,none⟩=some (.bool false):=fun y'=>by have:=(Jap (hG.but y').blk).2.2.2.2.2.2.2.2.1;rwa[HM8.out]at this
  (iterate 23 (refine ay hG hz6 fun _ k=>?_;go_simp;apply k;clear k));clear e0 e1 y0 y5 y8 hG;refine JaA (by kernel_rfl) ?_;intro v6 hv6;have HZ6:=hdz (ZR.grow hz6 hv6);have HB6:Hid (Below w.heap.size w v6):=HZ3B.out.trans ((hb6.trans (hv6.mono hb6.size)).mono HZ3B.out.size);clear hb6 hv6 hz6;have k6:=HZ6.out.blk;have K6:=hdz k6;have K66:Hid (v6.heap[y]?=some (.cells #[.int .i64 who,.int .i64 u,.string ⟨S.doc.toArray⟩,.string ⟨S.seen.toArray⟩,.int .i64 S.rev,.int .i64 S.id,.slice p1 n1 c1,.slice p2 n2 c2,.bool false,.bool false,.int .i64 S.drops] 98 (0,0))):=by have h:=k6;unfold JbI at h;rw[HM8.out,HM9.out]at h;exact h
  have t2:v6.cell? ⟨y,2,none⟩=some (.string ⟨S.seen.toArray⟩):=by have:=(Jap k6).2.2.1;rwa[HDC.out]at this
  have t3:v6.cell? ⟨y,3,none⟩=some (.string ⟨S.seen.toArray⟩):=(Jap k6).2.2.2.1;have t4:v6.cell? ⟨y,4,none⟩=some (.int .i64 S.rev):=(Jap k6).2.2.2.2.1;have t8:=ce K66.out 8 rfl;have t9:=ce K66.out 9 rfl;have ff:∀o,v6.frozen? ⟨y,o,none⟩=false:=fun o=>Jcn k6;have f2:=ff 2;have f3:=ff 3;have f4:=ff 4;have e2:=ce HZ6.out.box 2 rfl;have HS1:Hid (sameBut v6 ((v6.setCell ⟨y,3,none⟩ (.string ⟨tx.toArray⟩)).setCell ⟨y,4,none⟩ (.int .i64 (S.rev+1))) fun k=>k=y):=(Jaj (S:=fun k=>k=y) rfl).trans (Jaj (S:=fun k=>k=y) rfl);have HB1:Hid (((v6.setCell ⟨y,3,none⟩ (.string ⟨tx.toArray⟩)).setCell ⟨y,4,none⟩ (.int .i64 (S.rev+1))).heap[y]?=_):=heap_setCell_same _ y 4 _ _ (.int .i64 (S.rev+1)) (heap_setCell_same v6 y 3 _ _ (.string ⟨tx.toArray⟩) K66.out);clear k6 ff
  go_wp2_with (go_at_call 32;refine(CA.out _ (Jdr (lo':=0) HLO.out K6.out HS1.out HZ6.out.op).1).mono ?_;rintro e w7 ⟨rfl,hb7⟩;have hk7:=(hb7.block y (alt HB1.out)).trans HB1.out;have HK7:=hdz hk7;have HB7:=hdz hb7;have s2:=ce hk7 2 rfl;have s7:=fz hk7 2;clear hb7 hk7)
  go_ret;refine⟨rfl,?_⟩;have hS:({ S with seen:=tx,rev:=S.rev+1,mine:=(Jbl S.mine x).1,doc:=Jaa (Jbl S.mine x).2 S.doc }:Cl) = { S with seen:=tx,rev:=S.rev+1,mine:=[],doc:=tx }:=by rw[HMM.out,HDC.out];exact congrArg (fun t=>({ S with seen:=tx,rev:=S.rev+1,mine:=[],doc:=t }:Cl)) HTX.out
  rw[hS];have b7:=heap_setCell_same w7 y 2 _ _ (.string ⟨tx.toArray⟩) HK7.out;have hs7:=HS1.out.trans ((Jai HB7.out fun k=>k=y).trans (Jaj (S:=fun k=>k=y) (b:=y) (o:=2) (v:=.string ⟨tx.toArray⟩) rfl));have hA1:Jau S 0=[]:=by unfold Jau;rw[HMM.out];rfl
  have hA2:Jau S 1=[]:=by unfold Jau;rw[HMM.out];rfl
  have o1:=HZ6.out.o1;have o2:=HZ6.out.o2;rw[hA1]at o1;rw[hA2]at o2;exact Jlk HLO.out HB6.out K6.out hs7 b7 (Jdr (lo':=0) HLO.out K6.out hs7 o1) (Jdr (lo':=0) HLO.out K6.out hs7 o2)
theorem Jqk(h:isRc lo w y who u S)(hk:okK 2000 S)(c i:Int)(v:Value)(x:List Pt)(hx:opX lo w v x)(hsz:S.seen.length+Jal x<=500000)(hrv:0<=S.rev/\S.rev<=1000000)(ho:ordE x S.seen=0){m1:List Pt}(hm:S.mine=[m1])(hc:c≠who\/i≠S.id) :
    Calls Tryz.prog 50 #[.pointer (some ⟨y,0,none⟩),.int .i64 S.rev,.agg #[.int .i64 c,.int .i64 i,v]] w fun e w'=>e=.returned (.int .i64 0)/\isRc lo w' y who u { S with seen:=Jaa x S.seen,rev:=S.rev+1,mine:=(Jbl S.mine x).1,doc:=Jaa (Jbl S.mine x).2 S.doc }/\sameBut w w' fun k=>k=y:=by
 have hlt:=JeK h;obtain⟨hlo,v1,v2,h3,h4,h5⟩:=h;obtain⟨p1,c1,rfl⟩:=Ja0 h4;obtain⟨p2,c2,rfl⟩:=Ja0 h5;obtain⟨pv,cv,rfl⟩:=Ja0 hx;have hgx:=Jbs hk.text ho;obtain⟨_,t2,_⟩:=Jd4 S.mine x S.seen hgx hk.all;have tp:=(Jd3 2000 S.mine x S.seen hgx hk.all hk.puts (by have:=Nat.mul_le_mul_right 2000 hk.two;omega) (by omega)).2;rw[←hk.doc]at t2;have hdl:=hk.len;have H0:Hid _:=Jeb (c:=c) (i:=i) hlo h3 h4 h5 hx;have CA:Hid (∀wx,opAt wx (.slice pv x.length cv) x->Calls Tryz.prog 32 #[.slice pv x.length cv,.string ⟨S.seen.toArray⟩] wx fun e w'=>e=.returned (.tuple #[.string ⟨(Jaa x S.seen).toArray⟩,.int .i64 0])/\Below wx.heap.size wx w'):=fun wx hz=>by
  have hf:=hgx.fine (show S.seen.length+Jal x<1000000 by omega);have:=Jbd _ x S.seen wx hz (hgx.wf (show S.seen.length+Jal x<1000000 by omega)) (fun q hq=>by have:=JaH q _ hq;omega) (by omega) hf.len (by omega);rw[hgx.ord,if_pos rfl]at this;exact this
 rw[hm]at t2 tp;have CD:Hid (∀pp cc wx,opAt wx (.slice pp (Jaq (Jaw true x m1)).length cc) (Jaq (Jaw true x m1))->Calls Tryz.prog 32 #[.slice pp (Jaq (Jaw true x m1)).length cc,.string ⟨S.doc.toArray⟩] wx fun e w'=>e=.returned (.tuple #[.string ⟨(Jaa (Jaq (Jaw true x m1)) S.doc).toArray⟩,.int .i64 0])/\Below wx.heap.size wx w'):=fun pp cc wx hz=>by
  have t2:good (Jaq (Jaw true x m1)) S.doc:=t2;have tp:Jal (Jaq (Jaw true x m1))=Jal x:=tp;have hf:=t2.fine (show S.doc.length+Jal (Jaq (Jaw true x m1))<1000000 by omega);have:=Jbd _ (Jaq (Jaw true x m1)) S.doc wx hz (t2.wf (show S.doc.length+Jal (Jaq (Jaw true x m1))<1000000 by omega)) (fun q hq=>by have:=JaH q _ hq;omega) (by omega) hf.len (by omega);rw[t2.ord,if_pos rfl]at this;exact this
 have hall:=hk.all;have hpts:=hk.puts;rw[hm]at hall hpts;have pm1:=hpts m1 (by simp);have CT1:Hid (∀wx,opAt wx (.slice p1 (Jau S 0).length c1) m1->opAt wx (.slice pv x.length cv) x->Calls Tryz.prog 125 #[.slice p1 (Jau S 0).length c1,.slice pv x.length cv,.bool false] wx fun e w'=>∃v',e=.returned (.tuple #[v',.int .i64 0])/\opN wx.heap.size w' v' (Jaq (Jaw false m1 x))/\Below wx.heap.size wx w'):=fun wx q1 q2=>Jcu _ _ false m1 x S.seen wx q1 q2 hall.1 hgx (by omega) (by omega);have CT2:Hid (∀wx,opAt wx (.slice pv x.length cv) x->opAt wx (.slice p1 (Jau S 0).length c1) m1->Calls Tryz.prog 125 #[.slice pv x.length cv,.slice p1 (Jau S 0).length c1,.bool true] wx fun e w'=>∃v',e=.returned (.tuple #[v',.int .i64 0])/\opN wx.heap.size w' v' (Jaq (Jaw true x m1))/\Below wx.heap.size wx w'):=fun wx q1 q2=>Jcu _ _ true x m1 S.seen wx q1 q2 hgx hall.1 (by omega) (by omega);have HM8:Hid (decide (1<=S.mine.length)=true):=by show _=_;rw[hm];rfl
 have HM9:Hid (decide (2<=S.mine.length)=false):=by show _=_;rw[hm];rfl
 have HA1:Hid (Jau S 0=m1):=by show _=_;unfold Jau;rw[hm];rfl
 have HA2:Hid (Jau S 1=[]):=by show _=_;unfold Jau;rw[hm];rfl
 have hrv1:wrap64 (S.rev+1)=S.rev+1:=Jax (by omega) (by omega);obtain⟨hr0,hr1⟩:=hrv;have hne:y≠w.heap.size:=by omega
 have hne':w.heap.size≠y:=by omega
 have HCC:(c==who)=false\/(c==who)=true/\(i==S.id)=false:=by
  cases hb:c==who
  . exact .inl rfl
  . exact .inr ⟨rfl,beq_eq_false_iff_ne.2 (hc.resolve_left fun h=>h (eq_of_beq hb))⟩
 clear hc;obtain⟨TD,hTD⟩:∃TD,Jaa (Jaq (Jaw true x m1)) S.doc=TD:=⟨_,rfl⟩;obtain⟨S2,hS2⟩:∃S2,({ S with seen:=Jaa x S.seen,rev:=S.rev+1,mine:=(Jbl S.mine x).1,doc:=Jaa (Jbl S.mine x).2 S.doc }:Cl)=S2:=⟨_,rfl⟩;rw[hS2];have HS2:Hid (S2 = { S with seen:=Jaa x S.seen,rev:=S.rev+1,mine:=[Jaq (Jaw false m1 x)],doc:=TD }):=by show _=_;rw[←hS2,hm,←hTD];rfl
 rw[hTD]at CD;clear hS2 hTD;generalize hM1:Jaq (Jaw false m1 x)=M1 at *;clear hM1;generalize hX1:Jaq (Jaw true x m1)=X1 at *;clear hX1;generalize Jaa x S.seen=tx at *;generalize hxn:x.length=xn at *;generalize hn1:(Jau S 0).length=n1 at *;generalize hn2:(Jau S 1).length=n2 at *;have HLO:=hdz hlo;clear h3 h4 h5 hx hlo hsz hxn hn1 hn2 hgx hm hk ho t2 tp hdl hall hpts pm1;have HZ0B:Hid (Below w.heap.size w (w.alloc (.cells #[.int .i64 c,.int .i64 i,.slice pv xn cv] 103))):=(brf _ _).alloc (nlr _) _
 rcases HCC with hc1|⟨hc1,hi1⟩
 all_goals as_aux_lemma =>
  skip
  go_enter Tryz.func50,Tryz.ntmps50
  have x4:(w.alloc (.cells #[.int .i64 c,.int .i64 i,.slice pv xn cv] 103)).cell? ⟨y,4,none⟩=some (.int .i64 S.rev):=(Jap H0.out.blk).2.2.2.2.1
  go_wp2_with (go_at_call 9999)
  refine wz (fun wx:World=>ZR lo y w.heap.size who u c i S (.slice p1 n1 c1) (.slice p2 n2 c2) (.slice pv xn cv) x wx) 12 H0.out ZR.grow fun w3 hb3 hz3 G hG=>?_;have e2:=fun y'=>ce (hG.but y').box 2 rfl;have y3:∀y',(G y').cell? ⟨y,3,none⟩=some (.string ⟨S.seen.toArray⟩):=fun y'=>(Jap (hG.but y').blk).2.2.2.1;(iterate 6 (refine ay hG hz3 fun _ k=>?_;go_simp;apply k;clear k))
  (refine ay hG hz3 fun K hK=>?_;go_simp;apply Exists.intro;refine⟨fun _=>?_,hK _ ?_⟩;exact CA.out _ (hG.but _).op.1;clear hK K)
  (iterate 5 (refine ay hG hz3 fun _ k=>?_;go_simp;apply k;clear k));clear e2 y3 hG;refine JaA (by kernel_rfl) ?_;intro v3 hv3;have HZ3:=hdz (ZR.grow hz3 hv3);have HB3:Hid (Below w.heap.size w v3):=HZ0B.out.trans ((hb3.trans (hv3.mono hb3.size)).mono HZ0B.out.size);have HZ3B:=hdz HB3;clear hb3 hv3 hz3;go_wp2;refine wz (fun wx:World=>ZR lo y w.heap.size who u c i S (.slice p1 n1 c1) (.slice p2 n2 c2) (.slice pv xn cv) x wx) 23 HZ3.out ZR.grow fun w6 hb6 hz6 G hG=>?_;have e0:=fun y'=>ce (hG.but y').box 0 rfl;have e1:=fun y'=>ce (hG.but y').box 1 rfl;have y0:∀y',(G y').cell? ⟨y,0,none⟩=some (.int .i64 who):=fun y'=>(Jap (hG.but y').blk).1;have y5:∀y',(G y').cell? ⟨y,5,none⟩=some (.int .i64 S.id):=fun y'=>(Jap (hG.but y').blk).2.2.2.2.2.1;have y8:∀y',(G y').cell? ⟨y,8,none⟩=some (.bool true):=fun y'=>by have:=(Jap (hG.but y').blk).2.2.2.2.2.2.2.2.1;rwa[HM8.out]at this
  (iterate 23 (refine ay hG hz6 fun _ k=>?_;go_simp;apply k;clear k));clear e0 e1 y0 y5 y8 hG;refine JaA (by kernel_rfl) ?_;intro v6 hv6;have HZ6:=hdz (ZR.grow hz6 hv6);have HB6:Hid (Below w.heap.size w v6):=HZ3B.out.trans ((hb6.trans (hv6.mono hb6.size)).mono HZ3B.out.size);clear hb6 hv6 hz6;have k6:=HZ6.out.blk;have K6:=hdz k6;have k66:v6.heap[y]?=some (.cells #[.int .i64 who,.int .i64 u,.string ⟨S.doc.toArray⟩,.string ⟨S.seen.toArray⟩,.int .i64 S.rev,.int .i64 S.id,.slice p1 n1 c1,.slice p2 n2 c2,.bool true,.bool false,.int .i64 S.drops] 98 (0,0)):=by have h:=k6;unfold JbI at h;rw[HM8.out,HM9.out]at h;exact h
  have K66:=hdz k66;have O1:Hid (opX lo v6 (.slice p1 n1 c1) m1):=by have h:=HZ6.out.o1;rw[HA1.out]at h;exact h
  have O2:Hid (opX lo v6 (.slice p2 n2 c2) []):=by have h:=HZ6.out.o2;rw[HA2.out]at h;exact h
  have t3:=ce k66 3 rfl;have t4:=ce k66 4 rfl;have f3:=fz k66 3;have f4:=fz k66 4;have d2v6:=ce k66 2 rfl;have d6v6:=ce k66 6 rfl;have d7v6:=ce k66 7 rfl;have d8v6:=ce k66 8 rfl;have d9v6:=ce k66 9 rfl;have f2v6:=fz k66 2;have f6v6:=fz k66 6;have f7v6:=fz k66 7;have e2:=ce HZ6.out.box 2 rfl;have HS1:Hid (sameBut v6 ((v6.setCell ⟨y,3,none⟩ (.string ⟨tx.toArray⟩)).setCell ⟨y,4,none⟩ (.int .i64 (S.rev+1))) fun k=>k=y):=(Jaj (S:=fun k=>k=y) rfl).trans (Jaj (S:=fun k=>k=y) rfl);have HB1:Hid (((v6.setCell ⟨y,3,none⟩ (.string ⟨tx.toArray⟩)).setCell ⟨y,4,none⟩ (.int .i64 (S.rev+1))).heap[y]?=some (.cells #[.int .i64 who,.int .i64 u,.string ⟨S.doc.toArray⟩,.string ⟨tx.toArray⟩,.int .i64 (S.rev+1),.int .i64 S.id,.slice p1 n1 c1,.slice p2 n2 c2,.bool true,.bool false,.int .i64 S.drops] 98 (0,0))):=heap_setCell_same _ y 4 _ _ (.int .i64 (S.rev+1)) (heap_setCell_same v6 y 3 _ _ (.string ⟨tx.toArray⟩) K66.out);clear k6 k66
  go_wp2_with (first
   | (have _:=HX8;go_at_call 32;have hsl:sameBut w8 (w8.setCell ⟨y,6,none⟩ (.slice q1 M1.length d1)) (fun k=>k=y):=Jaj (S:=fun k=>k=y) rfl;have bl:=heap_setCell_same w8 y 6 _ _ (.slice q1 M1.length d1) HK8.out;refine(CD.out _ _ _ (Jbb (lo:=lo) (HX8.out lo) hsl fun k _ hk=>by obtain rfl:=hk;exact⟨HLO.out,JaP HK8.out (by decide)⟩).1).mono ?_;rintro e w12 ⟨rfl,hb12⟩;have hk12:=(hb12.block y (alt bl)).trans bl;have HK12:=hdz hk12;have HB12:=hdz hb12;have HSL:=hdz hsl;have d2w12:=ce hk12 2 rfl;have f2w12:=fz hk12 2;clear hsl bl hb12 hk12)
   | (have _:=HM7;go_at_call 125;refine(CT2.out _ (OX7.out).1 O17.out.1).mono ?_;rintro e w8 ⟨v8',rfl,hn8,hb8⟩;obtain⟨q2,d2,rfl⟩:=Jbu hn8;have hk8:=(hb8.block y (alt HK7.out)).trans HK7.out;have HK8:=hdz hk8;have HX8:Hid (∀lo',opX lo' w8 (.slice q2 X1.length d2) X1):=fun lo'=>JaG hn8;have HM8':Hid (∀lo',opX lo' w8 (.slice q1 M1.length d1) M1):=fun lo'=>Jan (HM7.out lo') hb8;have O28:=hdz (Jan O27.out hb8);have HB8:=hdz hb8;have d2w8:=ce hk8 2 rfl;have d6w8:=ce hk8 6 rfl;have d7w8:=ce hk8 7 rfl;have d8w8:=ce hk8 8 rfl;have d9w8:=ce hk8 9 rfl;have f2w8:=fz hk8 2;have f6w8:=fz hk8 6;have f7w8:=fz hk8 7;clear hn8 hb8 hk8)
   | (go_at_call 125;have x6:=Jdr (lo':=0) HLO.out K6.out HS1.out HZ6.out.op;have o6:=Jdr (lo':=0) HLO.out K6.out HS1.out O1.out;have o26:=Jdr (lo':=0) HLO.out K6.out HS1.out O2.out;refine(CT1.out _ o6.1 x6.1).mono ?_;rintro e w7 ⟨v7,rfl,hn7,hb7⟩;obtain⟨q1,d1,rfl⟩:=Jbu hn7;have hk7:=(hb7.block y (alt HB1.out)).trans HB1.out;have HK7:=hdz hk7;have HM7:Hid (∀lo',opX lo' w7 (.slice q1 M1.length d1) M1):=fun lo'=>JaG hn7;have OX7:=hdz (Jan x6 hb7);have O17:=hdz (Jan o6 hb7);have O27:=hdz (Jan o26 hb7);have HB7:=hdz hb7;have d2w7:=ce hk7 2 rfl;have d6w7:=ce hk7 6 rfl;have d7w7:=ce hk7 7 rfl;have d8w7:=ce hk7 8 rfl;have d9w7:=ce hk7 9 rfl;have f2w7:=fz hk7 2;have f6w7:=fz hk7 6;have f7w7:=fz hk7 7;clear x6 o6 o26 hn7 hb7 hk7))
  go_ret;refine⟨rfl,?_⟩;rw[HS2.out];have b12:=heap_setCell_same w12 y 2 _ _ (.string ⟨TD.toArray⟩) HK12.out;have hs12:sameBut w12 (w12.setCell ⟨y,2,none⟩ (.string ⟨TD.toArray⟩)) (fun k=>k=y):=Jaj (S:=fun k=>k=y) rfl;have hT:sameBut w8 (w12.setCell ⟨y,2,none⟩ (.string ⟨TD.toArray⟩)) (fun k=>k=y):=HSL.out.trans ((Jai HB12.out fun k=>k=y).trans hs12);have hA:sameBut v6 w8 (fun k=>k=y):=HS1.out.trans ((Jai HB7.out fun k=>k=y).trans (Jai HB8.out fun k=>k=y));exact Jlk HLO.out HB6.out K6.out (hA.trans hT) b12 (Jbb (HM8'.out lo) hT fun k _ hk=>by obtain rfl:=hk;exact⟨HLO.out,JaP HK8.out (by decide)⟩) (Jbb O28.out hT fun k _ hk=>by obtain rfl:=hk;exact⟨HLO.out,JaP HK8.out (by decide)⟩)
theorem Jqj(h:isRc lo w y who u S)(hk:okK 2000 S)(c i:Int)(v:Value)(x:List Pt)(hx:opX lo w v x)(hsz:S.seen.length+Jal x<=500000)(hrv:0<=S.rev/\S.rev<=1000000)(ho:ordE x S.seen=0){m1 m2:List Pt}(hm:S.mine=[m1,m2])(hc:c≠who\/i≠S.id) :
    Calls Tryz.prog 50 #[.pointer (some ⟨y,0,none⟩),.int .i64 S.rev,.agg #[.int .i64 c,.int .i64 i,v]] w fun e w'=>e=.returned (.int .i64 0)/\isRc lo w' y who u { S with seen:=Jaa x S.seen,rev:=S.rev+1,mine:=(Jbl S.mine x).1,doc:=Jaa (Jbl S.mine x).2 S.doc }/\sameBut w w' fun k=>k=y:=by
 have hlt:=JeK h;obtain⟨hlo,v1,v2,h3,h4,h5⟩:=h;obtain⟨p1,c1,rfl⟩:=Ja0 h4;obtain⟨p2,c2,rfl⟩:=Ja0 h5;obtain⟨pv,cv,rfl⟩:=Ja0 hx;have hgx:=Jbs hk.text ho;obtain⟨_,t2,_⟩:=Jd4 S.mine x S.seen hgx hk.all;have tp:=(Jd3 2000 S.mine x S.seen hgx hk.all hk.puts (by have:=Nat.mul_le_mul_right 2000 hk.two;omega) (by omega)).2;rw[←hk.doc]at t2;have hdl:=hk.len;have H0:Hid _:=Jeb (c:=c) (i:=i) hlo h3 h4 h5 hx;have CA:Hid (∀wx,opAt wx (.slice pv x.length cv) x->Calls Tryz.prog 32 #[.slice pv x.length cv,.string ⟨S.seen.toArray⟩] wx fun e w'=>e=.returned (.tuple #[.string ⟨(Jaa x S.seen).toArray⟩,.int .i64 0])/\Below wx.heap.size wx w'):=fun wx hz=>by
  have hf:=hgx.fine (show S.seen.length+Jal x<1000000 by omega);have:=Jbd _ x S.seen wx hz (hgx.wf (show S.seen.length+Jal x<1000000 by omega)) (fun q hq=>by have:=JaH q _ hq;omega) (by omega) hf.len (by omega);rw[hgx.ord,if_pos rfl]at this;exact this
 rw[hm]at t2 tp;have CD:Hid (∀pp cc wx,opAt wx (.slice pp (Jaq (Jaw true (Jaq (Jaw true x m1)) m2)).length cc) (Jaq (Jaw true (Jaq (Jaw true x m1)) m2))->Calls Tryz.prog 32 #[.slice pp (Jaq (Jaw true (Jaq (Jaw true x m1)) m2)).length cc,.string ⟨S.doc.toArray⟩] wx fun e w'=>e=.returned (.tuple #[.string ⟨(Jaa (Jaq (Jaw true (Jaq (Jaw true x m1)) m2)) S.doc).toArray⟩,.int .i64 0])/\Below wx.heap.size wx w'):=fun pp cc wx hz=>by
  have t2:good (Jaq (Jaw true (Jaq (Jaw true x m1)) m2)) S.doc:=t2;have tp:Jal (Jaq (Jaw true (Jaq (Jaw true x m1)) m2))=Jal x:=tp;have hf:=t2.fine (show S.doc.length+Jal (Jaq (Jaw true (Jaq (Jaw true x m1)) m2))<1000000 by omega);have:=Jbd _ (Jaq (Jaw true (Jaq (Jaw true x m1)) m2)) S.doc wx hz (t2.wf (show S.doc.length+Jal (Jaq (Jaw true (Jaq (Jaw true x m1)) m2))<1000000 by omega)) (fun q hq=>by have:=JaH q _ hq;omega) (by omega) hf.len (by omega);rw[t2.ord,if_pos rfl]at this;exact this
 have hall:=hk.all;have hpts:=hk.puts;rw[hm]at hall hpts;have pm1:=hpts m1 (by simp);have CT1:Hid (∀wx,opAt wx (.slice p1 (Jau S 0).length c1) m1->opAt wx (.slice pv x.length cv) x->Calls Tryz.prog 125 #[.slice p1 (Jau S 0).length c1,.slice pv x.length cv,.bool false] wx fun e w'=>∃v',e=.returned (.tuple #[v',.int .i64 0])/\opN wx.heap.size w' v' (Jaq (Jaw false m1 x))/\Below wx.heap.size wx w'):=fun wx q1 q2=>Jcu _ _ false m1 x S.seen wx q1 q2 hall.1 hgx (by omega) (by omega);have CT2:Hid (∀wx,opAt wx (.slice pv x.length cv) x->opAt wx (.slice p1 (Jau S 0).length c1) m1->Calls Tryz.prog 125 #[.slice pv x.length cv,.slice p1 (Jau S 0).length c1,.bool true] wx fun e w'=>∃v',e=.returned (.tuple #[v',.int .i64 0])/\opN wx.heap.size w' v' (Jaq (Jaw true x m1))/\Below wx.heap.size wx w'):=fun wx q1 q2=>Jcu _ _ true x m1 S.seen wx q1 q2 hgx hall.1 (by omega) (by omega);have pm2:=hpts m2 (by simp);have hg2:=(Jd8 true hgx hall.1).1;have hp2:=(Jg8 true hgx hall.1 (show S.seen.length+Jal x<1000000 by omega) (by omega)).1;have l1:=Jgz hall.1;have CT3:Hid (∀pp cc,(∀wx,opAt wx (.slice p2 (Jau S 1).length c2) m2->opAt wx (.slice pp (Jaq (Jaw true x m1)).length cc) (Jaq (Jaw true x m1))->Calls Tryz.prog 125 #[.slice p2 (Jau S 1).length c2,.slice pp (Jaq (Jaw true x m1)).length cc,.bool false] wx fun e w'=>∃v',e=.returned (.tuple #[v',.int .i64 0])/\opN wx.heap.size w' v' (Jaq (Jaw false m2 (Jaq (Jaw true x m1))))/\Below wx.heap.size wx w')):=fun pp cc wx q1 q2=>Jcu _ _ false m2 (Jaq (Jaw true x m1)) (Jaa m1 S.seen) wx q1 q2 hall.2.1 hg2 (by omega) (by omega);have CT4:Hid (∀pp cc,(∀wx,opAt wx (.slice pp (Jaq (Jaw true x m1)).length cc) (Jaq (Jaw true x m1))->opAt wx (.slice p2 (Jau S 1).length c2) m2->Calls Tryz.prog 125 #[.slice pp (Jaq (Jaw true x m1)).length cc,.slice p2 (Jau S 1).length c2,.bool true] wx fun e w'=>∃v',e=.returned (.tuple #[v',.int .i64 0])/\opN wx.heap.size w' v' (Jaq (Jaw true (Jaq (Jaw true x m1)) m2))/\Below wx.heap.size wx w')):=fun pp cc wx q1 q2=>Jcu _ _ true (Jaq (Jaw true x m1)) m2 (Jaa m1 S.seen) wx q1 q2 hg2 hall.2.1 (by omega) (by omega);have HM8:Hid (decide (1<=S.mine.length)=true):=by show _=_;rw[hm];rfl
 have HM9:Hid (decide (2<=S.mine.length)=true):=by show _=_;rw[hm];rfl
 have HA1:Hid (Jau S 0=m1):=by show _=_;unfold Jau;rw[hm];rfl
 have HA2:Hid (Jau S 1=m2):=by show _=_;unfold Jau;rw[hm];rfl
 have hrv1:wrap64 (S.rev+1)=S.rev+1:=Jax (by omega) (by omega);obtain⟨hr0,hr1⟩:=hrv;have hne:y≠w.heap.size:=by omega
 have hne':w.heap.size≠y:=by omega
 have HCC:(c==who)=false\/(c==who)=true/\(i==S.id)=false:=by
  cases hb:c==who
  . exact .inl rfl
  . exact .inr ⟨rfl,beq_eq_false_iff_ne.2 (hc.resolve_left fun h=>h (eq_of_beq hb))⟩
 clear hc;obtain⟨TD,hTD⟩:∃TD,Jaa (Jaq (Jaw true (Jaq (Jaw true x m1)) m2)) S.doc=TD:=⟨_,rfl⟩;obtain⟨S2,hS2⟩:∃S2,({ S with seen:=Jaa x S.seen,rev:=S.rev+1,mine:=(Jbl S.mine x).1,doc:=Jaa (Jbl S.mine x).2 S.doc }:Cl)=S2:=⟨_,rfl⟩;rw[hS2];have HS2:Hid (S2 = { S with seen:=Jaa x S.seen,rev:=S.rev+1,mine:=[Jaq (Jaw false m1 x),Jaq (Jaw false m2 (Jaq (Jaw true x m1)))],doc:=TD }):=by show _=_;rw[←hS2,hm,←hTD];rfl
 rw[hTD]at CD;clear hS2 hTD;generalize hM1:Jaq (Jaw false m1 x)=M1 at *;clear hM1;generalize hM2:Jaq (Jaw false m2 (Jaq (Jaw true x m1)))=M2 at *;clear hM2;generalize hX2:Jaq (Jaw true (Jaq (Jaw true x m1)) m2)=X2 at *;clear hX2;generalize hX1:Jaq (Jaw true x m1)=X1 at *;clear hX1;generalize Jaa x S.seen=tx at *;generalize hxn:x.length=xn at *;generalize hn1:(Jau S 0).length=n1 at *;generalize hn2:(Jau S 1).length=n2 at *;have HLO:=hdz hlo;clear h3 h4 h5 hx hlo hsz hxn hn1 hn2 hgx hm hk ho t2 tp hdl hall hpts pm1 pm2 hg2 hp2 l1;have HZ0B:Hid (Below w.heap.size w (w.alloc (.cells #[.int .i64 c,.int .i64 i,.slice pv xn cv] 103))):=(brf _ _).alloc (nlr _) _
 rcases HCC with hc1|⟨hc1,hi1⟩
 all_goals as_aux_lemma =>
  skip
  go_enter Tryz.func50,Tryz.ntmps50
  have x4:(w.alloc (.cells #[.int .i64 c,.int .i64 i,.slice pv xn cv] 103)).cell? ⟨y,4,none⟩=some (.int .i64 S.rev):=(Jap H0.out.blk).2.2.2.2.1
  go_wp2_with (go_at_call 9999)
  refine wz (fun wx:World=>ZR lo y w.heap.size who u c i S (.slice p1 n1 c1) (.slice p2 n2 c2) (.slice pv xn cv) x wx) 12 H0.out ZR.grow fun w3 hb3 hz3 G hG=>?_;have e2:=fun y'=>ce (hG.but y').box 2 rfl;have y3:∀y',(G y').cell? ⟨y,3,none⟩=some (.string ⟨S.seen.toArray⟩):=fun y'=>(Jap (hG.but y').blk).2.2.2.1;(iterate 6 (refine ay hG hz3 fun _ k=>?_;go_simp;apply k;clear k))
  (refine ay hG hz3 fun K hK=>?_;go_simp;apply Exists.intro;refine⟨fun _=>?_,hK _ ?_⟩;exact CA.out _ (hG.but _).op.1;clear hK K)
  (iterate 5 (refine ay hG hz3 fun _ k=>?_;go_simp;apply k;clear k));clear e2 y3 hG;refine JaA (by kernel_rfl) ?_;intro v3 hv3;have HZ3:=hdz (ZR.grow hz3 hv3);have HB3:Hid (Below w.heap.size w v3):=HZ0B.out.trans ((hb3.trans (hv3.mono hb3.size)).mono HZ0B.out.size);have HZ3B:=hdz HB3;clear hb3 hv3 hz3;go_wp2;refine wz (fun wx:World=>ZR lo y w.heap.size who u c i S (.slice p1 n1 c1) (.slice p2 n2 c2) (.slice pv xn cv) x wx) 23 HZ3.out ZR.grow fun w6 hb6 hz6 G hG=>?_;have e0:=fun y'=>ce (hG.but y').box 0 rfl;have e1:=fun y'=>ce (hG.but y').box 1 rfl;have y0:∀y',(G y').cell? ⟨y,0,none⟩=some (.int .i64 who):=fun y'=>(Jap (hG.but y').blk).1;have y5:∀y',(G y').cell? ⟨y,5,none⟩=some (.int .i64 S.id):=fun y'=>(Jap (hG.but y').blk).2.2.2.2.2.1;have y8:∀y',(G y').cell? ⟨y,8,none⟩=some (.bool true):=fun y'=>by have:=(Jap (hG.but y').blk).2.2.2.2.2.2.2.2.1;rwa[HM8.out]at this
  (iterate 23 (refine ay hG hz6 fun _ k=>?_;go_simp;apply k;clear k));clear e0 e1 y0 y5 y8 hG;refine JaA (by kernel_rfl) ?_;intro v6 hv6;have HZ6:=hdz (ZR.grow hz6 hv6);have HB6:Hid (Below w.heap.size w v6):=HZ3B.out.trans ((hb6.trans (hv6.mono hb6.size)).mono HZ3B.out.size);clear hb6 hv6 hz6;have k6:=HZ6.out.blk;have K6:=hdz k6;have k66:v6.heap[y]?=some (.cells #[.int .i64 who,.int .i64 u,.string ⟨S.doc.toArray⟩,.string ⟨S.seen.toArray⟩,.int .i64 S.rev,.int .i64 S.id,.slice p1 n1 c1,.slice p2 n2 c2,.bool true,.bool true,.int .i64 S.drops] 98 (0,0)):=by have h:=k6;unfold JbI at h;rw[HM8.out,HM9.out]at h;exact h
  have K66:=hdz k66;have O1:Hid (opX lo v6 (.slice p1 n1 c1) m1):=by have h:=HZ6.out.o1;rw[HA1.out]at h;exact h
  have O2:Hid (opX lo v6 (.slice p2 n2 c2) m2):=by have h:=HZ6.out.o2;rw[HA2.out]at h;exact h
  have t3:=ce k66 3 rfl;have t4:=ce k66 4 rfl;have f3:=fz k66 3;have f4:=fz k66 4;have d2v6:=ce k66 2 rfl;have d6v6:=ce k66 6 rfl;have d7v6:=ce k66 7 rfl;have d8v6:=ce k66 8 rfl;have d9v6:=ce k66 9 rfl;have f2v6:=fz k66 2;have f6v6:=fz k66 6;have f7v6:=fz k66 7;have e2:=ce HZ6.out.box 2 rfl;have HS1:Hid (sameBut v6 ((v6.setCell ⟨y,3,none⟩ (.string ⟨tx.toArray⟩)).setCell ⟨y,4,none⟩ (.int .i64 (S.rev+1))) fun k=>k=y):=(Jaj (S:=fun k=>k=y) rfl).trans (Jaj (S:=fun k=>k=y) rfl);have HB1:Hid (((v6.setCell ⟨y,3,none⟩ (.string ⟨tx.toArray⟩)).setCell ⟨y,4,none⟩ (.int .i64 (S.rev+1))).heap[y]?=some (.cells #[.int .i64 who,.int .i64 u,.string ⟨S.doc.toArray⟩,.string ⟨tx.toArray⟩,.int .i64 (S.rev+1),.int .i64 S.id,.slice p1 n1 c1,.slice p2 n2 c2,.bool true,.bool true,.int .i64 S.drops] 98 (0,0))):=heap_setCell_same _ y 4 _ _ (.int .i64 (S.rev+1)) (heap_setCell_same v6 y 3 _ _ (.string ⟨tx.toArray⟩) K66.out);clear k6 k66
  go_wp2_with (first
   | (have _:=HX10;go_at_call 32;have hsl:sameBut w10 (w10.setCell ⟨y,7,none⟩ (.slice q3 M2.length d3)) (fun k=>k=y):=Jaj (S:=fun k=>k=y) rfl;have bl:=heap_setCell_same w10 y 7 _ _ (.slice q3 M2.length d3) HK10.out;refine(CD.out _ _ _ (Jbb (lo:=lo) (HX10.out lo) hsl fun k _ hk=>by obtain rfl:=hk;exact⟨HLO.out,JaP HK10.out (by decide)⟩).1).mono ?_;rintro e w12 ⟨rfl,hb12⟩;have hk12:=(hb12.block y (alt bl)).trans bl;have HK12:=hdz hk12;have HB12:=hdz hb12;have HSL:=hdz hsl;have d2w12:=ce hk12 2 rfl;have f2w12:=fz hk12 2;clear hsl bl hb12 hk12)
   | (have _:=HX9;go_at_call 125;refine(CT4.out _ _ _ HX9.out.1 O29.out.1).mono ?_;rintro e w10 ⟨v10,rfl,hn10,hb10⟩;obtain⟨q4,d4,rfl⟩:=Jbu hn10;have hk10:=(hb10.block y (alt HK9.out)).trans HK9.out;have HK10:=hdz hk10;have HX10:Hid (∀lo',opX lo' w10 (.slice q4 X2.length d4) X2):=fun lo'=>JaG hn10;have HM10:Hid (∀lo',opX lo' w10 (.slice q3 M2.length d3) M2):=fun lo'=>Jan (HM9'.out lo') hb10;have HB10:=hdz hb10;have d2w10:=ce hk10 2 rfl;have d6w10:=ce hk10 6 rfl;have d7w10:=ce hk10 7 rfl;have d8w10:=ce hk10 8 rfl;have d9w10:=ce hk10 9 rfl;have f2w10:=fz hk10 2;have f6w10:=fz hk10 6;have f7w10:=fz hk10 7;clear hn10 hb10 hk10)
   | (have _:=HX8;go_at_call 125;have hs8:sameBut w8 (w8.setCell ⟨y,6,none⟩ (.slice q1 M1.length d1)) (fun k=>k=y):=Jaj (S:=fun k=>k=y) rfl;have b8:=heap_setCell_same w8 y 6 _ _ (.slice q1 M1.length d1) HK8.out;have x8:=Jbb (lo:=lo) (HX8.out lo) hs8 fun k _ hk=>by obtain rfl:=hk;exact⟨HLO.out,JaP HK8.out (by decide)⟩
      have o28:=Jbb O28.out hs8 fun k _ hk=>by obtain rfl:=hk;exact⟨HLO.out,JaP HK8.out (by decide)⟩
      refine(CT3.out _ _ _ o28.1 x8.1).mono ?_;rintro e w9 ⟨v9,rfl,hn9,hb9⟩;obtain⟨q3,d3,rfl⟩:=Jbu hn9;have hk9:=(hb9.block y (alt b8)).trans b8;have HK9:=hdz hk9;have HX9:=hdz (Jan x8 hb9);have HM9':Hid (∀lo',opX lo' w9 (.slice q3 M2.length d3) M2):=fun lo'=>JaG hn9;have O29:=hdz (Jan o28 hb9);have HB9:=hdz hb9;have HS8:=hdz hs8;have d2w9:=ce hk9 2 rfl;have d6w9:=ce hk9 6 rfl;have d7w9:=ce hk9 7 rfl;have d8w9:=ce hk9 8 rfl;have d9w9:=ce hk9 9 rfl;have f2w9:=fz hk9 2;have f6w9:=fz hk9 6;have f7w9:=fz hk9 7
      clear hs8 b8 x8 o28 hn9 hb9 hk9)
   | (have _:=HM7;go_at_call 125;refine(CT2.out _ (OX7.out).1 O17.out.1).mono ?_;rintro e w8 ⟨v8',rfl,hn8,hb8⟩;obtain⟨q2,d2,rfl⟩:=Jbu hn8;have hk8:=(hb8.block y (alt HK7.out)).trans HK7.out;have HK8:=hdz hk8;have HX8:Hid (∀lo',opX lo' w8 (.slice q2 X1.length d2) X1):=fun lo'=>JaG hn8;have HM8':Hid (∀lo',opX lo' w8 (.slice q1 M1.length d1) M1):=fun lo'=>Jan (HM7.out lo') hb8;have O28:=hdz (Jan O27.out hb8);have HB8:=hdz hb8;have d2w8:=ce hk8 2 rfl;have d6w8:=ce hk8 6 rfl;have d7w8:=ce hk8 7 rfl;have d8w8:=ce hk8 8 rfl;have d9w8:=ce hk8 9 rfl;have f2w8:=fz hk8 2;have f6w8:=fz hk8 6;have f7w8:=fz hk8 7;clear hn8 hb8 hk8)
   | (go_at_call 125;have x6:=Jdr (lo':=0) HLO.out K6.out HS1.out HZ6.out.op;have o6:=Jdr (lo':=0) HLO.out K6.out HS1.out O1.out;have o26:=Jdr (lo':=0) HLO.out K6.out HS1.out O2.out;refine(CT1.out _ o6.1 x6.1).mono ?_;rintro e w7 ⟨v7,rfl,hn7,hb7⟩;obtain⟨q1,d1,rfl⟩:=Jbu hn7;have hk7:=(hb7.block y (alt HB1.out)).trans HB1.out;have HK7:=hdz hk7;have HM7:Hid (∀lo',opX lo' w7 (.slice q1 M1.length d1) M1):=fun lo'=>JaG hn7;have OX7:=hdz (Jan x6 hb7);have O17:=hdz (Jan o6 hb7);have O27:=hdz (Jan o26 hb7);have HB7:=hdz hb7;have d2w7:=ce hk7 2 rfl;have d6w7:=ce hk7 6 rfl;have d7w7:=ce hk7 7 rfl;have d8w7:=ce hk7 8 rfl;have d9w7:=ce hk7 9 rfl;have f2w7:=fz hk7 2;have f6w7:=fz hk7 6;have f7w7:=fz hk7 7;clear x6 o6 o26 hn7 hb7 hk7))
  go_ret;refine⟨rfl,?_⟩;rw[HS2.out];have b12:=heap_setCell_same w12 y 2 _ _ (.string ⟨TD.toArray⟩) HK12.out;have hs12:sameBut w12 (w12.setCell ⟨y,2,none⟩ (.string ⟨TD.toArray⟩)) (fun k=>k=y):=Jaj (S:=fun k=>k=y) rfl;have hT:sameBut w10 (w12.setCell ⟨y,2,none⟩ (.string ⟨TD.toArray⟩)) (fun k=>k=y):=HSL.out.trans ((Jai HB12.out fun k=>k=y).trans hs12);have hA:sameBut v6 w8 (fun k=>k=y):=HS1.out.trans ((Jai HB7.out fun k=>k=y).trans (Jai HB8.out fun k=>k=y));have hB:sameBut w8 w10 (fun k=>k=y):=HS8.out.trans ((Jai HB9.out fun k=>k=y).trans (Jai HB10.out fun k=>k=y));exact Jlk HLO.out HB6.out K6.out (hA.trans (hB.trans hT)) b12 (Jbb (HM8'.out lo) (hB.trans hT) fun k _ hk=>by obtain rfl:=hk;exact⟨HLO.out,JaP HK8.out (by decide)⟩) (Jbb (HM10.out lo) hT fun k _ hk=>by obtain rfl:=hk;exact⟨HLO.out,JaP HK10.out (by decide)⟩)
end
section
open Go.RowKit
section
variable {P : Program} {ops : Array Oper} {md : Region.Mode} {m m' : Nat} {Z Z' : World → Prop} {Q : Exit → Act → World → Prop}
theorem Jmg:∀(fuel:Nat)(listed:Array Bool)(a:Act)(w:World),(∀i,i<m->listed.getD i true=true)->anyZ Z' P md ops m' Q fuel listed a w->anyZ Z P md ops m Q fuel listed a w
 | 0,_,_,_,_,h=>h
 | fuel + 1,listed,a,w,hl,h=>by
  refine⟨h.1,fun i hi w' hb=>Jed (fun a' w'' h3=>?_) (h.2 i hi w' hb)⟩;refine⟨fun him=>?_,Jmg fuel _ a' w'' (fun j hj=>?_) h3.2⟩
  . obtain⟨hun,_⟩:=mem_ready.1 hi
    rw[hl i him]at hun
    cases hun
  . by_cases hij:i=j
    . subst hij
      by_cases hs:i<listed.size<;>simp[hs]
    . rw[getD_set_ne true hij];exact hl j hj
theorem JgV{fuel:Nat}{listed:Array Bool}{a:Act}{w:World}(hl:((List.range m).all fun i=>listed.getD i true)=true)(h:anyZ (fun _=>True) P md ops ops.size Q fuel listed a w):anyZ Z P md ops m Q fuel listed a w :=
 Jmg fuel listed a w (fun i hi=>List.all_eq_true.1 hl i (List.mem_range.2 hi)) h
theorem Ji1:∀(fuel:Nat)(listed:Array Bool)(a:Act)(w:World),anyZ Z P md ops m Q fuel listed a w->anyZ (fun _=>True) P md ops m' Q fuel listed a w
 | 0,_,_,_,h=>h
 | fuel+1,listed,a,w,h=>⟨h.1,fun i hi w' hb=>Jed (fun a' w'' h3=>⟨fun _ _=>trivial,Ji1 fuel _ a' w'' h3.2⟩) (h.2 i hi w' hb)⟩
def Jtp (md:Region.Mode) (ops:Array Oper) (m i:Nat):Bool:=(List.range ops.size).all fun j=>decide (j<m) || match ops[j]? with | some o=>o.after.any fun e=>Region.binds md e && decide (e.on=i) | none=>true
theorem Jid{i:Nat}(h:Jtp md ops m i=true)(j:Nat)(oj:Oper)(hoj:ops[j]?=some oj)(hj:¬j<m):∃e∈oj.after,Region.binds md e=true/\e.on=i:=by
 have hjs:j<ops.size:=(alt hoj);have h1:=List.all_eq_true.1 h j (List.mem_range.2 hjs);simp only[hoj,decide_eq_false hj,Bool.false_or]at h1;obtain⟨k,hk,h2⟩:=Array.any_eq_true.1 h1;rw[Bool.and_eq_true]at h2;exact⟨_,Array.getElem_mem hk,h2.1,of_decide_eq_true h2.2⟩
theorem Ji2(hZ:∀{w w':World},Z w->Below w.heap.size w w'->Z w'){i:Nat}{oi:Oper}{v:Value}(hi:ops[i]?=some oi)(him:i<m)(hsel:∀(j:Nat)(o:Oper) cs b,ops[j]?=some o->o.op≠.select cs b)(hlate:∀(j:Nat)(oj:Oper),ops[j]?=some oj->¬j<m->∃e∈oj.after,Region.binds md e=true/\e.on=i) :
    ∀ (fuel:Nat) (listed:Array Bool) (a:Act) (w:World),Z w ->
     (∀j oj,ops[j]?=some oj->j≠i->listed.getD j true=false->(∀e∈oj.after,Region.binds md e=true->e.on≠i)->oi.apart ops oj=true) ->
     i∈Region.ready md ops listed->JcE Z P ops oi v a ->
     anyZ Z P md ops m Q fuel (listed.setIfInBounds i true) (a.put oi.dst v) w->anyZ Z P md ops m Q (fuel+1) listed a w:=by
 intro fuel
 induction fuel with
 | zero =>
  intro listed a w hC _ hr hy H;refine⟨fun h=>(by rw[h]at hr;cases hr),fun j hj w' hb=>?_⟩
  by_cases hji:j=i
  . subst hji;exact JcZ hi hy (hZ hC hb) fun w'' hb'=>⟨fun _ h=>hZ h hb',Jf1 H (hb.trans (hb'.mono hb.size))⟩
  . have:=ready_mono hj hji
    rw[H.1]at this
    cases this
 | succ fuel ih =>
  intro listed a w hC hfree hr hy H;refine⟨fun h=>(by rw[h]at hr;cases hr),fun j hj w' hb=>?_⟩;have hC':=hZ hC hb
  by_cases hji:j=i
  . subst hji;exact JcZ hi hy hC' fun w'' hb'=>⟨fun _ h=>hZ h hb',Jf1 H (hb.trans (hb'.mono hb.size))⟩
  . have h1:=H.2 j (ready_mono hj hji) w' hb
    obtain⟨hjun,oj,hoj,hall⟩:=mem_ready.1 hj;have hnot:∀e∈oj.after,Region.binds md e=true->e.on≠i:=fun e he hb heq=>by
     have h1:=hall e he hb;have h0:=(mem_ready.1 hr).1;rw[heq]at h1
     rcases Nat.lt_or_ge i listed.size with h' | h'
     . simp[h']at h0 h1;rw[h0]at h1;cases h1
     . simp[Array.getElem?_eq_none h']at h1
    have hjm:j<m:=by
     by_cases hjm:j<m
     . exact hjm
     . obtain⟨e,he,hb,hon⟩:=hlate j oj hoj hjm
       exact absurd hon (hnot e he hb)
    have h2:=JnI hoj (hfree j oj hoj hji hjun hnot) (fun cs b=>hsel i oi cs b hi) (fun cs b=>hsel j oj cs b hoj) hy h1
    have hfree':∀k ok,ops[k]?=some ok->k≠i->(listed.setIfInBounds j true).getD k true=false ->
        (∀e∈ok.after,Region.binds md e=true->e.on≠i)->oi.apart ops ok=true:=fun k ok hk hki hun hno=>by
     refine hfree k ok hk hki ?_ hno
     by_cases hjk:j=k
     . subst hjk;exact hjun
     . rw[getD_set_ne true hjk]at hun;exact hun
    refine Jed (fun a' w'' h3=>?_) h2;obtain⟨h3y,h3g,h3a⟩:=h3;refine⟨fun _=>h3g hjm,ih (listed.setIfInBounds j true) a' w'' (h3g hjm hC') hfree' (ready_mono hr (Ne.symm hji)) h3y ?_⟩;rw[Array.setIfInBounds_comm _ _ hji];exact h3a
theorem Jf0{i fuel:Nat}{o:Oper}{listed:Array Bool}{a:Act}{w:World}{G:World->World}(hG:GrowZ Z G)(hw0:Z w)(hi:ops[i]?=some o)(him:decide (i<m)=true)(hs:(Region.noSelect ops && Jtp md ops m i)=true)
    (hf:(Region.free md ops listed i && (Region.ready md ops listed).contains i)=true)
    (h:∀K:Act->Prop,(∀a,anyZ Z P md ops m Q fuel (listed.setIfInBounds i true) a w->K a)->if Region.wanted o (yielded ops a.tmps) then ∃v,(∀x,Ja7 P (G x) v ((execOp a.eval o).run P (G x)))/\K (a.put o.dst v) else K (a.put o.dst undef)) :
    anyZ Z P md ops m Q (fuel+1) listed a w:=by
 have h1:=h _ fun _ h=>h;have him':i<m:=of_decide_eq_true him;rw[Bool.and_eq_true]at hs hf
 split at h1
 . rename_i hw
   obtain⟨v,h2,h3⟩:=h1;refine Ji2 hG.grow hi him' (Region.noSelect_spec hs.1) (Jid hs.2) fuel listed a w hw0 (Region.free_spec hi hf.1) (by simpa using hf.2) ?_ h3;unfold JcE;rw[if_pos hw];intro w' hb;have:=h2 w';rw[hG.onto w' hb]at this;exact this
 . rename_i hw
   refine Ji2 hG.grow hi him' (Region.noSelect_spec hs.1) (Jid hs.2) fuel listed a w hw0 (Region.free_spec hi hf.1) (by simpa using hf.2) ?_ h1;unfold JcE;rw[if_neg hw]
end
end
section
open Go.RowKit Go.Maps
attribute [local go_sem] Oper.semAt_some Ja7 Jbe
variable {lo y : Nat}{w : World}{who u : Int}{S : Cl}
theorem Jm4(h:isRc lo w y who u S)(hk:okK 2000 S)(v:Value)(x:List Pt)(hx:opX lo w v x)(hsz:S.seen.length+Jal x<=500000)(hrv:0<=S.rev/\S.rev<=1000000)(ho:ordE x S.seen=0)(hm:S.mine≠[])(hd:Jaa (JbP S) S.seen≠Jaa x S.seen) :
    Calls Tryz.prog 50 #[.pointer (some ⟨y,0,none⟩),.int .i64 S.rev,.agg #[.int .i64 who,.int .i64 S.id,v]] w fun e w'=>e=.returned (.int .i64 15)/\Below w.heap.size w w':=by
 have hlt:=JeK h;obtain⟨hlo,v1,v2,h3,h4,h5⟩:=h;obtain⟨p1,c1,rfl⟩:=Ja0 h4;obtain⟨p2,c2,rfl⟩:=Ja0 h5;obtain⟨pv,cv,rfl⟩:=Ja0 hx;have hgx:=Jbs hk.text ho;obtain⟨hg0,hp0⟩:=Jdh hk hm;have hA:Jau S 0=JbP S:=by unfold Jau JbP;cases S.mine<;>rfl
 have H0:Hid _:=Jeb (c:=who) (i:=S.id) hlo h3 h4 h5 hx;have CA:Hid (∀wx,opAt wx (.slice pv x.length cv) x->Calls Tryz.prog 32 #[.slice pv x.length cv,.string ⟨S.seen.toArray⟩] wx fun e w'=>e=.returned (.tuple #[.string ⟨(Jaa x S.seen).toArray⟩,.int .i64 0])/\Below wx.heap.size wx w'):=fun wx hz=>by
  have hf:=hgx.fine (show S.seen.length+Jal x<1000000 by omega);have:=Jbd _ x S.seen wx hz (hgx.wf (show S.seen.length+Jal x<1000000 by omega)) (fun q hq=>by have:=JaH q _ hq;omega) (by omega) hf.len (by omega);rw[hgx.ord,if_pos rfl]at this;exact this
 have CM:Hid (∀wx,opAt wx (.slice p1 (Jau S 0).length c1) (Jau S 0)->Calls Tryz.prog 32 #[.slice p1 (Jau S 0).length c1,.string ⟨S.seen.toArray⟩] wx fun e w'=>e=.returned (.tuple #[.string ⟨(Jaa (Jau S 0) S.seen).toArray⟩,.int .i64 0])/\Below wx.heap.size wx w'):=fun wx hz=>by
  rw[←hA]at hg0 hp0;have hf:=hg0.fine (show S.seen.length+Jal (Jau S 0)<1000000 by omega);have:=Jbd _ (Jau S 0) S.seen wx hz (hg0.wf (show S.seen.length+Jal (Jau S 0)<1000000 by omega)) (fun q hq=>by have:=JaH q _ hq;omega) (by omega) hf.len (by omega);rw[hg0.ord,if_pos rfl]at this;exact this
 have HM8:Hid (decide (1<=S.mine.length)=true):=by show _=_;exact decide_eq_true (List.length_pos_iff.2 hm)
 rw[←hA]at hd;obtain⟨hrv0,hrv9⟩:=hrv;generalize Jaa x S.seen=tx at *;generalize Jaa (Jau S 0) S.seen=tm at *;have hd1:(tm==tx)=false:=beq_eq_false_iff_ne.2 hd;generalize hxn:x.length=xn at *;generalize hn1:(Jau S 0).length=n1 at *;generalize hn2:(Jau S 1).length=n2 at *;clear h3 h4 h5 hx hlo hsz hxn hn1 hn2 hgx hm hk ho hg0 hp0 hA;have HZ0B:Hid (Below w.heap.size w (w.alloc (.cells #[.int .i64 who,.int .i64 S.id,.slice pv xn cv] 103))):=(brf _ _).alloc (nlr _) _
 . skip
   go_enter Tryz.func50,Tryz.ntmps50
   have x4:(w.alloc (.cells #[.int .i64 who,.int .i64 S.id,.slice pv xn cv] 103)).cell? ⟨y,4,none⟩=some (.int .i64 S.rev):=(Jap H0.out.blk).2.2.2.2.1
   go_wp2_with (go_at_call 9999)
   refine wz (fun wx:World=>ZR lo y w.heap.size who u who S.id S (.slice p1 n1 c1) (.slice p2 n2 c2) (.slice pv xn cv) x wx) 12 H0.out ZR.grow fun w3 hb3 hz3 G hG=>?_;have e2:=fun y'=>ce (hG.but y').box 2 rfl;have y3:∀y',(G y').cell? ⟨y,3,none⟩=some (.string ⟨S.seen.toArray⟩):=fun y'=>(Jap (hG.but y').blk).2.2.2.1;(iterate 6 (refine ay hG hz3 fun _ k=>?_;go_simp;apply k;clear k))
   (refine ay hG hz3 fun K hK=>?_;go_simp;apply Exists.intro;refine⟨fun _=>?_,hK _ ?_⟩;exact CA.out _ (hG.but _).op.1;clear hK K)
   (iterate 5 (refine ay hG hz3 fun _ k=>?_;go_simp;apply k;clear k));clear e2 y3 hG;refine JaA (by kernel_rfl) ?_;intro v3 hv3;have HZ3:=hdz (ZR.grow hz3 hv3);have HB3:Hid (Below w.heap.size w v3):=HZ0B.out.trans ((hb3.trans (hv3.mono hb3.size)).mono HZ0B.out.size);have HZ3B:=hdz HB3;clear hb3 hv3 hz3;go_wp2;refine wz (fun wx:World=>ZR lo y w.heap.size who u who S.id S (.slice p1 n1 c1) (.slice p2 n2 c2) (.slice pv xn cv) x wx) 23 HZ3.out ZR.grow fun w6 hb6 hz6 G hG=>?_;have e0:=fun y'=>ce (hG.but y').box 0 rfl;have e1:=fun y'=>ce (hG.but y').box 1 rfl;have y0:∀y',(G y').cell? ⟨y,0,none⟩=some (.int .i64 who):=fun y'=>(Jap (hG.but y').blk).1;have y5:∀y',(G y').cell? ⟨y,5,none⟩=some (.int .i64 S.id):=fun y'=>(Jap (hG.but y').blk).2.2.2.2.2.1;have y8:∀y',(G y').cell? ⟨y,8,none⟩=some (.bool true):=fun y'=>by have:=(Jap (hG.but y').blk).2.2.2.2.2.2.2.2.1;rwa[HM8.out]at this
   (iterate 23 (refine ay hG hz6 fun _ k=>?_;go_simp;apply k;clear k));clear e0 e1 y0 y5 y8 hG;refine JaA (by kernel_rfl) ?_;intro v6 hv6;have HZ6:=hdz (ZR.grow hz6 hv6);have HB6:Hid (Below w.heap.size w v6):=HZ3B.out.trans ((hb6.trans (hv6.mono hb6.size)).mono HZ3B.out.size);have HZ6B:=hdz HB6;clear hb6 hv6 hz6;go_wp2;refine wz (fun wx:World=>ZR lo y w.heap.size who u who S.id S (.slice p1 n1 c1) (.slice p2 n2 c2) (.slice pv xn cv) x wx) 14 HZ6.out ZR.grow fun w8 hb8 hz8 G hG=>?_;have y6:∀y',(G y').cell? ⟨y,6,none⟩=some (.slice p1 n1 c1):=fun y'=>(Jap (hG.but y').blk).2.2.2.2.2.2.1;have y3:∀y',(G y').cell? ⟨y,3,none⟩=some (.string ⟨S.seen.toArray⟩):=fun y'=>(Jap (hG.but y').blk).2.2.2.1;(iterate 8 (refine ay hG hz8 fun _ k=>?_;go_simp;apply k;clear k))
   (refine ay hG hz8 fun K hK=>?_;go_simp;apply Exists.intro;refine⟨fun _=>?_,hK _ ?_⟩;exact CM.out _ (hG.but _).o1.1;clear hK K)
   (iterate 5 (refine ay hG hz8 fun _ k=>?_;go_simp;apply k;clear k));clear y6 y3 hG;refine JaA (by kernel_rfl) ?_;intro v8 hv8;have HB8:Hid (Below w.heap.size w v8):=HZ6B.out.trans ((hb8.trans (hv8.mono hb8.size)).mono HZ6B.out.size);clear hb8 hv8 hz8;go_wp2;go_ret;exact⟨rfl,HB8.out⟩
theorem Jm3(h:isRc lo w y who u S)(hk:okK 2000 S)(v:Value)(x:List Pt)(hx:opX lo w v x)(hsz:S.seen.length+Jal x<=500000)(hrv:0<=S.rev/\S.rev<=1000000)(ho:ordE x S.seen=0)(hm:S.mine≠[]){m1:List Pt}(hms:S.mine=[m1])(hid:0<=S.id/\S.id<=1000000)(hd:Jaa (JbP S) S.seen=Jaa x S.seen) :
    Calls Tryz.prog 50 #[.pointer (some ⟨y,0,none⟩),.int .i64 S.rev,.agg #[.int .i64 who,.int .i64 S.id,v]] w fun e w'=>e=.returned (.int .i64 0)/\isRc lo w' y who u { S with seen:=Jaa x S.seen,rev:=S.rev+1,mine:=S.mine.tail,id:=if S.mine.tail≠[] then S.id+1 else S.id }/\sameBut w w' fun k=>k=y:=by
 have hlt:=JeK h;obtain⟨hlo,v1,v2,h3,h4,h5⟩:=h;obtain⟨p1,c1,rfl⟩:=Ja0 h4;obtain⟨p2,c2,rfl⟩:=Ja0 h5;obtain⟨pv,cv,rfl⟩:=Ja0 hx;have hgx:=Jbs hk.text ho;obtain⟨hg0,hp0⟩:=Jdh hk hm;have hA:Jau S 0=JbP S:=by unfold Jau JbP;cases S.mine<;>rfl
 have H0:Hid _:=Jeb (c:=who) (i:=S.id) hlo h3 h4 h5 hx;have CA:Hid (∀wx,opAt wx (.slice pv x.length cv) x->Calls Tryz.prog 32 #[.slice pv x.length cv,.string ⟨S.seen.toArray⟩] wx fun e w'=>e=.returned (.tuple #[.string ⟨(Jaa x S.seen).toArray⟩,.int .i64 0])/\Below wx.heap.size wx w'):=fun wx hz=>by
  have hf:=hgx.fine (show S.seen.length+Jal x<1000000 by omega);have:=Jbd _ x S.seen wx hz (hgx.wf (show S.seen.length+Jal x<1000000 by omega)) (fun q hq=>by have:=JaH q _ hq;omega) (by omega) hf.len (by omega);rw[hgx.ord,if_pos rfl]at this;exact this
 have CM:Hid (∀wx,opAt wx (.slice p1 (Jau S 0).length c1) (Jau S 0)->Calls Tryz.prog 32 #[.slice p1 (Jau S 0).length c1,.string ⟨S.seen.toArray⟩] wx fun e w'=>e=.returned (.tuple #[.string ⟨(Jaa (Jau S 0) S.seen).toArray⟩,.int .i64 0])/\Below wx.heap.size wx w'):=fun wx hz=>by
  rw[←hA]at hg0 hp0;have hf:=hg0.fine (show S.seen.length+Jal (Jau S 0)<1000000 by omega);have:=Jbd _ (Jau S 0) S.seen wx hz (hg0.wf (show S.seen.length+Jal (Jau S 0)<1000000 by omega)) (fun q hq=>by have:=JaH q _ hq;omega) (by omega) hf.len (by omega);rw[hg0.ord,if_pos rfl]at this;exact this
 have HM8:Hid (decide (1<=S.mine.length)=true):=by show _=_;exact decide_eq_true (List.length_pos_iff.2 hm)
 rw[hA,hd]at CM;have HM9:Hid (decide (2<=S.mine.length)=false):=by show _=_;rw[hms];rfl
 have HA2:Hid (Jau S 1=[]):=by show _=_;unfold Jau;rw[hms];rfl
 have hrv1:wrap64 (S.rev+1)=S.rev+1:=Jax (by omega) (by omega);have hid1:wrap64 (S.id+1)=S.id+1:=Jax (by omega) (by omega);obtain⟨hrv0,hrv9⟩:=hrv;obtain⟨hid0,hid9⟩:=hid;obtain⟨S2,hS2⟩:∃S2,({ S with seen:=Jaa x S.seen,rev:=S.rev+1,mine:=S.mine.tail,id:=if S.mine.tail≠[] then S.id+1 else S.id }:Cl)=S2:=⟨_,rfl⟩;rw[hS2];generalize Jaa x S.seen=tx at *;rw[←hA]at CM;have HS2:Hid (S2 = { S with seen:=tx,rev:=S.rev+1,mine:=[] }):=by show _=_;rw[←hS2,hms];rfl
 clear hS2 hd hms;generalize hxn:x.length=xn at *;generalize hn1:(Jau S 0).length=n1 at *;generalize hn2:(Jau S 1).length=n2 at *;have HLO:=hdz hlo;clear h3 h4 h5 hx hlo hsz hxn hn1 hn2 hgx hm hk ho hg0 hp0 hA;have HZ0B:Hid (Below w.heap.size w (w.alloc (.cells #[.int .i64 who,.int .i64 S.id,.slice pv xn cv] 103))):=(brf _ _).alloc (nlr _) _
 . skip
   go_enter Tryz.func50,Tryz.ntmps50
   have x4:(w.alloc (.cells #[.int .i64 who,.int .i64 S.id,.slice pv xn cv] 103)).cell? ⟨y,4,none⟩=some (.int .i64 S.rev):=(Jap H0.out.blk).2.2.2.2.1
   go_wp2_with (go_at_call 9999)
   refine wz (fun wx:World=>ZR lo y w.heap.size who u who S.id S (.slice p1 n1 c1) (.slice p2 n2 c2) (.slice pv xn cv) x wx) 12 H0.out ZR.grow fun w3 hb3 hz3 G hG=>?_;have e2:=fun y'=>ce (hG.but y').box 2 rfl;have y3:∀y',(G y').cell? ⟨y,3,none⟩=some (.string ⟨S.seen.toArray⟩):=fun y'=>(Jap (hG.but y').blk).2.2.2.1;(iterate 6 (refine ay hG hz3 fun _ k=>?_;go_simp;apply k;clear k))
   (refine ay hG hz3 fun K hK=>?_;go_simp;apply Exists.intro;refine⟨fun _=>?_,hK _ ?_⟩;exact CA.out _ (hG.but _).op.1;clear hK K)
   (iterate 5 (refine ay hG hz3 fun _ k=>?_;go_simp;apply k;clear k));clear e2 y3 hG;refine JaA (by kernel_rfl) ?_;intro v3 hv3;have HZ3:=hdz (ZR.grow hz3 hv3);have HB3:Hid (Below w.heap.size w v3):=HZ0B.out.trans ((hb3.trans (hv3.mono hb3.size)).mono HZ0B.out.size);have HZ3B:=hdz HB3;clear hb3 hv3 hz3;go_wp2;refine wz (fun wx:World=>ZR lo y w.heap.size who u who S.id S (.slice p1 n1 c1) (.slice p2 n2 c2) (.slice pv xn cv) x wx) 23 HZ3.out ZR.grow fun w6 hb6 hz6 G hG=>?_;have e0:=fun y'=>ce (hG.but y').box 0 rfl;have e1:=fun y'=>ce (hG.but y').box 1 rfl;have y0:∀y',(G y').cell? ⟨y,0,none⟩=some (.int .i64 who):=fun y'=>(Jap (hG.but y').blk).1;have y5:∀y',(G y').cell? ⟨y,5,none⟩=some (.int .i64 S.id):=fun y'=>(Jap (hG.but y').blk).2.2.2.2.2.1;have y8:∀y',(G y').cell? ⟨y,8,none⟩=some (.bool true):=fun y'=>by have:=(Jap (hG.but y').blk).2.2.2.2.2.2.2.2.1;rwa[HM8.out]at this
   (iterate 23 (refine ay hG hz6 fun _ k=>?_;go_simp;apply k;clear k));clear e0 e1 y0 y5 y8 hG;refine JaA (by kernel_rfl) ?_;intro v6 hv6;have HZ6:=hdz (ZR.grow hz6 hv6);have HB6:Hid (Below w.heap.size w v6):=HZ3B.out.trans ((hb6.trans (hv6.mono hb6.size)).mono HZ3B.out.size);have HZ6B:=hdz HB6;clear hb6 hv6 hz6;go_wp2;refine wz (fun wx:World=>ZR lo y w.heap.size who u who S.id S (.slice p1 n1 c1) (.slice p2 n2 c2) (.slice pv xn cv) x wx) 14 HZ6.out ZR.grow fun w8 hb8 hz8 G hG=>?_;have y6:∀y',(G y').cell? ⟨y,6,none⟩=some (.slice p1 n1 c1):=fun y'=>(Jap (hG.but y').blk).2.2.2.2.2.2.1;have y3:∀y',(G y').cell? ⟨y,3,none⟩=some (.string ⟨S.seen.toArray⟩):=fun y'=>(Jap (hG.but y').blk).2.2.2.1;(iterate 8 (refine ay hG hz8 fun _ k=>?_;go_simp;apply k;clear k))
   (refine ay hG hz8 fun K hK=>?_;go_simp;apply Exists.intro;refine⟨fun _=>?_,hK _ ?_⟩;exact CM.out _ (hG.but _).o1.1;clear hK K)
   (iterate 5 (refine ay hG hz8 fun _ k=>?_;go_simp;apply k;clear k));clear y6 y3 hG;refine JaA (by kernel_rfl) ?_;intro v8 hv8;have HZ8:=hdz (ZR.grow hz8 hv8);have HB8:Hid (Below w.heap.size w v8):=HZ6B.out.trans ((hb8.trans (hv8.mono hb8.size)).mono HZ6B.out.size);clear hb8 hv8 hz8;have k8:=HZ8.out.blk;have K8:=hdz k8;have k88:v8.heap[y]?=some (.cells #[.int .i64 who,.int .i64 u,.string ⟨S.doc.toArray⟩,.string ⟨S.seen.toArray⟩,.int .i64 S.rev,.int .i64 S.id,.slice p1 n1 c1,.slice p2 n2 c2,.bool true,.bool false,.int .i64 S.drops] 98 (0,0)):=by have h:=k8;unfold JbI at h;rw[HM8.out,HM9.out]at h;exact h
   have t3:=ce k88 3 rfl;have t4:=ce k88 4 rfl;have f3:=fz k88 3;have f4:=fz k88 4;have HS1:Hid (sameBut v8 ((v8.setCell ⟨y,3,none⟩ (.string ⟨tx.toArray⟩)).setCell ⟨y,4,none⟩ (.int .i64 (S.rev+1))) fun k=>k=y):=(Jaj (S:=fun k=>k=y) rfl).trans (Jaj (S:=fun k=>k=y) rfl);have HB1:Hid (((v8.setCell ⟨y,3,none⟩ (.string ⟨tx.toArray⟩)).setCell ⟨y,4,none⟩ (.int .i64 (S.rev+1))).heap[y]?=some (.cells #[.int .i64 who,.int .i64 u,.string ⟨S.doc.toArray⟩,.string ⟨tx.toArray⟩,.int .i64 (S.rev+1),.int .i64 S.id,.slice p1 n1 c1,.slice p2 n2 c2,.bool true,.bool false,.int .i64 S.drops] 98 (0,0))):=heap_setCell_same _ y 4 _ _ (.int .i64 (S.rev+1)) (heap_setCell_same v8 y 3 _ _ (.string ⟨tx.toArray⟩) k88);clear k8 k88
   go_wp2_with (go_at_call 9999)
   refine wz (fun _:World=>True) 24 trivial (fun _ _=>trivial) fun w14 hb14 _ G2 hG2=>?_
   (refine Ja9 hG2 trivial (i:=0) rfl (by kernel_rfl) (by kernel_rfl) (by kernel_rfl) (fun K hK=>?_);go_simp;refine hK _ ?_;clear hK K)
   (refine Ja9 hG2 trivial (i:=1) rfl (by kernel_rfl) (by kernel_rfl) (by kernel_rfl) (fun K hK=>?_);go_simp;refine hK _ ?_;clear hK K)
   (refine Ja9 hG2 trivial (i:=2) rfl (by kernel_rfl) (by kernel_rfl) (by kernel_rfl) (fun K hK=>?_);go_simp;refine hK _ ?_;clear hK K)
   (refine Ja9 hG2 trivial (i:=3) rfl (by kernel_rfl) (by kernel_rfl) (by kernel_rfl) (fun K hK=>?_);go_simp;refine hK _ ?_;clear hK K)
   (refine Ja9 hG2 trivial (i:=4) rfl (by kernel_rfl) (by kernel_rfl) (by kernel_rfl) (fun K hK=>?_);go_simp;refine hK _ ?_;clear hK K)
   (refine Ja9 hG2 trivial (i:=5) rfl (by kernel_rfl) (by kernel_rfl) (by kernel_rfl) (fun K hK=>?_);go_simp;refine hK _ ?_;clear hK K)
   (refine Ja9 hG2 trivial (i:=6) rfl (by kernel_rfl) (by kernel_rfl) (by kernel_rfl) (fun K hK=>?_);go_simp;refine hK _ ?_;clear hK K)
   (refine Ja9 hG2 trivial (i:=8) rfl (by kernel_rfl) (by kernel_rfl) (by kernel_rfl) (fun K hK=>?_);go_simp;refine hK _ ?_;clear hK K)
   (refine Ja9 hG2 trivial (i:=9) rfl (by kernel_rfl) (by kernel_rfl) (by kernel_rfl) (fun K hK=>?_);go_simp;refine hK _ ?_;clear hK K)
   (refine Ja9 hG2 trivial (i:=10) rfl (by kernel_rfl) (by kernel_rfl) (by kernel_rfl) (fun K hK=>?_);go_simp;refine hK _ ?_;clear hK K)
   refine Ji1 (Z:=fun wx:World=>wx.heap[y]?=some (.cells #[.int .i64 who,.int .i64 u,.string ⟨S.doc.toArray⟩,.string ⟨tx.toArray⟩,.int .i64 (S.rev+1),.int .i64 S.id,.slice p1 n1 c1,.slice p2 n2 c2,.bool true,.bool false,.int .i64 S.drops] 98 (0,0))) (m:=12) _ _ _ _ ?_;have hz14:w14.heap[y]?=some (.cells #[.int .i64 who,.int .i64 u,.string ⟨S.doc.toArray⟩,.string ⟨tx.toArray⟩,.int .i64 (S.rev+1),.int .i64 S.id,.slice p1 n1 c1,.slice p2 n2 c2,.bool true,.bool false,.int .i64 S.drops] 98 (0,0)):=(hb14.block y (alt HB1.out)).trans HB1.out;obtain⟨G,hG⟩:=Jdk (Z:=fun wx:World=>wx.heap[y]?=some (.cells #[.int .i64 who,.int .i64 u,.string ⟨S.doc.toArray⟩,.string ⟨tx.toArray⟩,.int .i64 (S.rev+1),.int .i64 S.id,.slice p1 n1 c1,.slice p2 n2 c2,.bool true,.bool false,.int .i64 S.drops] 98 (0,0))) hz14 (fun {w w'} h hb=>(hb.block y (alt h)).trans h);have y7:∀z,(G z).cell? ⟨y,7,none⟩=some (.slice p2 n2 c2):=fun z=>chp (hG.but z) 7;have y9:∀z,(G z).cell? ⟨y,9,none⟩=some (.bool false):=fun z=>chp (hG.but z) 9
   (refine Jf0 hG hz14 (i:=7) rfl (by kernel_rfl) (by kernel_rfl) (by kernel_rfl) (fun K hK=>?_);go_simp;refine hK _ ?_;clear hK K)
   (refine Jf0 hG hz14 (i:=11) rfl (by kernel_rfl) (by kernel_rfl) (by kernel_rfl) (fun K hK=>?_);go_simp;refine hK _ ?_;clear hK K)
   clear y7 y9 hG;refine JgV (by kernel_rfl) ?_
   (refine Ja9 hG2 trivial (i:=12) rfl (by kernel_rfl) (by kernel_rfl) (by kernel_rfl) (fun K hK=>?_);go_simp;refine hK _ ?_;clear hK K)
   (refine Ja9 hG2 trivial (i:=13) rfl (by kernel_rfl) (by kernel_rfl) (by kernel_rfl) (fun K hK=>?_);go_simp;refine hK _ ?_;clear hK K)
   refine JaI (i:=14) (by kernel_rfl) ⟨_,rfl,?_⟩;intro w31 hw31 K hK;have bw31:=(hw31.block y (alt hz14)).trans hz14;have cw31:=ce bw31 6 rfl;have fw31:=fz bw31 6
   go_simp
   refine hK _ _ (fun _=>trivial) ?_;have nw31:=heap_setCell_same w31 y 6 _ _ (.slice p2 n2 c2) bw31;have sw31:sameBut w14 (w31.setCell ⟨y,6,none⟩ (.slice p2 n2 c2)) (fun k=>k=y):=(Jai hw31 _).trans (Jaj (S:=fun k=>k=y) rfl);clear hK K cw31 fw31
   (refine Ja9 hG2 trivial (i:=15) rfl (by kernel_rfl) (by kernel_rfl) (by kernel_rfl) (fun K hK=>?_);go_simp;refine hK _ ?_;clear hK K)
   (refine Ja9 hG2 trivial (i:=16) rfl (by kernel_rfl) (by kernel_rfl) (by kernel_rfl) (fun K hK=>?_);go_simp;refine hK _ ?_;clear hK K)
   refine JaI (i:=17) (by kernel_rfl) ⟨_,rfl,?_⟩;intro w32 hw32 K hK;have bw32:=(hw32.block y (alt nw31)).trans nw31;have cw32:=ce bw32 8 rfl;have fw32:=fz bw32 8
   go_simp
   refine hK _ _ (fun _=>trivial) ?_;have nw32:=heap_setCell_same w32 y 8 _ _ (.bool false) bw32;have sw32:sameBut (w31.setCell ⟨y,6,none⟩ (.slice p2 n2 c2)) (w32.setCell ⟨y,8,none⟩ (.bool false)) (fun k=>k=y):=(Jai hw32 _).trans (Jaj (S:=fun k=>k=y) rfl);clear hK K cw32 fw32
   (refine Ja9 hG2 trivial (i:=18) rfl (by kernel_rfl) (by kernel_rfl) (by kernel_rfl) (fun K hK=>?_);go_simp;refine hK _ ?_;clear hK K)
   (refine Ja9 hG2 trivial (i:=19) rfl (by kernel_rfl) (by kernel_rfl) (by kernel_rfl) (fun K hK=>?_);go_simp;refine hK _ ?_;clear hK K)
   refine JaI (i:=20) (by kernel_rfl) ⟨_,rfl,?_⟩;intro w33 hw33 K hK;have bw33:=(hw33.block y (alt nw32)).trans nw32;have cw33:=ce bw33 7 rfl;have fw33:=fz bw33 7
   go_simp
   refine hK _ _ (fun _=>trivial) ?_;have nw33:=heap_setCell_same w33 y 7 _ _ (.slice none 0 0) bw33;have sw33:sameBut (w32.setCell ⟨y,8,none⟩ (.bool false)) (w33.setCell ⟨y,7,none⟩ (.slice none 0 0)) (fun k=>k=y):=(Jai hw33 _).trans (Jaj (S:=fun k=>k=y) rfl);clear hK K cw33 fw33
   (refine Ja9 hG2 trivial (i:=21) rfl (by kernel_rfl) (by kernel_rfl) (by kernel_rfl) (fun K hK=>?_);go_simp;refine hK _ ?_;clear hK K)
   (refine Ja9 hG2 trivial (i:=22) rfl (by kernel_rfl) (by kernel_rfl) (by kernel_rfl) (fun K hK=>?_);go_simp;refine hK _ ?_;clear hK K)
   refine JaI (i:=23) (by kernel_rfl) ⟨_,rfl,?_⟩;intro w34 hw34 K hK;have bw34:=(hw34.block y (alt nw33)).trans nw33;have cw34:=ce bw34 9 rfl;have fw34:=fz bw34 9
   go_simp
   refine hK _ _ (fun _=>trivial) ?_;have nw34:=heap_setCell_same w34 y 9 _ _ (.bool false) bw34;have sw34:sameBut (w33.setCell ⟨y,7,none⟩ (.slice none 0 0)) (w34.setCell ⟨y,9,none⟩ (.bool false)) (fun k=>k=y):=(Jai hw34 _).trans (Jaj (S:=fun k=>k=y) rfl);clear hK K cw34 fw34;refine JaA (by kernel_rfl) ?_;intro w35 hw35;have b35:=(hw35.block y (alt nw34)).trans nw34;have B35:=hdz b35;have SAME:Hid (sameBut v8 w35 fun k=>k=y):=HS1.out.trans ((Jai hb14 _).trans (sw31.trans (sw32.trans (sw33.trans (sw34.trans (Jai hw35 _))))));have d8:=ce b35 8 rfl;have d5:=ce b35 5 rfl;have g5:=fz b35 5;clear hb14 hz14 hw31 hw32 hw33 hw34 hw35 bw31 bw32 bw33 bw34 nw31 nw32 nw33 nw34 sw31 sw32 sw33 sw34 b35 hG2;go_wp2;go_ret;refine⟨rfl,?_⟩;rw[HS2.out];have o2:=HZ8.out.o2;rw[HA2.out]at o2;exact Jlk HLO.out HB8.out K8.out SAME.out B35.out (Jbb o2 SAME.out fun k _ hk=>by obtain rfl:=hk;exact⟨HLO.out,JaP K8.out (by decide)⟩) (JaG (JbS 0 _))
theorem Jm2(h:isRc lo w y who u S)(hk:okK 2000 S)(v:Value)(x:List Pt)(hx:opX lo w v x)(hsz:S.seen.length+Jal x<=500000)(hrv:0<=S.rev/\S.rev<=1000000)(ho:ordE x S.seen=0)(hm:S.mine≠[]){m1 m2:List Pt}(hms:S.mine=[m1,m2])(hid:0<=S.id/\S.id<=1000000)(hd:Jaa (JbP S) S.seen=Jaa x S.seen) :
    Calls Tryz.prog 50 #[.pointer (some ⟨y,0,none⟩),.int .i64 S.rev,.agg #[.int .i64 who,.int .i64 S.id,v]] w fun e w'=>e=.returned (.int .i64 0)/\isRc lo w' y who u { S with seen:=Jaa x S.seen,rev:=S.rev+1,mine:=S.mine.tail,id:=if S.mine.tail≠[] then S.id+1 else S.id }/\sameBut w w' fun k=>k=y:=by
 have hlt:=JeK h;obtain⟨hlo,v1,v2,h3,h4,h5⟩:=h;obtain⟨p1,c1,rfl⟩:=Ja0 h4;obtain⟨p2,c2,rfl⟩:=Ja0 h5;obtain⟨pv,cv,rfl⟩:=Ja0 hx;have hgx:=Jbs hk.text ho;obtain⟨hg0,hp0⟩:=Jdh hk hm;have hA:Jau S 0=JbP S:=by unfold Jau JbP;cases S.mine<;>rfl
 have H0:Hid _:=Jeb (c:=who) (i:=S.id) hlo h3 h4 h5 hx;have CA:Hid (∀wx,opAt wx (.slice pv x.length cv) x->Calls Tryz.prog 32 #[.slice pv x.length cv,.string ⟨S.seen.toArray⟩] wx fun e w'=>e=.returned (.tuple #[.string ⟨(Jaa x S.seen).toArray⟩,.int .i64 0])/\Below wx.heap.size wx w'):=fun wx hz=>by
  have hf:=hgx.fine (show S.seen.length+Jal x<1000000 by omega);have:=Jbd _ x S.seen wx hz (hgx.wf (show S.seen.length+Jal x<1000000 by omega)) (fun q hq=>by have:=JaH q _ hq;omega) (by omega) hf.len (by omega);rw[hgx.ord,if_pos rfl]at this;exact this
 have CM:Hid (∀wx,opAt wx (.slice p1 (Jau S 0).length c1) (Jau S 0)->Calls Tryz.prog 32 #[.slice p1 (Jau S 0).length c1,.string ⟨S.seen.toArray⟩] wx fun e w'=>e=.returned (.tuple #[.string ⟨(Jaa (Jau S 0) S.seen).toArray⟩,.int .i64 0])/\Below wx.heap.size wx w'):=fun wx hz=>by
  rw[←hA]at hg0 hp0;have hf:=hg0.fine (show S.seen.length+Jal (Jau S 0)<1000000 by omega);have:=Jbd _ (Jau S 0) S.seen wx hz (hg0.wf (show S.seen.length+Jal (Jau S 0)<1000000 by omega)) (fun q hq=>by have:=JaH q _ hq;omega) (by omega) hf.len (by omega);rw[hg0.ord,if_pos rfl]at this;exact this
 have HM8:Hid (decide (1<=S.mine.length)=true):=by show _=_;exact decide_eq_true (List.length_pos_iff.2 hm)
 rw[hA,hd]at CM;have HM9:Hid (decide (2<=S.mine.length)=true):=by show _=_;rw[hms];rfl
 have HA2:Hid (Jau S 1=m2):=by show _=_;unfold Jau;rw[hms];rfl
 have hrv1:wrap64 (S.rev+1)=S.rev+1:=Jax (by omega) (by omega);have hid1:wrap64 (S.id+1)=S.id+1:=Jax (by omega) (by omega);obtain⟨hrv0,hrv9⟩:=hrv;obtain⟨hid0,hid9⟩:=hid;obtain⟨S2,hS2⟩:∃S2,({ S with seen:=Jaa x S.seen,rev:=S.rev+1,mine:=S.mine.tail,id:=if S.mine.tail≠[] then S.id+1 else S.id }:Cl)=S2:=⟨_,rfl⟩;rw[hS2];generalize Jaa x S.seen=tx at *;rw[←hA]at CM;have HS2:Hid (S2 = { S with seen:=tx,rev:=S.rev+1,mine:=[m2],id:=S.id+1 }):=by show _=_;rw[←hS2,hms];rfl
 clear hS2 hd hms;generalize hxn:x.length=xn at *;generalize hn1:(Jau S 0).length=n1 at *;generalize hn2:(Jau S 1).length=n2 at *;have HLO:=hdz hlo;clear h3 h4 h5 hx hlo hsz hxn hn1 hn2 hgx hm hk ho hg0 hp0 hA;have HZ0B:Hid (Below w.heap.size w (w.alloc (.cells #[.int .i64 who,.int .i64 S.id,.slice pv xn cv] 103))):=(brf _ _).alloc (nlr _) _
 . skip
   go_enter Tryz.func50,Tryz.ntmps50
   have x4:(w.alloc (.cells #[.int .i64 who,.int .i64 S.id,.slice pv xn cv] 103)).cell? ⟨y,4,none⟩=some (.int .i64 S.rev):=(Jap H0.out.blk).2.2.2.2.1
   go_wp2_with (go_at_call 9999)
   refine wz (fun wx:World=>ZR lo y w.heap.size who u who S.id S (.slice p1 n1 c1) (.slice p2 n2 c2) (.slice pv xn cv) x wx) 12 H0.out ZR.grow fun w3 hb3 hz3 G hG=>?_;have e2:=fun y'=>ce (hG.but y').box 2 rfl;have y3:∀y',(G y').cell? ⟨y,3,none⟩=some (.string ⟨S.seen.toArray⟩):=fun y'=>(Jap (hG.but y').blk).2.2.2.1;(iterate 6 (refine ay hG hz3 fun _ k=>?_;go_simp;apply k;clear k))
   (refine ay hG hz3 fun K hK=>?_;go_simp;apply Exists.intro;refine⟨fun _=>?_,hK _ ?_⟩;exact CA.out _ (hG.but _).op.1;clear hK K)
   (iterate 5 (refine ay hG hz3 fun _ k=>?_;go_simp;apply k;clear k));clear e2 y3 hG;refine JaA (by kernel_rfl) ?_;intro v3 hv3;have HZ3:=hdz (ZR.grow hz3 hv3);have HB3:Hid (Below w.heap.size w v3):=HZ0B.out.trans ((hb3.trans (hv3.mono hb3.size)).mono HZ0B.out.size);have HZ3B:=hdz HB3;clear hb3 hv3 hz3;go_wp2;refine wz (fun wx:World=>ZR lo y w.heap.size who u who S.id S (.slice p1 n1 c1) (.slice p2 n2 c2) (.slice pv xn cv) x wx) 23 HZ3.out ZR.grow fun w6 hb6 hz6 G hG=>?_;have e0:=fun y'=>ce (hG.but y').box 0 rfl;have e1:=fun y'=>ce (hG.but y').box 1 rfl;have y0:∀y',(G y').cell? ⟨y,0,none⟩=some (.int .i64 who):=fun y'=>(Jap (hG.but y').blk).1;have y5:∀y',(G y').cell? ⟨y,5,none⟩=some (.int .i64 S.id):=fun y'=>(Jap (hG.but y').blk).2.2.2.2.2.1;have y8:∀y',(G y').cell? ⟨y,8,none⟩=some (.bool true):=fun y'=>by have:=(Jap (hG.but y').blk).2.2.2.2.2.2.2.2.1;rwa[HM8.out]at this
   (iterate 23 (refine ay hG hz6 fun _ k=>?_;go_simp;apply k;clear k));clear e0 e1 y0 y5 y8 hG;refine JaA (by kernel_rfl) ?_;intro v6 hv6;have HZ6:=hdz (ZR.grow hz6 hv6);have HB6:Hid (Below w.heap.size w v6):=HZ3B.out.trans ((hb6.trans (hv6.mono hb6.size)).mono HZ3B.out.size);have HZ6B:=hdz HB6;clear hb6 hv6 hz6;go_wp2;refine wz (fun wx:World=>ZR lo y w.heap.size who u who S.id S (.slice p1 n1 c1) (.slice p2 n2 c2) (.slice pv xn cv) x wx) 14 HZ6.out ZR.grow fun w8 hb8 hz8 G hG=>?_;have y6:∀y',(G y').cell? ⟨y,6,none⟩=some (.slice p1 n1 c1):=fun y'=>(Jap (hG.but y').blk).2.2.2.2.2.2.1;have y3:∀y',(G y').cell? ⟨y,3,none⟩=some (.string ⟨S.seen.toArray⟩):=fun y'=>(Jap (hG.but y').blk).2.2.2.1;(iterate 8 (refine ay hG hz8 fun _ k=>?_;go_simp;apply k;clear k))
   (refine ay hG hz8 fun K hK=>?_;go_simp;apply Exists.intro;refine⟨fun _=>?_,hK _ ?_⟩;exact CM.out _ (hG.but _).o1.1;clear hK K)
   (iterate 5 (refine ay hG hz8 fun _ k=>?_;go_simp;apply k;clear k));clear y6 y3 hG;refine JaA (by kernel_rfl) ?_;intro v8 hv8;have HZ8:=hdz (ZR.grow hz8 hv8);have HB8:Hid (Below w.heap.size w v8):=HZ6B.out.trans ((hb8.trans (hv8.mono hb8.size)).mono HZ6B.out.size);clear hb8 hv8 hz8;have k8:=HZ8.out.blk;have K8:=hdz k8;have k88:v8.heap[y]?=some (.cells #[.int .i64 who,.int .i64 u,.string ⟨S.doc.toArray⟩,.string ⟨S.seen.toArray⟩,.int .i64 S.rev,.int .i64 S.id,.slice p1 n1 c1,.slice p2 n2 c2,.bool true,.bool true,.int .i64 S.drops] 98 (0,0)):=by have h:=k8;unfold JbI at h;rw[HM8.out,HM9.out]at h;exact h
   have t3:=ce k88 3 rfl;have t4:=ce k88 4 rfl;have f3:=fz k88 3;have f4:=fz k88 4;have HS1:Hid (sameBut v8 ((v8.setCell ⟨y,3,none⟩ (.string ⟨tx.toArray⟩)).setCell ⟨y,4,none⟩ (.int .i64 (S.rev+1))) fun k=>k=y):=(Jaj (S:=fun k=>k=y) rfl).trans (Jaj (S:=fun k=>k=y) rfl);have HB1:Hid (((v8.setCell ⟨y,3,none⟩ (.string ⟨tx.toArray⟩)).setCell ⟨y,4,none⟩ (.int .i64 (S.rev+1))).heap[y]?=some (.cells #[.int .i64 who,.int .i64 u,.string ⟨S.doc.toArray⟩,.string ⟨tx.toArray⟩,.int .i64 (S.rev+1),.int .i64 S.id,.slice p1 n1 c1,.slice p2 n2 c2,.bool true,.bool true,.int .i64 S.drops] 98 (0,0))):=heap_setCell_same _ y 4 _ _ (.int .i64 (S.rev+1)) (heap_setCell_same v8 y 3 _ _ (.string ⟨tx.toArray⟩) k88);clear k8 k88
   go_wp2_with (go_at_call 9999)
   refine wz (fun _:World=>True) 24 trivial (fun _ _=>trivial) fun w14 hb14 _ G2 hG2=>?_
   (refine Ja9 hG2 trivial (i:=0) rfl (by kernel_rfl) (by kernel_rfl) (by kernel_rfl) (fun K hK=>?_);go_simp;refine hK _ ?_;clear hK K)
   (refine Ja9 hG2 trivial (i:=1) rfl (by kernel_rfl) (by kernel_rfl) (by kernel_rfl) (fun K hK=>?_);go_simp;refine hK _ ?_;clear hK K)
   (refine Ja9 hG2 trivial (i:=2) rfl (by kernel_rfl) (by kernel_rfl) (by kernel_rfl) (fun K hK=>?_);go_simp;refine hK _ ?_;clear hK K)
   (refine Ja9 hG2 trivial (i:=3) rfl (by kernel_rfl) (by kernel_rfl) (by kernel_rfl) (fun K hK=>?_);go_simp;refine hK _ ?_;clear hK K)
   (refine Ja9 hG2 trivial (i:=4) rfl (by kernel_rfl) (by kernel_rfl) (by kernel_rfl) (fun K hK=>?_);go_simp;refine hK _ ?_;clear hK K)
   (refine Ja9 hG2 trivial (i:=5) rfl (by kernel_rfl) (by kernel_rfl) (by kernel_rfl) (fun K hK=>?_);go_simp;refine hK _ ?_;clear hK K)
   (refine Ja9 hG2 trivial (i:=6) rfl (by kernel_rfl) (by kernel_rfl) (by kernel_rfl) (fun K hK=>?_);go_simp;refine hK _ ?_;clear hK K)
   (refine Ja9 hG2 trivial (i:=8) rfl (by kernel_rfl) (by kernel_rfl) (by kernel_rfl) (fun K hK=>?_);go_simp;refine hK _ ?_;clear hK K)
   (refine Ja9 hG2 trivial (i:=9) rfl (by kernel_rfl) (by kernel_rfl) (by kernel_rfl) (fun K hK=>?_);go_simp;refine hK _ ?_;clear hK K)
   (refine Ja9 hG2 trivial (i:=10) rfl (by kernel_rfl) (by kernel_rfl) (by kernel_rfl) (fun K hK=>?_);go_simp;refine hK _ ?_;clear hK K)
   refine Ji1 (Z:=fun wx:World=>wx.heap[y]?=some (.cells #[.int .i64 who,.int .i64 u,.string ⟨S.doc.toArray⟩,.string ⟨tx.toArray⟩,.int .i64 (S.rev+1),.int .i64 S.id,.slice p1 n1 c1,.slice p2 n2 c2,.bool true,.bool true,.int .i64 S.drops] 98 (0,0))) (m:=12) _ _ _ _ ?_;have hz14:w14.heap[y]?=some (.cells #[.int .i64 who,.int .i64 u,.string ⟨S.doc.toArray⟩,.string ⟨tx.toArray⟩,.int .i64 (S.rev+1),.int .i64 S.id,.slice p1 n1 c1,.slice p2 n2 c2,.bool true,.bool true,.int .i64 S.drops] 98 (0,0)):=(hb14.block y (alt HB1.out)).trans HB1.out;obtain⟨G,hG⟩:=Jdk (Z:=fun wx:World=>wx.heap[y]?=some (.cells #[.int .i64 who,.int .i64 u,.string ⟨S.doc.toArray⟩,.string ⟨tx.toArray⟩,.int .i64 (S.rev+1),.int .i64 S.id,.slice p1 n1 c1,.slice p2 n2 c2,.bool true,.bool true,.int .i64 S.drops] 98 (0,0))) hz14 (fun {w w'} h hb=>(hb.block y (alt h)).trans h);have y7:∀z,(G z).cell? ⟨y,7,none⟩=some (.slice p2 n2 c2):=fun z=>chp (hG.but z) 7;have y9:∀z,(G z).cell? ⟨y,9,none⟩=some (.bool true):=fun z=>chp (hG.but z) 9
   (refine Jf0 hG hz14 (i:=7) rfl (by kernel_rfl) (by kernel_rfl) (by kernel_rfl) (fun K hK=>?_);go_simp;refine hK _ ?_;clear hK K)
   (refine Jf0 hG hz14 (i:=11) rfl (by kernel_rfl) (by kernel_rfl) (by kernel_rfl) (fun K hK=>?_);go_simp;refine hK _ ?_;clear hK K)
   clear y7 y9 hG;refine JgV (by kernel_rfl) ?_
   (refine Ja9 hG2 trivial (i:=12) rfl (by kernel_rfl) (by kernel_rfl) (by kernel_rfl) (fun K hK=>?_);go_simp;refine hK _ ?_;clear hK K)
   (refine Ja9 hG2 trivial (i:=13) rfl (by kernel_rfl) (by kernel_rfl) (by kernel_rfl) (fun K hK=>?_);go_simp;refine hK _ ?_;clear hK K)
   refine JaI (i:=14) (by kernel_rfl) ⟨_,rfl,?_⟩;intro w31 hw31 K hK;have bw31:=(hw31.block y (alt hz14)).trans hz14;have cw31:=ce bw31 6 rfl;have fw31:=fz bw31 6
   go_simp
   refine hK _ _ (fun _=>trivial) ?_;have nw31:=heap_setCell_same w31 y 6 _ _ (.slice p2 n2 c2) bw31;have sw31:sameBut w14 (w31.setCell ⟨y,6,none⟩ (.slice p2 n2 c2)) (fun k=>k=y):=(Jai hw31 _).trans (Jaj (S:=fun k=>k=y) rfl);clear hK K cw31 fw31
   (refine Ja9 hG2 trivial (i:=15) rfl (by kernel_rfl) (by kernel_rfl) (by kernel_rfl) (fun K hK=>?_);go_simp;refine hK _ ?_;clear hK K)
   (refine Ja9 hG2 trivial (i:=16) rfl (by kernel_rfl) (by kernel_rfl) (by kernel_rfl) (fun K hK=>?_);go_simp;refine hK _ ?_;clear hK K)
   refine JaI (i:=17) (by kernel_rfl) ⟨_,rfl,?_⟩;intro w32 hw32 K hK;have bw32:=(hw32.block y (alt nw31)).trans nw31;have cw32:=ce bw32 8 rfl;have fw32:=fz bw32 8
   go_simp
   refine hK _ _ (fun _=>trivial) ?_;have nw32:=heap_setCell_same w32 y 8 _ _ (.bool true) bw32;have sw32:sameBut (w31.setCell ⟨y,6,none⟩ (.slice p2 n2 c2)) (w32.setCell ⟨y,8,none⟩ (.bool true)) (fun k=>k=y):=(Jai hw32 _).trans (Jaj (S:=fun k=>k=y) rfl);clear hK K cw32 fw32
   (refine Ja9 hG2 trivial (i:=18) rfl (by kernel_rfl) (by kernel_rfl) (by kernel_rfl) (fun K hK=>?_);go_simp;refine hK _ ?_;clear hK K)
   (refine Ja9 hG2 trivial (i:=19) rfl (by kernel_rfl) (by kernel_rfl) (by kernel_rfl) (fun K hK=>?_);go_simp;refine hK _ ?_;clear hK K)
   refine JaI (i:=20) (by kernel_rfl) ⟨_,rfl,?_⟩;intro w33 hw33 K hK;have bw33:=(hw33.block y (alt nw32)).trans nw32;have cw33:=ce bw33 7 rfl;have fw33:=fz bw33 7
   go_simp
   refine hK _ _ (fun _=>trivial) ?_;have nw33:=heap_setCell_same w33 y 7 _ _ (.slice none 0 0) bw33;have sw33:sameBut (w32.setCell ⟨y,8,none⟩ (.bool true)) (w33.setCell ⟨y,7,none⟩ (.slice none 0 0)) (fun k=>k=y):=(Jai hw33 _).trans (Jaj (S:=fun k=>k=y) rfl);clear hK K cw33 fw33
   (refine Ja9 hG2 trivial (i:=21) rfl (by kernel_rfl) (by kernel_rfl) (by kernel_rfl) (fun K hK=>?_);go_simp;refine hK _ ?_;clear hK K)
   (refine Ja9 hG2 trivial (i:=22) rfl (by kernel_rfl) (by kernel_rfl) (by kernel_rfl) (fun K hK=>?_);go_simp;refine hK _ ?_;clear hK K)
   refine JaI (i:=23) (by kernel_rfl) ⟨_,rfl,?_⟩;intro w34 hw34 K hK;have bw34:=(hw34.block y (alt nw33)).trans nw33;have cw34:=ce bw34 9 rfl;have fw34:=fz bw34 9
   go_simp
   refine hK _ _ (fun _=>trivial) ?_;have nw34:=heap_setCell_same w34 y 9 _ _ (.bool false) bw34;have sw34:sameBut (w33.setCell ⟨y,7,none⟩ (.slice none 0 0)) (w34.setCell ⟨y,9,none⟩ (.bool false)) (fun k=>k=y):=(Jai hw34 _).trans (Jaj (S:=fun k=>k=y) rfl);clear hK K cw34 fw34;refine JaA (by kernel_rfl) ?_;intro w35 hw35;have b35:=(hw35.block y (alt nw34)).trans nw34;have B35:=hdz b35;have SAME:Hid (sameBut v8 w35 fun k=>k=y):=HS1.out.trans ((Jai hb14 _).trans (sw31.trans (sw32.trans (sw33.trans (sw34.trans (Jai hw35 _))))));have d8:=ce b35 8 rfl;have d5:=ce b35 5 rfl;have g5:=fz b35 5;clear hb14 hz14 hw31 hw32 hw33 hw34 hw35 bw31 bw32 bw33 bw34 nw31 nw32 nw33 nw34 sw31 sw32 sw33 sw34 b35 hG2;go_wp2;go_ret;refine⟨rfl,?_⟩;rw[HS2.out];have o2:=HZ8.out.o2;rw[HA2.out]at o2;have b36:=heap_setCell_same w35 y 5 _ _ (.int .i64 (S.id+1)) B35.out;have hT:=SAME.out.trans (Jaj (w:=w35) (S:=fun k=>k=y) (b:=y) (o:=5) (v:=.int .i64 (S.id+1)) rfl);exact Jlk HLO.out HB8.out K8.out hT b36 (Jbb o2 hT fun k _ hk=>by obtain rfl:=hk;exact⟨HLO.out,JaP K8.out (by decide)⟩) (JaG (JbS 0 _))
end
end Go.Proofs.YtedgnlgjmnccgabGreatDoor
