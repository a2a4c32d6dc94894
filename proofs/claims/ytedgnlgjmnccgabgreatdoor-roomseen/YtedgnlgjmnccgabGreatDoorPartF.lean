/-
  A part of the texts that the proof uses.
-/
import Derived.Test.YtedgnlgjmnccgabGreatDoorPartE
import Derived.Test.YtedgnlgjmnccgabGreatDoorPartB
import Derived.Test.YtedgnlgjmnccgabGreatDoorPartC
set_option maxRecDepth 100000
set_option maxHeartbeats 40000000
set_option linter.unusedVariables false
namespace Go.Proofs.YtedgnlgjmnccgabGreatDoor
section
open Go.RowKit
attribute [local go_sem] Oper.semAt_some
theorem infoE1:(Tryz.prog.info? 5).map (fun i=>(i.zero,i.size,i.bytes))=some (some (.int .u8 0),1,1):=by kernel_rfl
theorem JoW(b:Nat)(p:Option Addr)(n c:Nat)(R:List Nat)(qs:List Pt)(v:Value)(w:World)(hT:Lib.Utf8Tabs 2 3 w)(hR:∀r∈R,Jaw r)(hcell:w.cell? ⟨b,1,none⟩=some (.slice p n c))(hsl:sl w .u8 p n c (rowZ 1 R))(hr:opAt w v qs)(hc:chkE qs (by_ 1 R)=0)(hl:qs.length<=1000)(hz:C1 R<=1000000)(hpl:∀q∈qs,q.put.length<=1000000)(hno:plE 1 R qs≠0) :
    Calls Tryz.prog 93 #[.pointer (some ⟨b,1,none⟩),v,.func (.func 94) #[] #[],.func (.func 95) #[] #[]] w fun e w'=>e=.returned (errV (plE 1 R qs))/\Below w.heap.size w w':=by
 have cS:Hid _:=Jkn p n c R qs v w hT hR hsl hr hc hl hz hpl;obtain⟨hop,cop,rfl,_⟩:=hr
 rcases pl_no hno with ⟨e1,e2,e3⟩|⟨e1,e2,e3,e4⟩
 . rw [e1,e2]at cS
   rw[e3];clear hT hR hsl hc hl hz hpl hno e1 e2 e3
   go_enter Tryz.func93,Tryz.ntmps93
   go_wp2_with (first
    | (go_at_call 159;refine Calls.mono cS.out ?_;rw[Jmd];rintro e w1 ⟨rfl,hb1⟩)
    | fail)
   go_ret;exact⟨rfl,hb1⟩
 . rw [e1,e2]at cS
   rw[e3];generalize C1 (Ja4 1 R qs)=Z at cS e4;clear hT hR hsl hc hl hz hpl hno e1 e2 e3
   go_enter Tryz.func93,Tryz.ntmps93
   go_wp2_with (first
    | (go_at_call 159;refine Calls.mono cS.out ?_;rw[Jd9];rintro e w1 ⟨rfl,hb1⟩)
    | fail)
   go_ret;exact⟨rfl,hb1⟩
theorem Jn3(b:Nat)(p:Option Addr)(n c:Nat)(R:List Nat)(qs:List Pt)(v:Value)(w:World)(hT:Lib.Utf8Tabs 2 3 w)(hR:∀r∈R,Jaw r)(hcell:w.cell? ⟨b,1,none⟩=some (.slice p n c))(hfz:w.frozen? ⟨b,1,none⟩=false)(hsl:sl w .u8 p n c (rowZ 1 R))(hr:opAt w v qs)(hc:chkE qs (by_ 1 R)=0)(hl:qs.length<=1000)(hz:C1 R<=1000000)(hpl:∀q∈qs,q.put.length<=1000000)(hok:okZ 1 R qs=true)(hsm:C1 (Ja4 1 R qs)<=8000) :
    Calls Tryz.prog 93 #[.pointer (some ⟨b,1,none⟩),v,.func (.func 94) #[] #[],.func (.func 95) #[] #[]] w fun e w'=>e=.returned .nilIface/\∃W p' n' c',Below w.heap.size w W/\w'=W.setCell ⟨b,1,none⟩ (.slice p' n' c')/\sl W .u8 p' n' c' (rowZ 1 (Ja4 1 R qs))/\∀a,p'=some a->w.heap.size<=a.block:=by
 have hu:Ja3 1:=by unfold Ja3;omega
 obtain⟨hp1,hp2,hp3⟩:=JbZ hc;have cS:Hid (Calls Tryz.prog 159 #[.slice p n c,v,.func (.func 94) #[] #[]] w fun e w'=>e=.returned (.tuple #[.int .i64 (C1 (Ja4 1 R qs)),.nilIface])/\Below w.heap.size w w'):=by
  have:=Jkn p n c R qs v w hT hR hsl hr hc hl hz hpl;unfold szV szE at this;rw[hok,if_pos rfl,if_pos rfl,Jd9]at this;exact this
 have hbw0:=blt w _ hcell;have hbw0:b<w.heap.size:=hbw0;have HU:Hid (Ja3 1):=hu;have HOP:Hid (opAt w v qs):=hr;have HP1:Hid (∀p∈qs,oneB p=true/\(scan p.put).2=true):=hp1;have HPL:Hid (∀q∈qs,q.put.length<=1000000):=hpl;have HCE:Hid (w.cell? ⟨b,1,none⟩=some (.slice p n c)):=hcell;have HFZ:Hid (w.frozen? ⟨b,1,none⟩=false):=hfz;have HST:Hid (∀w1,Below w.heap.size w w1->plI w 5 1 .u8 R qs 0 (.slice none 0 0) (.slice p n c) w1):=fun w1 hb=>Jhq hz hsl hR hp2 hok hb
 have hC0:=JdM (Ja4 1 R qs);have HSM:Hid (C1 (Ja4 1 R qs)<=8000):=hsm;obtain⟨Z,hZ⟩:∃Z,C1 (Ja4 1 R qs)=Z:=⟨_,rfl⟩;rw[hZ]at cS hsm hC0;obtain⟨pq,cq,rfl,r1,r2,r3⟩:=hr;unfold maxLen at r2;obtain⟨N,hN⟩:∃N,qs.length=N:=⟨_,rfl⟩;rw[hN]at r1 hl cS ⊢;have HN:Hid (qs.length=N):=hN;have hN0:(N:Int)<=1000:=by omega
 obtain⟨i0,hi,hz0,hz1,hz2⟩:=info_parts infoE1;clear hT hR hsl hc hp1 hp2 hp3 r3 hz hpl hu hN hok hZ hfz
 go_enter Tryz.func93,Tryz.ntmps93
 go_wp2_with (first
  | (go_at_call 159;refine Calls.mono cS.out ?_;rintro e w1 ⟨rfl,hb1⟩;have HB1:=hdz hb1;have hc1:w1.cell? ⟨b,1,none⟩=some (.slice p n c):=(hb1.cell (p:=⟨b,1,none⟩) hbw0).trans HCE.out;clear hb1 hcell)
  | fail)
 have HI:Hid (plI w 5 1 .u8 R qs 0 (.slice none 0 0) (.slice p n c) w1):=HST.out w1 HB1.out;clear hc1 HST cS HB1 hsm hC0
 go_loopw [11,12,35] (fun v11 v12 i wr=>∃x:Nat,i=.int .i64 x/\plI w 5 1 .u8 R qs x v11 v12 wr) (fun _ _ i _=>N - (intOf i).toNat)
 case atStart=>exact⟨0,rfl,HI.out⟩
 case round =>
  obtain⟨x,rfl,hst⟩:=hrel;obtain⟨L,p',n',c',R',hown,rfl,hsl,hR',hlong,hok,hcome,hCR,hx,hbw,hsz⟩:=hst;obtain⟨p11,c11,rfl⟩:=Jad hown;clear HI
  by_cases hlt:x<N
  . have hxr:x<qs.length:=by rw[HN.out];exact hlt
    have hne:qs≠[]:=by intro e;rw[e]at hxr;exact absurd hxr (Nat.not_lt_zero _)
    obtain⟨p0,c0,hvv,_,_,hcell⟩:=HOP.out;obtain⟨b0,o,rfl,hb0,hcell⟩:=hcell hne;obtain⟨f0,f1,f2⟩:=hcell x qs[x] (lgg hxr);have g0:=(hbw.cell (p:=⟨b0,o+x*3,none⟩) hb0).trans f0;have g1:=(hbw.cell (p:=⟨b0,o+x*3+1,none⟩) hb0).trans f1;have g2:=(hbw.cell (p:=⟨b0,o+x*3+2,none⟩) hb0).trans f2;obtain rfl:pq=some ⟨b0,o,none⟩:=by injection hvv
    clear hvv hcell f0 f1 f2 hne;have hq:=HP1.out _ (List.getElem_mem hxr);have hputl:=HPL.out _ (List.getElem_mem hxr);have hdk:qs.drop x=qs[x] :: qs.drop (x+1):=List.drop_eq_getElem_cons hxr;have hstep:=JfW HU.out hdk hq (fun y hy=>HP1.out y (List.mem_of_mem_drop hy)) hsl hR' hlong hCR;rw[hdk]at hok hcome;have HOK:Hid (okZ 1 R' (qs[x] :: qs.drop (x+1))=true):=hok;have HCOME:Hid (Ja4 1 R qs=L++Ja4 1 R' (qs[x] :: qs.drop (x+1))):=hcome;have HBW:=hdz hbw;have HSZ:Hid (w.heap.size<=wr.heap.size):=hsz;have HX:Hid (x<qs.length):=hxr;have HSL:Hid (sl w .u8 p' n' c' (rowZ 1 R')):=hsl;have HR':Hid (∀r∈R',Jaw r):=hR';have HCR:Hid (C1 R'<=1000000):=hCR;have HOWN:Hid (wr.ownsRow w.heap.size 5 1 (.slice p11 (rowZ 1 L).length c11) (rowZ 1 L).length ((rowZ 1 L).map (Value.int .u8))):=hown;clear hok hcome hbw hsl hR' hlong hdk hown hsz;generalize qs[x]=q at *;obtain⟨K,D,U⟩:=q;simp only at g0 g1 g2 hputl;have hK0:0<=K:=hstep.k0;have hD0:0<=D:=hstep.d0;have hKD:K+D<=(n':Int):=hstep.le;obtain⟨hcc,hcm,hnn⟩:=Jiv HSL.out;unfold maxLen at hcm;have hUz:(ByteArray.mk U.toArray).size=U.length:=by simp[ByteArray.size]
    obtain⟨M,hM⟩:∃M:Nat,K+D=(M:Int):=⟨(K+D).toNat,by omega⟩;obtain⟨Kn,rfl⟩:∃Kn:Nat,K=(Kn:Int):=⟨K.toNat,by omega⟩;have hMn:M<=n':=by omega
    have hKn:Kn<=n':=by omega
    have he:JaU R' 1 ((Kn:Int)+D)=true:=by
     have:=HOK.out;unfold okZ at this;rw[Bool.and_eq_true]at this;exact this.1
    have hsg:=JcN HU.out hstep HR'.out HCR.out he;obtain⟨hpX,hX1,hX2,hX3,hX4,hX5,hX6,hX7,_⟩:=hsg;have hMt:((Kn:Int)+D).toNat=M:=by omega
    rw[hMt]at hpX hX3;obtain⟨Y,hY⟩:∃Y,(if 0<(Kn:Int) then upTo R' 1 ((Kn:Int)+D) else [])=Y:=⟨_,rfl⟩;have hrowY:(rowZ 1 R').take Kn=rowZ 1 Y:=JlH hq.1 hM hY hpX;have hcomes:Ja4 1 R qs=(L++Y++Jal U)++Ja4 1 (Jbb 1 R' ((Kn:Int)+D)) (qs.drop (x+1)):=by
     rw[HCOME.out];show L++(((if 0<(Kn:Int) then upTo R' 1 ((Kn:Int)+D) else [])++Jal U)++_)=_;rw[hY];simp only[List.append_assoc];rfl
    have hlens:=JlG HU.out HSM.out hcomes;have HROW:Hid ((rowZ 1 L).map (Value.int .u8)++(rowZ 1 Y).map (Value.int .u8)++(rowZ 1 (Jal U)).map (Value.int .u8)=(rowZ 1 (L++Y++Jal U)).map (Value.int .u8)):=by
     show _=_;rw[Jbm,Jbm,List.map_append,List.map_append]
    have HLN:Hid ((rowZ 1 (L++Y++Jal U)).length=(rowZ 1 L).length+Kn+(rowZ 1 (Jal U)).length):=by
     show _=_;have:(rowZ 1 Y).length=Kn:=by rw[←hrowY,List.length_take];omega
     rw[Jbm,Jbm,List.length_append,List.length_append,this]
    have HPC:Hid (sl w .u8 p' Kn c' (rowZ 1 Y)):=by
     show sl w .u8 p' Kn c' (rowZ 1 Y);rw[←hrowY];exact JfY HSL.out hKn
    have HNEXT:Hid (∀(v:Value) (pp:Option Addr) (nn cc:Nat) wn,wn.ownsRow w.heap.size 5 1 v ((rowZ 1 (L++Y++Jal U)).length) ((rowZ 1 (L++Y++Jal U)).map (Value.int .u8))->sl w .u8 pp nn cc (rowZ 1 (Jbb 1 R' ((Kn:Int)+D)))->Below w.heap.size w wn->plI w 5 1 .u8 R qs (x+1) v (.slice pp nn cc) wn) :=
     fun v pp nn cc wn h1 h2 h3=>⟨_,pp,nn,cc,_,h1,rfl,h2,hX4,hX5,hX7.symm.trans HOK.out,hcomes,hX6,HX.out,h3,h3.size⟩
    have HX3:Hid ((rowZ 1 R').drop M=rowZ 1 (Jbb 1 R' ((Kn:Int)+D))):=hX3;have cP:Hid (∀wx,Below w.heap.size w wx->Calls Tryz.prog 95 #[.string ⟨U.toArray⟩] wx fun e w'=>∃p n c,e=.returned (.slice p n c)/\sl w' .u8 p n c (rowZ 1 (Jal U))/\Below wx.heap.size wx w'):=fun wx hb=>Jq2 U hq.2 hputl wx
    obtain⟨hl1,hl2,hl3⟩:=hlens;have hxlN:(x:Int)<(N:Int):=by omega
    have hYl:(rowZ 1 Y).length=Kn:=by rw[←hrowY,List.length_take];omega
    obtain⟨LL,hLL⟩:∃LL,(rowZ 1 L).length=LL:=⟨_,rfl⟩;obtain⟨UL,hUL⟩:∃UL,(rowZ 1 (Jal U)).length=UL:=⟨_,rfl⟩;rw[hLL]at hl1 HOWN HLN ⊢;rw[hYl]at hl2;rw[hUL]at hl3 HLN;have HUL:Hid ((rowZ 1 (Jal U)).length=UL):=hUL;clear hstep hnn hxr hpX hX1 hX2 hX3 hX4 hX5 hX6 hX7 he hrowY hcomes hY hq hM hLL hUL hYl HOK
    go_wp2_with (first
     | (at_builtin;refine JbC _ rfl _ _ 158 rfl w.heap.size 5 i0 (.int .u8 0) 1 Tryz.underlying158 hi hz0 hz1 hz2 rfl _ _ _ rfl (HOWN.out.alloc _) .u8 p' Kn c' (rowZ 1 Y) rfl (Jb7 HPC.out (HBW.out.alloc HSZ.out _) (nlr _)) (by unfold maxLen;omega) (by omega) (by have:=HSZ.out;simp;omega) ?_)
     | fail)
    intro v' w2 hown' hg';obtain⟨p12,c12,rfl⟩:=Jad hown';have hbox:w2.heap[wr.heap.size]?=some (.cells #[.int .i64 (Kn:Int),.int .i64 D,.string ⟨U.toArray⟩] 50 (0,0)):=Jdn (heap_alloc_new _ _) (HOWN.out.alloc _) hg' (by intro c fz e;cases e);have x0:w2.cell? ⟨wr.heap.size,0,none⟩=some (.int .i64 (Kn:Int)):=chp hbox 0;have x1:w2.cell? ⟨wr.heap.size,1,none⟩=some (.int .i64 D):=chp hbox 1;have x2:w2.cell? ⟨wr.heap.size,2,none⟩=some (.string ⟨U.toArray⟩):=chp hbox 2;have HBOX:Hid (w2.heap[wr.heap.size]?=some (.cells #[.int .i64 (Kn:Int),.int .i64 D,.string ⟨U.toArray⟩] 50 (0,0))):=hbox;have HO2:Hid (w2.ownsRow w.heap.size 5 1 (.slice p12 (LL+Kn) c12) (LL+Kn) ((rowZ 1 L).map (Value.int .u8)++(rowZ 1 Y).map (Value.int .u8))):=hown';have HBW2:Hid (Below w.heap.size w w2):=(HBW.out.alloc HSZ.out _).grown hg' (by rw[wsa];have:=HSZ.out;omega) fun k hk=>(HOWN.out.lt k hk).1
    have hsz2:wr.heap.size+1<=w2.heap.size:=by have:=hg'.size;rwa[World.size_alloc]at this
    have HSZ2:Hid (wr.heap.size+1<=w2.heap.size):=hsz2;clear hbox hown' hg' HOWN HPC HBW g0 g1 g2
    go_wp2_with (first
     | (go_at_call 95;refine(cP.out _ HBW2.out).mono ?_;rintro e w3 ⟨pz,nz,cz,rfl,hs3,hb3⟩;have HS3:Hid (sl w3 .u8 pz nz cz (rowZ 1 (Jal U))):=hs3;have hnz:nz=UL:=by rw[hs3.1];exact HUL.out
        have HO3:Hid (w3.ownsRow w.heap.size 5 1 (.slice p12 (LL+Kn) c12) (LL+Kn) ((rowZ 1 L).map (Value.int .u8)++(rowZ 1 Y).map (Value.int .u8))):=Jaj HO2.out hb3;have HBW3:Hid (Below w.heap.size w w3):=HBW2.out.trans (hb3.mono HBW2.out.size);have hbox:w3.heap[wr.heap.size]?=some (.cells #[.int .i64 (Kn:Int),.int .i64 D,.string ⟨U.toArray⟩] 50 (0,0)):=(hb3.block wr.heap.size (by have:=HSZ2.out;omega)).trans HBOX.out;have HBOX3:Hid (w3.heap[wr.heap.size]?=some (.cells #[.int .i64 (Kn:Int),.int .i64 D,.string ⟨U.toArray⟩] 50 (0,0))):=hbox;subst hnz
        clear hs3 hb3 hbox x0 x1 x2)
     | (at_builtin;refine JbC _ rfl _ _ 158 rfl w.heap.size 5 i0 (.int .u8 0) 1 Tryz.underlying158 hi hz0 hz1 hz2 rfl _ _ _ rfl HO3.out .u8 pz nz cz (rowZ 1 (Jal U)) rfl HS3.out (by unfold maxLen;omega) (by omega) HBW3.out.size ?_)
     | fail)
    intro v' w4 hown' hg';obtain⟨p14,c14,rfl⟩:=Jad hown';have hbox:w4.heap[wr.heap.size]?=some (.cells #[.int .i64 (Kn:Int),.int .i64 D,.string ⟨U.toArray⟩] 50 (0,0)):=Jdn HBOX3.out HO3.out hg' (by intro c fz e;cases e);have x0:w4.cell? ⟨wr.heap.size,0,none⟩=some (.int .i64 (Kn:Int)):=chp hbox 0;have x1:w4.cell? ⟨wr.heap.size,1,none⟩=some (.int .i64 D):=chp hbox 1;rw[←List.append_assoc]at hown';have HO4:Hid (w4.ownsRow w.heap.size 5 1 (.slice p14 (LL+Kn+nz) c14) (LL+Kn+nz) ((rowZ 1 L).map (Value.int .u8)++(rowZ 1 Y).map (Value.int .u8)++(rowZ 1 (Jal U)).map (Value.int .u8))):=hown';have HBW4:Hid (Below w.heap.size w w4):=HBW3.out.grown hg' HBW3.out.size fun k hk=>(HO3.out.lt k hk).1
    clear hbox hown' hg' HO3 HS3 HBW3 HBOX3 HBOX;go_wp2;refine⟨⟨x+1,by go_num,?_⟩,by simp[intOf];omega⟩;have hs5:=Jf2 HSL.out hMn;rw[HX3.out]at hs5;refine HNEXT.out _ _ _ _ _ ?_ hs5 HBW4.out;have ho4:=HO4.out;rw[HROW.out,←HLN.out]at ho4;rw[←HLN.out];exact ho4
  . obtain rfl:x=N:=by have:=HN.out;omega
    have hxlN:¬((x:Int)<(x:Int)):=by omega
    rw[←HN.out,List.drop_length]at hcome;have HE:Hid (Ja4 1 R qs=L):=by show _=_;rw[hcome];exact List.append_nil _
    have HBW:=hdz hbw;have HOWN:Hid (wr.ownsRow w.heap.size 5 1 (.slice p11 (rowZ 1 L).length c11) (rowZ 1 L).length ((rowZ 1 L).map (Value.int .u8))):=hown;have hc2:wr.cell? ⟨b,1,none⟩=some (.slice p n c):=(hbw.cell (p:=⟨b,1,none⟩) hbw0).trans HCE.out;have hf2:wr.frozen? ⟨b,1,none⟩=false:=(hbw.frozen (p:=⟨b,1,none⟩) hbw0).trans HFZ.out;clear hok hcome hsl hR' hlong hbw hown hsz hlt;go_wp2;go_ret;obtain⟨p2,c2,e2,s2⟩:=Jkk rfl HOWN.out;injection e2 with e2 e3 e4
    subst e2 e4;refine⟨rfl,?_⟩;exact⟨wr,HBW.out,p11,_,c11,rfl,by rw[HE.out];exact s2,fun a ha=>(HOWN.out.lt a.block (by rw[ha];rfl)).1⟩
theorem Jkm(p:Option Addr)(n c:Nat)(R:List Nat)(qs:List Pt)(v:Value)(w:World)(hT:Lib.Utf8Tabs 2 3 w)(hR:∀r∈R,Jaw r)(hsl:sl w .u16 p n c (rowZ 2 R))(hr:opAt w v qs)(hc:chkE qs (by_ 2 R)=0)(hl:qs.length<=1000)(hz:C1 R<=1000000)(hpl:∀q∈qs,q.put.length<=1000000) :
    Calls Tryz.prog 160 #[.slice p n c,v,.func (.func 97) #[] #[]] w fun e w'=>e=.returned (.tuple #[.int .i64 (szV 2 R qs),errV (szE 2 R qs)])/\Below w.heap.size w w':=by
 have hu:Ja3 2:=by unfold Ja3;omega
 obtain⟨hp1,hp2,hp3⟩:=JbZ hc;have HU:Hid (Ja3 2):=hu;have HT:Hid (Lib.Utf8Tabs 2 3 w):=hT;have HOP:Hid (opAt w v qs):=hr;have HP1:Hid (∀p∈qs,oneB p=true/\(scan p.put).2=true):=hp1;have HPL:Hid (∀q∈qs,q.put.length<=1000000):=hpl;have HST:Hid (szI w 2 .u16 R qs 0 (.int .i64 0) (.slice p n c) w):=Jhi hz hsl hR hp2;obtain⟨pq,cq,rfl,r1,r2,r3⟩:=hr;unfold maxLen at r2;obtain⟨N,hN⟩:∃N,qs.length=N:=⟨_,rfl⟩;rw[hN]at r1 hl ⊢;have HN:Hid (qs.length=N):=hN;have hN0:(N:Int)<=1000:=by omega
 clear hT hR hsl hc hp1 hp2 hp3 r3 hz hpl hu hN
 go_enter Tryz.func160,Tryz.ntmps160
 go_wp2
 go_loopw [8,9,18] (fun v8 v9 i wr=>∃x:Nat,i=.int .i64 x/\szI w 2 .u16 R qs x v8 v9 wr) (fun _ _ i _=>N - (intOf i).toNat)
 case atStart=>exact⟨0,rfl,HST.out⟩
 case round =>
  obtain⟨x,rfl,hst⟩:=hrel;obtain⟨S,p',n',c',R',rfl,rfl,hsl,hR',hlong,hok,hcome,hS0,hS1,hCR,hx,hbw⟩:=hst;clear HST
  by_cases hlt:x<N
  . have hxr : x<qs.length:=by rw[HN.out];exact hlt
    have hne:qs≠[]:=by intro e;rw[e]at hxr;exact absurd hxr (Nat.not_lt_zero _)
    obtain⟨p0,c0,hvv,_,_,hcell⟩:=HOP.out;obtain⟨b0,o,rfl,hb0,hcell⟩:=hcell hne;obtain⟨f0,f1,f2⟩:=hcell x qs[x] (lgg hxr);have g0:=(hbw.cell (p:=⟨b0,o+x*3,none⟩) hb0).trans f0;have g1:=(hbw.cell (p:=⟨b0,o+x*3+1,none⟩) hb0).trans f1;have g2:=(hbw.cell (p:=⟨b0,o+x*3+2,none⟩) hb0).trans f2;obtain rfl:pq=some ⟨b0,o,none⟩:=by injection hvv
    clear hvv hcell f0 f1 f2 hne;have hq:=HP1.out _ (List.getElem_mem hxr);have hputl:=HPL.out _ (List.getElem_mem hxr);have hdk:qs.drop x=qs[x] :: qs.drop (x+1):=List.drop_eq_getElem_cons hxr;have hstep:=JfW HU.out hdk hq (fun y hy=>HP1.out y (List.mem_of_mem_drop hy)) hsl hR' hlong hCR;rw[hdk]at hok hcome;have HOK:Hid (okZ 2 R qs=okZ 2 R' (qs[x] :: qs.drop (x+1))):=hok;have HCOME:Hid (okZ 2 R qs=true->S+C1 (Ja4 2 R' (qs[x] :: qs.drop (x+1)))=C1 (Ja4 2 R qs)):=hcome;have HBW:=hdz hbw;have HX:Hid (x<qs.length):=hxr;have HSL:Hid (sl wr .u16 p' n' c' (rowZ 2 R')):=hsl;have HR':Hid (∀r∈R',Jaw r):=hR';have HCR:Hid (C1 R'<=1000000):=hCR;clear hok hcome hbw hsl hR' hlong hdk;generalize qs[x]=q at *;obtain⟨K,D,U⟩:=q;simp only at g0 g1 g2 hputl;have hK0:0<=K:=hstep.k0;have hD0:0<=D:=hstep.d0;have hKD:K+D<=(n':Int):=hstep.le;obtain⟨hcc,hcm,hnn⟩:=Jiv HSL.out;unfold maxLen at hcm;have HSTEP:Hid (szStep 2 R' ⟨K,D,U⟩ (qs.drop (x+1)) n'):=hstep;have hUz:(ByteArray.mk U.toArray).size=U.length:=by simp[ByteArray.size]
    obtain⟨M,hM⟩:∃M:Nat,K+D=(M:Int):=⟨(K+D).toNat,by omega⟩;have hMn:M<=n':=by omega
    have HPC:Hid (sl wr .u16 p' M c' ((rowZ 2 R').take M)):=JfY HSL.out hMn;have hxlN:(x:Int)<(N:Int):=by omega
    clear hstep hnn hxr
    by_cases he:JaU R' 2 (K+D)=true
    . obtain ⟨hpX,hX1,hX2,hX3⟩:=JcN HU.out HSTEP.out HR'.out HCR.out he
      have hMt:(K+D).toNat=M:=by omega
      rw[hMt]at hpX;obtain⟨X,hXe⟩:∃X,upTo R' 2 (K+D)=X:=⟨_,rfl⟩;rw[hXe]at hpX hX1 hX2 hX3;have hbz:(Jao X).size=(encs X).length:=by simp[Jao,ByteArray.size]
      have hXl:((encs X).length:Int)<=1000000:=by have:=JbU X;omega
      have cT:Hid (∀wx,Below w.heap.size w wx->sl wx .u16 p' M c' ((rowZ 2 R').take M)->Calls Tryz.prog 97 #[.slice p' M c'] wx fun e w'=>e=.returned (.tuple #[.string (Jao X),.nilIface])/\Below wx.heap.size wx w'):=fun wx hb hs=>Jnk X hX2 hX1 p' M c' wx (Go.Proofs.Utf8Tabs_below HT.out hb) (by rw[←hpX];exact hs)
      have HX3:=hdz hX3;have hS3:S<=2000000*(x:Int):=hS1;have hxx:(x:Int)<1000:=by omega
      generalize Jao X=bX at *;clear hX1 hX2 hX3 hpX hXe he hM hS1
      by_cases hK:0<K
      . go_wp2_with (first
          | (go_at_call 97;refine(cT.out _ (by exact HBW.out.alloc HBW.out.size _) (by exact Jb7 HPC.out ((brf wr.heap.size wr).alloc (nlr _) _) (nlr _))).mono ?_;rintro e w2 ⟨rfl,hb2⟩;have HB2:Hid (Below wr.heap.size wr w2):=((brf wr.heap.size wr).alloc (nlr _) _).trans (hb2.mono (by simp));have hz2:wr.heap.size+1<=w2.heap.size:=by have:=hb2.size;simpa using this
             have x0:w2.cell? ⟨wr.heap.size,0,none⟩=some (.int .i64 K):=(hb2.cell (p:=⟨wr.heap.size,0,none⟩) (by simp)).trans (by simp);have x1:w2.cell? ⟨wr.heap.size,1,none⟩=some (.int .i64 D):=(hb2.cell (p:=⟨wr.heap.size,1,none⟩) (by simp)).trans (by simp)
             have x2:w2.cell? ⟨wr.heap.size,2,none⟩=some (.string ⟨U.toArray⟩):=(hb2.cell (p:=⟨wr.heap.size,2,none⟩) (by simp)).trans (by simp);clear hb2)
          | fail)
        refine⟨⟨x+1,by go_num,?_⟩,by simp[intOf];omega⟩;obtain⟨y1,y2,y3,y4,y5,y6⟩:=HX3.out;have hs2:=Jb7 (Jf2 HSL.out hMn) HB2.out (nlr _);have hy1:(rowZ 2 R').drop M=rowZ 2 (Jbb 2 R' (K+D)):=by rw[←hMt];exact y1
        rw[hy1]at hs2;exact JeM (A:=((encs X).length:Int)) HX.out HOK.out HCOME.out ⟨y2,y3,y4,y5,by rw[y6,if_pos hK,JbU]⟩ hs2 hS0 hS3 (by omega) (by omega) hputl (HBW.out.trans (HB2.out.mono HBW.out.size))
      . go_wp2_with (first
          | (go_at_call 97;refine(cT.out _ (by exact HBW.out.alloc HBW.out.size _) (by exact Jb7 HPC.out ((brf wr.heap.size wr).alloc (nlr _) _) (nlr _))).mono ?_;rintro e w2 ⟨rfl,hb2⟩;have HB2:Hid (Below wr.heap.size wr w2):=((brf wr.heap.size wr).alloc (nlr _) _).trans (hb2.mono (by simp));have hz2:wr.heap.size+1<=w2.heap.size:=by have:=hb2.size;simpa using this
             have x0:w2.cell? ⟨wr.heap.size,0,none⟩=some (.int .i64 K):=(hb2.cell (p:=⟨wr.heap.size,0,none⟩) (by simp)).trans (by simp);have x1:w2.cell? ⟨wr.heap.size,1,none⟩=some (.int .i64 D):=(hb2.cell (p:=⟨wr.heap.size,1,none⟩) (by simp)).trans (by simp)
             have x2:w2.cell? ⟨wr.heap.size,2,none⟩=some (.string ⟨U.toArray⟩):=(hb2.cell (p:=⟨wr.heap.size,2,none⟩) (by simp)).trans (by simp);clear hb2)
          | fail)
        refine⟨⟨x+1,by go_num,?_⟩,by simp[intOf];omega⟩;obtain⟨y1,y2,y3,y4,y5,y6⟩:=HX3.out;have hs2:=Jb7 (Jf2 HSL.out hMn) HB2.out (nlr _);have hy1:(rowZ 2 R').drop M=rowZ 2 (Jbb 2 R' (K+D)):=by rw[←hMt];exact y1
        rw[hy1]at hs2;have hfin:=JeM (A:=0) HX.out HOK.out HCOME.out ⟨y2,y3,y4,y5,by rw[y6,if_neg (by omega)]⟩ hs2 hS0 hS3 (by omega) (by omega) hputl (HBW.out.trans (HB2.out.mono HBW.out.size));rw[Int.add_zero]at hfin;exact hfin
    . have he:JaU R' 2 (K+D)=false:=by simpa using he
      have hbad:=JfX HU.out HSTEP.out HR'.out he;have hMt:(K+D).toNat=M:=by omega
      rw[hMt]at hbad;have HV:Hid (szV 2 R qs=0/\szE 2 R qs=10):=Jo7 (by rw[HOK.out];unfold okZ;rw[show lenP ⟨K,D,U⟩=K+D from rfl,he];rfl);have cT:Hid (∀wx,Below w.heap.size w wx->sl wx .u16 p' M c' ((rowZ 2 R').take M)->Calls Tryz.prog 97 #[.slice p' M c'] wx fun e w'=>∃s bx,e=.returned (.tuple #[.string s,atV bx])/\Below wx.heap.size wx w'):=fun wx hb hs=>Jo1 R' M HR'.out hbad HCR.out p' M c' wx (Go.Proofs.Utf8Tabs_below HT.out hb) hs
      unfold atV at cT;clear hbad he hM
      go_wp2_with (first
       | (go_at_call 97;refine(cT.out _ (by exact HBW.out.alloc HBW.out.size _) (by exact Jb7 HPC.out ((brf wr.heap.size wr).alloc (nlr _) _) (nlr _))).mono ?_;rintro e w2 ⟨s2,bx,rfl,hb2⟩;have HB2:Hid (Below wr.heap.size wr w2):=((brf wr.heap.size wr).alloc (nlr _) _).trans (hb2.mono (by simp));clear hb2)
       | fail)
      go_ret2
      refine⟨?_,HBW.out.trans (HB2.out.mono HBW.out.size)⟩;rw[HV.out.1,HV.out.2];rfl
  . obtain rfl:x=N:=by have:=HN.out;omega
    have hxlN:¬((x:Int)<(x:Int)):=by omega
    have HV:Hid (szV 2 R qs=S/\szE 2 R qs=0):=by
     rw[←HN.out,List.drop_length]at hok hcome;exact Jlp hok hcome
    have HBW:=hdz hbw;clear hok hcome hsl hR' hlong hbw;go_wp2
    go_ret2
    refine⟨?_,HBW.out⟩;rw[HV.out.1,HV.out.2];rfl
theorem infoE2:(Tryz.prog.info? 167).map (fun i=>(i.zero,i.size,i.bytes))=some (some (.int .u16 0),1,2):=by kernel_rfl
theorem JoV(b:Nat)(p:Option Addr)(n c:Nat)(R:List Nat)(qs:List Pt)(v:Value)(w:World)(hT:Lib.Utf8Tabs 2 3 w)(hR:∀r∈R,Jaw r)(hcell:w.cell? ⟨b,2,none⟩=some (.slice p n c))(hsl:sl w .u16 p n c (rowZ 2 R))(hr:opAt w v qs)(hc:chkE qs (by_ 2 R)=0)(hl:qs.length<=1000)(hz:C1 R<=1000000)(hpl:∀q∈qs,q.put.length<=1000000)(hno:plE 2 R qs≠0) :
    Calls Tryz.prog 96 #[.pointer (some ⟨b,2,none⟩),v,.func (.func 97) #[] #[],.func (.func 98) #[] #[]] w fun e w'=>e=.returned (errV (plE 2 R qs))/\Below w.heap.size w w':=by
 have cS:Hid _:=Jkm p n c R qs v w hT hR hsl hr hc hl hz hpl;obtain⟨hop,cop,rfl,_⟩:=hr
 rcases pl_no hno with ⟨e1,e2,e3⟩|⟨e1,e2,e3,e4⟩
 . rw [e1,e2]at cS
   rw[e3];clear hT hR hsl hc hl hz hpl hno e1 e2 e3
   go_enter Tryz.func96,Tryz.ntmps96
   go_wp2_with (first
    | (go_at_call 160;refine Calls.mono cS.out ?_;rw[Jmd];rintro e w1 ⟨rfl,hb1⟩)
    | fail)
   go_ret;exact⟨rfl,hb1⟩
 . rw [e1,e2]at cS
   rw[e3];generalize C1 (Ja4 2 R qs)=Z at cS e4;clear hT hR hsl hc hl hz hpl hno e1 e2 e3
   go_enter Tryz.func96,Tryz.ntmps96
   go_wp2_with (first
    | (go_at_call 160;refine Calls.mono cS.out ?_;rw[Jd9];rintro e w1 ⟨rfl,hb1⟩)
    | fail)
   go_ret;exact⟨rfl,hb1⟩
theorem Jn2(b:Nat)(p:Option Addr)(n c:Nat)(R:List Nat)(qs:List Pt)(v:Value)(w:World)(hT:Lib.Utf8Tabs 2 3 w)(hR:∀r∈R,Jaw r)(hcell:w.cell? ⟨b,2,none⟩=some (.slice p n c))(hfz:w.frozen? ⟨b,2,none⟩=false)(hsl:sl w .u16 p n c (rowZ 2 R))(hr:opAt w v qs)(hc:chkE qs (by_ 2 R)=0)(hl:qs.length<=1000)(hz:C1 R<=1000000)(hpl:∀q∈qs,q.put.length<=1000000)(hok:okZ 2 R qs=true)(hsm:C1 (Ja4 2 R qs)<=8000) :
    Calls Tryz.prog 96 #[.pointer (some ⟨b,2,none⟩),v,.func (.func 97) #[] #[],.func (.func 98) #[] #[]] w fun e w'=>e=.returned .nilIface/\∃W p' n' c',Below w.heap.size w W/\w'=W.setCell ⟨b,2,none⟩ (.slice p' n' c')/\sl W .u16 p' n' c' (rowZ 2 (Ja4 2 R qs))/\∀a,p'=some a->w.heap.size<=a.block:=by
 have hu:Ja3 2:=by unfold Ja3;omega
 obtain⟨hp1,hp2,hp3⟩:=JbZ hc;have cS:Hid (Calls Tryz.prog 160 #[.slice p n c,v,.func (.func 97) #[] #[]] w fun e w'=>e=.returned (.tuple #[.int .i64 (C1 (Ja4 2 R qs)),.nilIface])/\Below w.heap.size w w'):=by
  have:=Jkm p n c R qs v w hT hR hsl hr hc hl hz hpl;unfold szV szE at this;rw[hok,if_pos rfl,if_pos rfl,Jd9]at this;exact this
 have hbw0:=blt w _ hcell;have hbw0:b<w.heap.size:=hbw0;have HU:Hid (Ja3 2):=hu;have HT:Hid (Lib.Utf8Tabs 2 3 w):=hT;have HOP:Hid (opAt w v qs):=hr;have HP1:Hid (∀p∈qs,oneB p=true/\(scan p.put).2=true):=hp1;have HPL:Hid (∀q∈qs,q.put.length<=1000000):=hpl;have HCE:Hid (w.cell? ⟨b,2,none⟩=some (.slice p n c)):=hcell;have HFZ:Hid (w.frozen? ⟨b,2,none⟩=false):=hfz;have HST:Hid (∀w1,Below w.heap.size w w1->plI w 167 2 .u16 R qs 0 (.slice none 0 0) (.slice p n c) w1):=fun w1 hb=>Jhq hz hsl hR hp2 hok hb
 have hC0:=JdM (Ja4 2 R qs);have HSM:Hid (C1 (Ja4 2 R qs)<=8000):=hsm;obtain⟨Z,hZ⟩:∃Z,C1 (Ja4 2 R qs)=Z:=⟨_,rfl⟩;rw[hZ]at cS hsm hC0;obtain⟨pq,cq,rfl,r1,r2,r3⟩:=hr;unfold maxLen at r2;obtain⟨N,hN⟩:∃N,qs.length=N:=⟨_,rfl⟩;rw[hN]at r1 hl cS ⊢;have HN:Hid (qs.length=N):=hN;have hN0:(N:Int)<=1000:=by omega
 obtain⟨i0,hi,hz0,hz1,hz2⟩:=info_parts infoE2;clear hT hR hsl hc hp1 hp2 hp3 r3 hz hpl hu hN hok hZ hfz
 go_enter Tryz.func96,Tryz.ntmps96
 go_wp2_with (first
  | (go_at_call 160;refine Calls.mono cS.out ?_;rintro e w1 ⟨rfl,hb1⟩;have HB1:=hdz hb1;have hc1:w1.cell? ⟨b,2,none⟩=some (.slice p n c):=(hb1.cell (p:=⟨b,2,none⟩) hbw0).trans HCE.out;clear hb1 hcell)
  | fail)
 have HI:Hid (plI w 167 2 .u16 R qs 0 (.slice none 0 0) (.slice p n c) w1):=HST.out w1 HB1.out;clear hc1 HST cS HB1 hsm hC0
 go_loopw [11,12,35] (fun v11 v12 i wr=>∃x:Nat,i=.int .i64 x/\plI w 167 2 .u16 R qs x v11 v12 wr) (fun _ _ i _=>N - (intOf i).toNat)
 case atStart=>exact⟨0,rfl,HI.out⟩
 case round =>
  obtain⟨x,rfl,hst⟩:=hrel;obtain⟨L,p',n',c',R',hown,rfl,hsl,hR',hlong,hok,hcome,hCR,hx,hbw,hsz⟩:=hst;obtain⟨p11,c11,rfl⟩:=Jad hown;clear HI
  by_cases hlt:x<N
  . have hxr:x<qs.length:=by rw[HN.out];exact hlt
    have hne:qs≠[]:=by intro e;rw[e]at hxr;exact absurd hxr (Nat.not_lt_zero _)
    obtain⟨p0,c0,hvv,_,_,hcell⟩:=HOP.out;obtain⟨b0,o,rfl,hb0,hcell⟩:=hcell hne;obtain⟨f0,f1,f2⟩:=hcell x qs[x] (lgg hxr);have g0:=(hbw.cell (p:=⟨b0,o+x*3,none⟩) hb0).trans f0;have g1:=(hbw.cell (p:=⟨b0,o+x*3+1,none⟩) hb0).trans f1;have g2:=(hbw.cell (p:=⟨b0,o+x*3+2,none⟩) hb0).trans f2;obtain rfl:pq=some ⟨b0,o,none⟩:=by injection hvv
    clear hvv hcell f0 f1 f2 hne;have hq:=HP1.out _ (List.getElem_mem hxr);have hputl:=HPL.out _ (List.getElem_mem hxr);have hdk:qs.drop x=qs[x] :: qs.drop (x+1):=List.drop_eq_getElem_cons hxr;have hstep:=JfW HU.out hdk hq (fun y hy=>HP1.out y (List.mem_of_mem_drop hy)) hsl hR' hlong hCR;rw[hdk]at hok hcome;have HOK:Hid (okZ 2 R' (qs[x] :: qs.drop (x+1))=true):=hok;have HCOME:Hid (Ja4 2 R qs=L++Ja4 2 R' (qs[x] :: qs.drop (x+1))):=hcome;have HBW:=hdz hbw;have HSZ:Hid (w.heap.size<=wr.heap.size):=hsz;have HX:Hid (x<qs.length):=hxr;have HSL:Hid (sl w .u16 p' n' c' (rowZ 2 R')):=hsl;have HR':Hid (∀r∈R',Jaw r):=hR';have HCR:Hid (C1 R'<=1000000):=hCR;have HOWN:Hid (wr.ownsRow w.heap.size 167 1 (.slice p11 (rowZ 2 L).length c11) (rowZ 2 L).length ((rowZ 2 L).map (Value.int .u16))):=hown;clear hok hcome hbw hsl hR' hlong hdk hown hsz;generalize qs[x]=q at *;obtain⟨K,D,U⟩:=q;simp only at g0 g1 g2 hputl;have hK0:0<=K:=hstep.k0;have hD0:0<=D:=hstep.d0;have hKD:K+D<=(n':Int):=hstep.le;obtain⟨hcc,hcm,hnn⟩:=Jiv HSL.out;unfold maxLen at hcm;have hUz:(ByteArray.mk U.toArray).size=U.length:=by simp[ByteArray.size]
    obtain⟨M,hM⟩:∃M:Nat,K+D=(M:Int):=⟨(K+D).toNat,by omega⟩;obtain⟨Kn,rfl⟩:∃Kn:Nat,K=(Kn:Int):=⟨K.toNat,by omega⟩;have hMn:M<=n':=by omega
    have hKn:Kn<=n':=by omega
    have he:JaU R' 2 ((Kn:Int)+D)=true:=by
     have:=HOK.out;unfold okZ at this;rw[Bool.and_eq_true]at this;exact this.1
    have hsg:=JcN HU.out hstep HR'.out HCR.out he;obtain⟨hpX,hX1,hX2,hX3,hX4,hX5,hX6,hX7,_⟩:=hsg;have hMt:((Kn:Int)+D).toNat=M:=by omega
    rw[hMt]at hpX hX3;obtain⟨Y,hY⟩:∃Y,(if 0<(Kn:Int) then upTo R' 2 ((Kn:Int)+D) else [])=Y:=⟨_,rfl⟩;have hrowY:(rowZ 2 R').take Kn=rowZ 2 Y:=JlH hq.1 hM hY hpX;have hcomes:Ja4 2 R qs=(L++Y++Jal U)++Ja4 2 (Jbb 2 R' ((Kn:Int)+D)) (qs.drop (x+1)):=by
     rw[HCOME.out];show L++(((if 0<(Kn:Int) then upTo R' 2 ((Kn:Int)+D) else [])++Jal U)++_)=_;rw[hY];simp only[List.append_assoc];rfl
    have hlens:=JlG HU.out HSM.out hcomes;have HROW:Hid ((rowZ 2 L).map (Value.int .u16)++(rowZ 2 Y).map (Value.int .u16)++(rowZ 2 (Jal U)).map (Value.int .u16)=(rowZ 2 (L++Y++Jal U)).map (Value.int .u16)):=by
     show _=_;rw[Jbm,Jbm,List.map_append,List.map_append]
    have HLN:Hid ((rowZ 2 (L++Y++Jal U)).length=(rowZ 2 L).length+Kn+(rowZ 2 (Jal U)).length):=by
     show _=_;have:(rowZ 2 Y).length=Kn:=by rw[←hrowY,List.length_take];omega
     rw[Jbm,Jbm,List.length_append,List.length_append,this]
    have HPC:Hid (sl w .u16 p' Kn c' (rowZ 2 Y)):=by
     show sl w .u16 p' Kn c' (rowZ 2 Y);rw[←hrowY];exact JfY HSL.out hKn
    have HNEXT:Hid (∀(v:Value) (pp:Option Addr) (nn cc:Nat) wn,wn.ownsRow w.heap.size 167 1 v ((rowZ 2 (L++Y++Jal U)).length) ((rowZ 2 (L++Y++Jal U)).map (Value.int .u16))->sl w .u16 pp nn cc (rowZ 2 (Jbb 2 R' ((Kn:Int)+D)))->Below w.heap.size w wn->plI w 167 2 .u16 R qs (x+1) v (.slice pp nn cc) wn) :=
     fun v pp nn cc wn h1 h2 h3=>⟨_,pp,nn,cc,_,h1,rfl,h2,hX4,hX5,hX7.symm.trans HOK.out,hcomes,hX6,HX.out,h3,h3.size⟩
    have HX3:Hid ((rowZ 2 R').drop M=rowZ 2 (Jbb 2 R' ((Kn:Int)+D))):=hX3;have cP:Hid (∀wx,Below w.heap.size w wx->Calls Tryz.prog 98 #[.string ⟨U.toArray⟩] wx fun e w'=>∃p n c,e=.returned (.slice p n c)/\sl w' .u16 p n c (rowZ 2 (Jal U))/\Below wx.heap.size wx w'):=fun wx hb=>Jq1 U hq.2 hputl wx (Go.Proofs.Utf8Tabs_below HT.out hb)
    obtain⟨hl1,hl2,hl3⟩:=hlens;have hxlN:(x:Int)<(N:Int):=by omega
    have hYl:(rowZ 2 Y).length=Kn:=by rw[←hrowY,List.length_take];omega
    obtain⟨LL,hLL⟩:∃LL,(rowZ 2 L).length=LL:=⟨_,rfl⟩;obtain⟨UL,hUL⟩:∃UL,(rowZ 2 (Jal U)).length=UL:=⟨_,rfl⟩;rw[hLL]at hl1 HOWN HLN ⊢;rw[hYl]at hl2;rw[hUL]at hl3 HLN;have HUL:Hid ((rowZ 2 (Jal U)).length=UL):=hUL;clear hstep hnn hxr hpX hX1 hX2 hX3 hX4 hX5 hX6 hX7 he hrowY hcomes hY hq hM hLL hUL hYl HOK
    go_wp2_with (first
     | (at_builtin;refine JbC _ rfl _ _ 144 rfl w.heap.size 167 i0 (.int .u16 0) 2 Tryz.underlying144 hi hz0 hz1 hz2 rfl _ _ _ rfl (HOWN.out.alloc _) .u16 p' Kn c' (rowZ 2 Y) rfl (Jb7 HPC.out (HBW.out.alloc HSZ.out _) (nlr _)) (by unfold maxLen;omega) (by omega) (by have:=HSZ.out;simp;omega) ?_)
     | fail)
    intro v' w2 hown' hg';obtain⟨p12,c12,rfl⟩:=Jad hown';have hbox:w2.heap[wr.heap.size]?=some (.cells #[.int .i64 (Kn:Int),.int .i64 D,.string ⟨U.toArray⟩] 50 (0,0)):=Jdn (heap_alloc_new _ _) (HOWN.out.alloc _) hg' (by intro c fz e;cases e);have x0:w2.cell? ⟨wr.heap.size,0,none⟩=some (.int .i64 (Kn:Int)):=chp hbox 0;have x1:w2.cell? ⟨wr.heap.size,1,none⟩=some (.int .i64 D):=chp hbox 1;have x2:w2.cell? ⟨wr.heap.size,2,none⟩=some (.string ⟨U.toArray⟩):=chp hbox 2;have HBOX:Hid (w2.heap[wr.heap.size]?=some (.cells #[.int .i64 (Kn:Int),.int .i64 D,.string ⟨U.toArray⟩] 50 (0,0))):=hbox;have HO2:Hid (w2.ownsRow w.heap.size 167 1 (.slice p12 (LL+Kn) c12) (LL+Kn) ((rowZ 2 L).map (Value.int .u16)++(rowZ 2 Y).map (Value.int .u16))):=hown';have HBW2:Hid (Below w.heap.size w w2):=(HBW.out.alloc HSZ.out _).grown hg' (by rw[wsa];have:=HSZ.out;omega) fun k hk=>(HOWN.out.lt k hk).1
    have hsz2:wr.heap.size+1<=w2.heap.size:=by have:=hg'.size;rwa[World.size_alloc]at this
    have HSZ2:Hid (wr.heap.size+1<=w2.heap.size):=hsz2;clear hbox hown' hg' HOWN HPC HBW g0 g1 g2
    go_wp2_with (first
     | (go_at_call 98;refine(cP.out _ HBW2.out).mono ?_;rintro e w3 ⟨pz,nz,cz,rfl,hs3,hb3⟩;have HS3:Hid (sl w3 .u16 pz nz cz (rowZ 2 (Jal U))):=hs3;have hnz:nz=UL:=by rw[hs3.1];exact HUL.out
        have HO3:Hid (w3.ownsRow w.heap.size 167 1 (.slice p12 (LL+Kn) c12) (LL+Kn) ((rowZ 2 L).map (Value.int .u16)++(rowZ 2 Y).map (Value.int .u16))):=Jaj HO2.out hb3;have HBW3:Hid (Below w.heap.size w w3):=HBW2.out.trans (hb3.mono HBW2.out.size);have hbox:w3.heap[wr.heap.size]?=some (.cells #[.int .i64 (Kn:Int),.int .i64 D,.string ⟨U.toArray⟩] 50 (0,0)):=(hb3.block wr.heap.size (by have:=HSZ2.out;omega)).trans HBOX.out;have HBOX3:Hid (w3.heap[wr.heap.size]?=some (.cells #[.int .i64 (Kn:Int),.int .i64 D,.string ⟨U.toArray⟩] 50 (0,0))):=hbox;subst hnz
        clear hs3 hb3 hbox x0 x1 x2)
     | (at_builtin;refine JbC _ rfl _ _ 144 rfl w.heap.size 167 i0 (.int .u16 0) 2 Tryz.underlying144 hi hz0 hz1 hz2 rfl _ _ _ rfl HO3.out .u16 pz nz cz (rowZ 2 (Jal U)) rfl HS3.out (by unfold maxLen;omega) (by omega) HBW3.out.size ?_)
     | fail)
    intro v' w4 hown' hg';obtain⟨p14,c14,rfl⟩:=Jad hown';have hbox:w4.heap[wr.heap.size]?=some (.cells #[.int .i64 (Kn:Int),.int .i64 D,.string ⟨U.toArray⟩] 50 (0,0)):=Jdn HBOX3.out HO3.out hg' (by intro c fz e;cases e);have x0:w4.cell? ⟨wr.heap.size,0,none⟩=some (.int .i64 (Kn:Int)):=chp hbox 0;have x1:w4.cell? ⟨wr.heap.size,1,none⟩=some (.int .i64 D):=chp hbox 1;rw[←List.append_assoc]at hown';have HO4:Hid (w4.ownsRow w.heap.size 167 1 (.slice p14 (LL+Kn+nz) c14) (LL+Kn+nz) ((rowZ 2 L).map (Value.int .u16)++(rowZ 2 Y).map (Value.int .u16)++(rowZ 2 (Jal U)).map (Value.int .u16))):=hown';have HBW4:Hid (Below w.heap.size w w4):=HBW3.out.grown hg' HBW3.out.size fun k hk=>(HO3.out.lt k hk).1
    clear hbox hown' hg' HO3 HS3 HBW3 HBOX3 HBOX;go_wp2;refine⟨⟨x+1,by go_num,?_⟩,by simp[intOf];omega⟩;have hs5:=Jf2 HSL.out hMn;rw[HX3.out]at hs5;refine HNEXT.out _ _ _ _ _ ?_ hs5 HBW4.out;have ho4:=HO4.out;rw[HROW.out,←HLN.out]at ho4;rw[←HLN.out];exact ho4
  . obtain rfl:x=N:=by have:=HN.out;omega
    have hxlN:¬((x:Int)<(x:Int)):=by omega
    rw[←HN.out,List.drop_length]at hcome;have HE:Hid (Ja4 2 R qs=L):=by show _=_;rw[hcome];exact List.append_nil _
    have HBW:=hdz hbw;have HOWN:Hid (wr.ownsRow w.heap.size 167 1 (.slice p11 (rowZ 2 L).length c11) (rowZ 2 L).length ((rowZ 2 L).map (Value.int .u16))):=hown;have hc2:wr.cell? ⟨b,2,none⟩=some (.slice p n c):=(hbw.cell (p:=⟨b,2,none⟩) hbw0).trans HCE.out;have hf2:wr.frozen? ⟨b,2,none⟩=false:=(hbw.frozen (p:=⟨b,2,none⟩) hbw0).trans HFZ.out;clear hok hcome hsl hR' hlong hbw hown hsz hlt;go_wp2;go_ret;obtain⟨p2,c2,e2,s2⟩:=Jkk rfl HOWN.out;injection e2 with e2 e3 e4
    subst e2 e4;refine⟨rfl,?_⟩;exact⟨wr,HBW.out,p11,_,c11,rfl,by rw[HE.out];exact s2,fun a ha=>(HOWN.out.lt a.block (by rw[ha];rfl)).1⟩
theorem Jkl(p:Option Addr)(n c:Nat)(R:List Nat)(qs:List Pt)(v:Value)(w:World)(hT:Lib.Utf8Tabs 2 3 w)(hR:∀r∈R,Jaw r)(hsl:sl w .i32 p n c (rowZ 3 R))(hr:opAt w v qs)(hc:chkE qs (by_ 3 R)=0)(hl:qs.length<=1000)(hz:C1 R<=1000000)(hpl:∀q∈qs,q.put.length<=1000000) :
    Calls Tryz.prog 167 #[.slice p n c,v,.func (.func 101) #[] #[]] w fun e w'=>e=.returned (.tuple #[.int .i64 (szV 3 R qs),errV (szE 3 R qs)])/\Below w.heap.size w w':=by
 have hu:Ja3 3:=by unfold Ja3;omega
 obtain⟨hp1,hp2,hp3⟩:=JbZ hc;have HU:Hid (Ja3 3):=hu;have HT:Hid (Lib.Utf8Tabs 2 3 w):=hT;have HOP:Hid (opAt w v qs):=hr;have HP1:Hid (∀p∈qs,oneB p=true/\(scan p.put).2=true):=hp1;have HPL:Hid (∀q∈qs,q.put.length<=1000000):=hpl;have HST:Hid (szI w 3 .i32 R qs 0 (.int .i64 0) (.slice p n c) w):=Jhi hz hsl hR hp2;obtain⟨pq,cq,rfl,r1,r2,r3⟩:=hr;unfold maxLen at r2;obtain⟨N,hN⟩:∃N,qs.length=N:=⟨_,rfl⟩;rw[hN]at r1 hl ⊢;have HN:Hid (qs.length=N):=hN;have hN0:(N:Int)<=1000:=by omega
 clear hT hR hsl hc hp1 hp2 hp3 r3 hz hpl hu hN
 go_enter Tryz.func167,Tryz.ntmps167
 go_wp2
 go_loopw [8,9,18] (fun v8 v9 i wr=>∃x:Nat,i=.int .i64 x/\szI w 3 .i32 R qs x v8 v9 wr) (fun _ _ i _=>N - (intOf i).toNat)
 case atStart=>exact⟨0,rfl,HST.out⟩
 case round =>
  obtain⟨x,rfl,hst⟩:=hrel;obtain⟨S,p',n',c',R',rfl,rfl,hsl,hR',hlong,hok,hcome,hS0,hS1,hCR,hx,hbw⟩:=hst;clear HST
  by_cases hlt:x<N
  . have hxr : x<qs.length:=by rw[HN.out];exact hlt
    have hne:qs≠[]:=by intro e;rw[e]at hxr;exact absurd hxr (Nat.not_lt_zero _)
    obtain⟨p0,c0,hvv,_,_,hcell⟩:=HOP.out;obtain⟨b0,o,rfl,hb0,hcell⟩:=hcell hne;obtain⟨f0,f1,f2⟩:=hcell x qs[x] (lgg hxr);have g0:=(hbw.cell (p:=⟨b0,o+x*3,none⟩) hb0).trans f0;have g1:=(hbw.cell (p:=⟨b0,o+x*3+1,none⟩) hb0).trans f1;have g2:=(hbw.cell (p:=⟨b0,o+x*3+2,none⟩) hb0).trans f2;obtain rfl:pq=some ⟨b0,o,none⟩:=by injection hvv
    clear hvv hcell f0 f1 f2 hne;have hq:=HP1.out _ (List.getElem_mem hxr);have hputl:=HPL.out _ (List.getElem_mem hxr);have hdk:qs.drop x=qs[x] :: qs.drop (x+1):=List.drop_eq_getElem_cons hxr;have hstep:=JfW HU.out hdk hq (fun y hy=>HP1.out y (List.mem_of_mem_drop hy)) hsl hR' hlong hCR;rw[hdk]at hok hcome;have HOK:Hid (okZ 3 R qs=okZ 3 R' (qs[x] :: qs.drop (x+1))):=hok;have HCOME:Hid (okZ 3 R qs=true->S+C1 (Ja4 3 R' (qs[x] :: qs.drop (x+1)))=C1 (Ja4 3 R qs)):=hcome;have HBW:=hdz hbw;have HX:Hid (x<qs.length):=hxr;have HSL:Hid (sl wr .i32 p' n' c' (rowZ 3 R')):=hsl;have HR':Hid (∀r∈R',Jaw r):=hR';have HCR:Hid (C1 R'<=1000000):=hCR;clear hok hcome hbw hsl hR' hlong hdk;generalize qs[x]=q at *;obtain⟨K,D,U⟩:=q;simp only at g0 g1 g2 hputl;have hK0:0<=K:=hstep.k0;have hD0:0<=D:=hstep.d0;have hKD:K+D<=(n':Int):=hstep.le;obtain⟨hcc,hcm,hnn⟩:=Jiv HSL.out;unfold maxLen at hcm;have HSTEP:Hid (szStep 3 R' ⟨K,D,U⟩ (qs.drop (x+1)) n'):=hstep;have hUz:(ByteArray.mk U.toArray).size=U.length:=by simp[ByteArray.size]
    obtain⟨M,hM⟩:∃M:Nat,K+D=(M:Int):=⟨(K+D).toNat,by omega⟩;have hMn:M<=n':=by omega
    have HPC:Hid (sl wr .i32 p' M c' ((rowZ 3 R').take M)):=JfY HSL.out hMn;have hxlN:(x:Int)<(N:Int):=by omega
    clear hstep hnn hxr
    by_cases he:JaU R' 3 (K+D)=true
    . obtain ⟨hpX,hX1,hX2,hX3⟩:=JcN HU.out HSTEP.out HR'.out HCR.out he
      have hMt:(K+D).toNat=M:=by omega
      rw[hMt]at hpX;obtain⟨X,hXe⟩:∃X,upTo R' 3 (K+D)=X:=⟨_,rfl⟩;rw[hXe]at hpX hX1 hX2 hX3;have hbz:(Jao X).size=(encs X).length:=by simp[Jao,ByteArray.size]
      have hXl:((encs X).length:Int)<=1000000:=by have:=JbU X;omega
      have cT:Hid (∀wx,Below w.heap.size w wx->sl wx .i32 p' M c' ((rowZ 3 R').take M)->Calls Tryz.prog 101 #[.slice p' M c'] wx fun e w'=>e=.returned (.tuple #[.string (Jao X),.nilIface])/\Below wx.heap.size wx w'):=fun wx hb hs=>Jnj X hX2 hX1 p' M c' wx (Go.Proofs.Utf8Tabs_below HT.out hb) (by rw[←hpX];exact hs)
      have HX3:=hdz hX3;have hS3:S<=2000000*(x:Int):=hS1;have hxx:(x:Int)<1000:=by omega
      generalize Jao X=bX at *;clear hX1 hX2 hX3 hpX hXe he hM hS1
      by_cases hK:0<K
      . go_wp2_with (first
          | (go_at_call 101;refine(cT.out _ (by exact HBW.out.alloc HBW.out.size _) (by exact Jb7 HPC.out ((brf wr.heap.size wr).alloc (nlr _) _) (nlr _))).mono ?_;rintro e w2 ⟨rfl,hb2⟩;have HB2:Hid (Below wr.heap.size wr w2):=((brf wr.heap.size wr).alloc (nlr _) _).trans (hb2.mono (by simp));have hz2:wr.heap.size+1<=w2.heap.size:=by have:=hb2.size;simpa using this
             have x0:w2.cell? ⟨wr.heap.size,0,none⟩=some (.int .i64 K):=(hb2.cell (p:=⟨wr.heap.size,0,none⟩) (by simp)).trans (by simp);have x1:w2.cell? ⟨wr.heap.size,1,none⟩=some (.int .i64 D):=(hb2.cell (p:=⟨wr.heap.size,1,none⟩) (by simp)).trans (by simp)
             have x2:w2.cell? ⟨wr.heap.size,2,none⟩=some (.string ⟨U.toArray⟩):=(hb2.cell (p:=⟨wr.heap.size,2,none⟩) (by simp)).trans (by simp);clear hb2)
          | fail)
        refine⟨⟨x+1,by go_num,?_⟩,by simp[intOf];omega⟩;obtain⟨y1,y2,y3,y4,y5,y6⟩:=HX3.out;have hs2:=Jb7 (Jf2 HSL.out hMn) HB2.out (nlr _);have hy1:(rowZ 3 R').drop M=rowZ 3 (Jbb 3 R' (K+D)):=by rw[←hMt];exact y1
        rw[hy1]at hs2;exact JeM (A:=((encs X).length:Int)) HX.out HOK.out HCOME.out ⟨y2,y3,y4,y5,by rw[y6,if_pos hK,JbU]⟩ hs2 hS0 hS3 (by omega) (by omega) hputl (HBW.out.trans (HB2.out.mono HBW.out.size))
      . go_wp2_with (first
          | (go_at_call 101;refine(cT.out _ (by exact HBW.out.alloc HBW.out.size _) (by exact Jb7 HPC.out ((brf wr.heap.size wr).alloc (nlr _) _) (nlr _))).mono ?_;rintro e w2 ⟨rfl,hb2⟩;have HB2:Hid (Below wr.heap.size wr w2):=((brf wr.heap.size wr).alloc (nlr _) _).trans (hb2.mono (by simp));have hz2:wr.heap.size+1<=w2.heap.size:=by have:=hb2.size;simpa using this
             have x0:w2.cell? ⟨wr.heap.size,0,none⟩=some (.int .i64 K):=(hb2.cell (p:=⟨wr.heap.size,0,none⟩) (by simp)).trans (by simp);have x1:w2.cell? ⟨wr.heap.size,1,none⟩=some (.int .i64 D):=(hb2.cell (p:=⟨wr.heap.size,1,none⟩) (by simp)).trans (by simp)
             have x2:w2.cell? ⟨wr.heap.size,2,none⟩=some (.string ⟨U.toArray⟩):=(hb2.cell (p:=⟨wr.heap.size,2,none⟩) (by simp)).trans (by simp);clear hb2)
          | fail)
        refine⟨⟨x+1,by go_num,?_⟩,by simp[intOf];omega⟩;obtain⟨y1,y2,y3,y4,y5,y6⟩:=HX3.out;have hs2:=Jb7 (Jf2 HSL.out hMn) HB2.out (nlr _);have hy1:(rowZ 3 R').drop M=rowZ 3 (Jbb 3 R' (K+D)):=by rw[←hMt];exact y1
        rw[hy1]at hs2;have hfin:=JeM (A:=0) HX.out HOK.out HCOME.out ⟨y2,y3,y4,y5,by rw[y6,if_neg (by omega)]⟩ hs2 hS0 hS3 (by omega) (by omega) hputl (HBW.out.trans (HB2.out.mono HBW.out.size));rw[Int.add_zero]at hfin;exact hfin
    . have he:JaU R' 3 (K+D)=false:=by simpa using he
      have hbad:=JfX HU.out HSTEP.out HR'.out he;have hMt:(K+D).toNat=M:=by omega
      rw[hMt]at hbad;have HV:Hid (szV 3 R qs=0/\szE 3 R qs=10):=Jo7 (by rw[HOK.out];unfold okZ;rw[show lenP ⟨K,D,U⟩=K+D from rfl,he];rfl);exact(Jo0 R' M HR'.out hbad).elim
  . obtain rfl:x=N:=by have:=HN.out;omega
    have hxlN:¬((x:Int)<(x:Int)):=by omega
    have HV:Hid (szV 3 R qs=S/\szE 3 R qs=0):=by
     rw[←HN.out,List.drop_length]at hok hcome;exact Jlp hok hcome
    have HBW:=hdz hbw;clear hok hcome hsl hR' hlong hbw;go_wp2
    go_ret2
    refine⟨?_,HBW.out⟩;rw[HV.out.1,HV.out.2];rfl
theorem infoE3:(Tryz.prog.info? 21).map (fun i=>(i.zero,i.size,i.bytes))=some (some (.int .i32 0),1,4):=by kernel_rfl
theorem JoU(b:Nat)(p:Option Addr)(n c:Nat)(R:List Nat)(qs:List Pt)(v:Value)(w:World)(hT:Lib.Utf8Tabs 2 3 w)(hR:∀r∈R,Jaw r)(hcell:w.cell? ⟨b,3,none⟩=some (.slice p n c))(hsl:sl w .i32 p n c (rowZ 3 R))(hr:opAt w v qs)(hc:chkE qs (by_ 3 R)=0)(hl:qs.length<=1000)(hz:C1 R<=1000000)(hpl:∀q∈qs,q.put.length<=1000000)(hno:plE 3 R qs≠0) :
    Calls Tryz.prog 100 #[.pointer (some ⟨b,3,none⟩),v,.func (.func 101) #[] #[],.func (.func 102) #[] #[]] w fun e w'=>e=.returned (errV (plE 3 R qs))/\Below w.heap.size w w':=by
 have cS:Hid _:=Jkl p n c R qs v w hT hR hsl hr hc hl hz hpl;obtain⟨hop,cop,rfl,_⟩:=hr
 rcases pl_no hno with ⟨e1,e2,e3⟩|⟨e1,e2,e3,e4⟩
 . rw [e1,e2]at cS
   rw[e3];clear hT hR hsl hc hl hz hpl hno e1 e2 e3
   go_enter Tryz.func100,Tryz.ntmps100
   go_wp2_with (first
    | (go_at_call 167;refine Calls.mono cS.out ?_;rw[Jmd];rintro e w1 ⟨rfl,hb1⟩)
    | fail)
   go_ret;exact⟨rfl,hb1⟩
 . rw [e1,e2]at cS
   rw[e3];generalize C1 (Ja4 3 R qs)=Z at cS e4;clear hT hR hsl hc hl hz hpl hno e1 e2 e3
   go_enter Tryz.func100,Tryz.ntmps100
   go_wp2_with (first
    | (go_at_call 167;refine Calls.mono cS.out ?_;rw[Jd9];rintro e w1 ⟨rfl,hb1⟩)
    | fail)
   go_ret;exact⟨rfl,hb1⟩
theorem Jn1(b:Nat)(p:Option Addr)(n c:Nat)(R:List Nat)(qs:List Pt)(v:Value)(w:World)(hT:Lib.Utf8Tabs 2 3 w)(hR:∀r∈R,Jaw r)(hcell:w.cell? ⟨b,3,none⟩=some (.slice p n c))(hfz:w.frozen? ⟨b,3,none⟩=false)(hsl:sl w .i32 p n c (rowZ 3 R))(hr:opAt w v qs)(hc:chkE qs (by_ 3 R)=0)(hl:qs.length<=1000)(hz:C1 R<=1000000)(hpl:∀q∈qs,q.put.length<=1000000)(hok:okZ 3 R qs=true)(hsm:C1 (Ja4 3 R qs)<=8000) :
    Calls Tryz.prog 100 #[.pointer (some ⟨b,3,none⟩),v,.func (.func 101) #[] #[],.func (.func 102) #[] #[]] w fun e w'=>e=.returned .nilIface/\∃W p' n' c',Below w.heap.size w W/\w'=W.setCell ⟨b,3,none⟩ (.slice p' n' c')/\sl W .i32 p' n' c' (rowZ 3 (Ja4 3 R qs))/\∀a,p'=some a->w.heap.size<=a.block:=by
 have hu:Ja3 3:=by unfold Ja3;omega
 obtain⟨hp1,hp2,hp3⟩:=JbZ hc;have cS:Hid (Calls Tryz.prog 167 #[.slice p n c,v,.func (.func 101) #[] #[]] w fun e w'=>e=.returned (.tuple #[.int .i64 (C1 (Ja4 3 R qs)),.nilIface])/\Below w.heap.size w w'):=by
  have:=Jkl p n c R qs v w hT hR hsl hr hc hl hz hpl;unfold szV szE at this;rw[hok,if_pos rfl,if_pos rfl,Jd9]at this;exact this
 have hbw0:=blt w _ hcell;have hbw0:b<w.heap.size:=hbw0;have HU:Hid (Ja3 3):=hu;have HT:Hid (Lib.Utf8Tabs 2 3 w):=hT;have HOP:Hid (opAt w v qs):=hr;have HP1:Hid (∀p∈qs,oneB p=true/\(scan p.put).2=true):=hp1;have HPL:Hid (∀q∈qs,q.put.length<=1000000):=hpl;have HCE:Hid (w.cell? ⟨b,3,none⟩=some (.slice p n c)):=hcell;have HFZ:Hid (w.frozen? ⟨b,3,none⟩=false):=hfz;have HST:Hid (∀w1,Below w.heap.size w w1->plI w 21 3 .i32 R qs 0 (.slice none 0 0) (.slice p n c) w1):=fun w1 hb=>Jhq hz hsl hR hp2 hok hb
 have hC0:=JdM (Ja4 3 R qs);have HSM:Hid (C1 (Ja4 3 R qs)<=8000):=hsm;obtain⟨Z,hZ⟩:∃Z,C1 (Ja4 3 R qs)=Z:=⟨_,rfl⟩;rw[hZ]at cS hsm hC0;obtain⟨pq,cq,rfl,r1,r2,r3⟩:=hr;unfold maxLen at r2;obtain⟨N,hN⟩:∃N,qs.length=N:=⟨_,rfl⟩;rw[hN]at r1 hl cS ⊢;have HN:Hid (qs.length=N):=hN;have hN0:(N:Int)<=1000:=by omega
 obtain⟨i0,hi,hz0,hz1,hz2⟩:=info_parts infoE3;clear hT hR hsl hc hp1 hp2 hp3 r3 hz hpl hu hN hok hZ hfz
 go_enter Tryz.func100,Tryz.ntmps100
 go_wp2_with (first
  | (go_at_call 167;refine Calls.mono cS.out ?_;rintro e w1 ⟨rfl,hb1⟩;have HB1:=hdz hb1;have hc1:w1.cell? ⟨b,3,none⟩=some (.slice p n c):=(hb1.cell (p:=⟨b,3,none⟩) hbw0).trans HCE.out;clear hb1 hcell)
  | fail)
 have HI:Hid (plI w 21 3 .i32 R qs 0 (.slice none 0 0) (.slice p n c) w1):=HST.out w1 HB1.out;clear hc1 HST cS HB1 hsm hC0
 go_loopw [11,12,35] (fun v11 v12 i wr=>∃x:Nat,i=.int .i64 x/\plI w 21 3 .i32 R qs x v11 v12 wr) (fun _ _ i _=>N - (intOf i).toNat)
 case atStart=>exact⟨0,rfl,HI.out⟩
 case round =>
  obtain⟨x,rfl,hst⟩:=hrel;obtain⟨L,p',n',c',R',hown,rfl,hsl,hR',hlong,hok,hcome,hCR,hx,hbw,hsz⟩:=hst;obtain⟨p11,c11,rfl⟩:=Jad hown;clear HI
  by_cases hlt:x<N
  . have hxr:x<qs.length:=by rw[HN.out];exact hlt
    have hne:qs≠[]:=by intro e;rw[e]at hxr;exact absurd hxr (Nat.not_lt_zero _)
    obtain⟨p0,c0,hvv,_,_,hcell⟩:=HOP.out;obtain⟨b0,o,rfl,hb0,hcell⟩:=hcell hne;obtain⟨f0,f1,f2⟩:=hcell x qs[x] (lgg hxr);have g0:=(hbw.cell (p:=⟨b0,o+x*3,none⟩) hb0).trans f0;have g1:=(hbw.cell (p:=⟨b0,o+x*3+1,none⟩) hb0).trans f1;have g2:=(hbw.cell (p:=⟨b0,o+x*3+2,none⟩) hb0).trans f2;obtain rfl:pq=some ⟨b0,o,none⟩:=by injection hvv
    clear hvv hcell f0 f1 f2 hne;have hq:=HP1.out _ (List.getElem_mem hxr);have hputl:=HPL.out _ (List.getElem_mem hxr);have hdk:qs.drop x=qs[x] :: qs.drop (x+1):=List.drop_eq_getElem_cons hxr;have hstep:=JfW HU.out hdk hq (fun y hy=>HP1.out y (List.mem_of_mem_drop hy)) hsl hR' hlong hCR;rw[hdk]at hok hcome;have HOK:Hid (okZ 3 R' (qs[x] :: qs.drop (x+1))=true):=hok;have HCOME:Hid (Ja4 3 R qs=L++Ja4 3 R' (qs[x] :: qs.drop (x+1))):=hcome;have HBW:=hdz hbw;have HSZ:Hid (w.heap.size<=wr.heap.size):=hsz;have HX:Hid (x<qs.length):=hxr;have HSL:Hid (sl w .i32 p' n' c' (rowZ 3 R')):=hsl;have HR':Hid (∀r∈R',Jaw r):=hR';have HCR:Hid (C1 R'<=1000000):=hCR;have HOWN:Hid (wr.ownsRow w.heap.size 21 1 (.slice p11 (rowZ 3 L).length c11) (rowZ 3 L).length ((rowZ 3 L).map (Value.int .i32))):=hown;clear hok hcome hbw hsl hR' hlong hdk hown hsz;generalize qs[x]=q at *;obtain⟨K,D,U⟩:=q;simp only at g0 g1 g2 hputl;have hK0:0<=K:=hstep.k0;have hD0:0<=D:=hstep.d0;have hKD:K+D<=(n':Int):=hstep.le;obtain⟨hcc,hcm,hnn⟩:=Jiv HSL.out;unfold maxLen at hcm;have hUz:(ByteArray.mk U.toArray).size=U.length:=by simp[ByteArray.size]
    obtain⟨M,hM⟩:∃M:Nat,K+D=(M:Int):=⟨(K+D).toNat,by omega⟩;obtain⟨Kn,rfl⟩:∃Kn:Nat,K=(Kn:Int):=⟨K.toNat,by omega⟩;have hMn:M<=n':=by omega
    have hKn:Kn<=n':=by omega
    have he:JaU R' 3 ((Kn:Int)+D)=true:=by
     have:=HOK.out;unfold okZ at this;rw[Bool.and_eq_true]at this;exact this.1
    have hsg:=JcN HU.out hstep HR'.out HCR.out he;obtain⟨hpX,hX1,hX2,hX3,hX4,hX5,hX6,hX7,_⟩:=hsg;have hMt:((Kn:Int)+D).toNat=M:=by omega
    rw[hMt]at hpX hX3;obtain⟨Y,hY⟩:∃Y,(if 0<(Kn:Int) then upTo R' 3 ((Kn:Int)+D) else [])=Y:=⟨_,rfl⟩;have hrowY:(rowZ 3 R').take Kn=rowZ 3 Y:=JlH hq.1 hM hY hpX;have hcomes:Ja4 3 R qs=(L++Y++Jal U)++Ja4 3 (Jbb 3 R' ((Kn:Int)+D)) (qs.drop (x+1)):=by
     rw[HCOME.out];show L++(((if 0<(Kn:Int) then upTo R' 3 ((Kn:Int)+D) else [])++Jal U)++_)=_;rw[hY];simp only[List.append_assoc];rfl
    have hlens:=JlG HU.out HSM.out hcomes;have HROW:Hid ((rowZ 3 L).map (Value.int .i32)++(rowZ 3 Y).map (Value.int .i32)++(rowZ 3 (Jal U)).map (Value.int .i32)=(rowZ 3 (L++Y++Jal U)).map (Value.int .i32)):=by
     show _=_;rw[Jbm,Jbm,List.map_append,List.map_append]
    have HLN:Hid ((rowZ 3 (L++Y++Jal U)).length=(rowZ 3 L).length+Kn+(rowZ 3 (Jal U)).length):=by
     show _=_;have:(rowZ 3 Y).length=Kn:=by rw[←hrowY,List.length_take];omega
     rw[Jbm,Jbm,List.length_append,List.length_append,this]
    have HPC:Hid (sl w .i32 p' Kn c' (rowZ 3 Y)):=by
     show sl w .i32 p' Kn c' (rowZ 3 Y);rw[←hrowY];exact JfY HSL.out hKn
    have HNEXT:Hid (∀(v:Value) (pp:Option Addr) (nn cc:Nat) wn,wn.ownsRow w.heap.size 21 1 v ((rowZ 3 (L++Y++Jal U)).length) ((rowZ 3 (L++Y++Jal U)).map (Value.int .i32))->sl w .i32 pp nn cc (rowZ 3 (Jbb 3 R' ((Kn:Int)+D)))->Below w.heap.size w wn->plI w 21 3 .i32 R qs (x+1) v (.slice pp nn cc) wn) :=
     fun v pp nn cc wn h1 h2 h3=>⟨_,pp,nn,cc,_,h1,rfl,h2,hX4,hX5,hX7.symm.trans HOK.out,hcomes,hX6,HX.out,h3,h3.size⟩
    have HX3:Hid ((rowZ 3 R').drop M=rowZ 3 (Jbb 3 R' ((Kn:Int)+D))):=hX3;have cP:Hid (∀wx,Below w.heap.size w wx->Calls Tryz.prog 102 #[.string ⟨U.toArray⟩] wx fun e w'=>∃p n c,e=.returned (.slice p n c)/\sl w' .i32 p n c (rowZ 3 (Jal U))/\Below wx.heap.size wx w'):=fun wx hb=>Jq0 U hq.2 hputl wx (Go.Proofs.Utf8Tabs_below HT.out hb)
    obtain⟨hl1,hl2,hl3⟩:=hlens;have hxlN:(x:Int)<(N:Int):=by omega
    have hYl:(rowZ 3 Y).length=Kn:=by rw[←hrowY,List.length_take];omega
    obtain⟨LL,hLL⟩:∃LL,(rowZ 3 L).length=LL:=⟨_,rfl⟩;obtain⟨UL,hUL⟩:∃UL,(rowZ 3 (Jal U)).length=UL:=⟨_,rfl⟩;rw[hLL]at hl1 HOWN HLN ⊢;rw[hYl]at hl2;rw[hUL]at hl3 HLN;have HUL:Hid ((rowZ 3 (Jal U)).length=UL):=hUL;clear hstep hnn hxr hpX hX1 hX2 hX3 hX4 hX5 hX6 hX7 he hrowY hcomes hY hq hM hLL hUL hYl HOK
    go_wp2_with (first
     | (at_builtin;refine JbC _ rfl _ _ 141 rfl w.heap.size 21 i0 (.int .i32 0) 4 Tryz.underlying141 hi hz0 hz1 hz2 rfl _ _ _ rfl (HOWN.out.alloc _) .i32 p' Kn c' (rowZ 3 Y) rfl (Jb7 HPC.out (HBW.out.alloc HSZ.out _) (nlr _)) (by unfold maxLen;omega) (by omega) (by have:=HSZ.out;simp;omega) ?_)
     | fail)
    intro v' w2 hown' hg';obtain⟨p12,c12,rfl⟩:=Jad hown';have hbox:w2.heap[wr.heap.size]?=some (.cells #[.int .i64 (Kn:Int),.int .i64 D,.string ⟨U.toArray⟩] 50 (0,0)):=Jdn (heap_alloc_new _ _) (HOWN.out.alloc _) hg' (by intro c fz e;cases e);have x0:w2.cell? ⟨wr.heap.size,0,none⟩=some (.int .i64 (Kn:Int)):=chp hbox 0;have x1:w2.cell? ⟨wr.heap.size,1,none⟩=some (.int .i64 D):=chp hbox 1;have x2:w2.cell? ⟨wr.heap.size,2,none⟩=some (.string ⟨U.toArray⟩):=chp hbox 2;have HBOX:Hid (w2.heap[wr.heap.size]?=some (.cells #[.int .i64 (Kn:Int),.int .i64 D,.string ⟨U.toArray⟩] 50 (0,0))):=hbox;have HO2:Hid (w2.ownsRow w.heap.size 21 1 (.slice p12 (LL+Kn) c12) (LL+Kn) ((rowZ 3 L).map (Value.int .i32)++(rowZ 3 Y).map (Value.int .i32))):=hown';have HBW2:Hid (Below w.heap.size w w2):=(HBW.out.alloc HSZ.out _).grown hg' (by rw[wsa];have:=HSZ.out;omega) fun k hk=>(HOWN.out.lt k hk).1
    have hsz2:wr.heap.size+1<=w2.heap.size:=by have:=hg'.size;rwa[World.size_alloc]at this
    have HSZ2:Hid (wr.heap.size+1<=w2.heap.size):=hsz2;clear hbox hown' hg' HOWN HPC HBW g0 g1 g2
    go_wp2_with (first
     | (go_at_call 102;refine(cP.out _ HBW2.out).mono ?_;rintro e w3 ⟨pz,nz,cz,rfl,hs3,hb3⟩;have HS3:Hid (sl w3 .i32 pz nz cz (rowZ 3 (Jal U))):=hs3;have hnz:nz=UL:=by rw[hs3.1];exact HUL.out
        have HO3:Hid (w3.ownsRow w.heap.size 21 1 (.slice p12 (LL+Kn) c12) (LL+Kn) ((rowZ 3 L).map (Value.int .i32)++(rowZ 3 Y).map (Value.int .i32))):=Jaj HO2.out hb3;have HBW3:Hid (Below w.heap.size w w3):=HBW2.out.trans (hb3.mono HBW2.out.size);have hbox:w3.heap[wr.heap.size]?=some (.cells #[.int .i64 (Kn:Int),.int .i64 D,.string ⟨U.toArray⟩] 50 (0,0)):=(hb3.block wr.heap.size (by have:=HSZ2.out;omega)).trans HBOX.out;have HBOX3:Hid (w3.heap[wr.heap.size]?=some (.cells #[.int .i64 (Kn:Int),.int .i64 D,.string ⟨U.toArray⟩] 50 (0,0))):=hbox;subst hnz
        clear hs3 hb3 hbox x0 x1 x2)
     | (at_builtin;refine JbC _ rfl _ _ 141 rfl w.heap.size 21 i0 (.int .i32 0) 4 Tryz.underlying141 hi hz0 hz1 hz2 rfl _ _ _ rfl HO3.out .i32 pz nz cz (rowZ 3 (Jal U)) rfl HS3.out (by unfold maxLen;omega) (by omega) HBW3.out.size ?_)
     | fail)
    intro v' w4 hown' hg';obtain⟨p14,c14,rfl⟩:=Jad hown';have hbox:w4.heap[wr.heap.size]?=some (.cells #[.int .i64 (Kn:Int),.int .i64 D,.string ⟨U.toArray⟩] 50 (0,0)):=Jdn HBOX3.out HO3.out hg' (by intro c fz e;cases e);have x0:w4.cell? ⟨wr.heap.size,0,none⟩=some (.int .i64 (Kn:Int)):=chp hbox 0;have x1:w4.cell? ⟨wr.heap.size,1,none⟩=some (.int .i64 D):=chp hbox 1;rw[←List.append_assoc]at hown';have HO4:Hid (w4.ownsRow w.heap.size 21 1 (.slice p14 (LL+Kn+nz) c14) (LL+Kn+nz) ((rowZ 3 L).map (Value.int .i32)++(rowZ 3 Y).map (Value.int .i32)++(rowZ 3 (Jal U)).map (Value.int .i32))):=hown';have HBW4:Hid (Below w.heap.size w w4):=HBW3.out.grown hg' HBW3.out.size fun k hk=>(HO3.out.lt k hk).1
    clear hbox hown' hg' HO3 HS3 HBW3 HBOX3 HBOX;go_wp2;refine⟨⟨x+1,by go_num,?_⟩,by simp[intOf];omega⟩;have hs5:=Jf2 HSL.out hMn;rw[HX3.out]at hs5;refine HNEXT.out _ _ _ _ _ ?_ hs5 HBW4.out;have ho4:=HO4.out;rw[HROW.out,←HLN.out]at ho4;rw[←HLN.out];exact ho4
  . obtain rfl:x=N:=by have:=HN.out;omega
    have hxlN:¬((x:Int)<(x:Int)):=by omega
    rw[←HN.out,List.drop_length]at hcome;have HE:Hid (Ja4 3 R qs=L):=by show _=_;rw[hcome];exact List.append_nil _
    have HBW:=hdz hbw;have HOWN:Hid (wr.ownsRow w.heap.size 21 1 (.slice p11 (rowZ 3 L).length c11) (rowZ 3 L).length ((rowZ 3 L).map (Value.int .i32))):=hown;have hc2:wr.cell? ⟨b,3,none⟩=some (.slice p n c):=(hbw.cell (p:=⟨b,3,none⟩) hbw0).trans HCE.out;have hf2:wr.frozen? ⟨b,3,none⟩=false:=(hbw.frozen (p:=⟨b,3,none⟩) hbw0).trans HFZ.out;clear hok hcome hsl hR' hlong hbw hown hsz hlt;go_wp2;go_ret;obtain⟨p2,c2,e2,s2⟩:=Jkk rfl HOWN.out;injection e2 with e2 e3 e4
    subst e2 e4;refine⟨rfl,?_⟩;exact⟨wr,HBW.out,p11,_,c11,rfl,by rw[HE.out];exact s2,fun a ha=>(HOWN.out.lt a.block (by rw[ha];rfl)).1⟩
variable {w : World}{b u : Nat}{rs : List Nat}
def kindU (u:Nat):IntKind:=if u=1 then .u8 else if u=2 then .u16 else .i32
def JaW (w:World) (b u:Nat) (rs:List Nat):Prop :=
 w.cell? ⟨b,0,none⟩=some (.int .i64 (u:Int))/\w.frozen? ⟨b,u,none⟩=false/\∃p n c,w.cell? ⟨b,u,none⟩=some (.slice p n c)/\sl w (kindU u) p n c (rowZ (u:Int) rs)/\∀a,p=some a->a.block≠b
def Joq (u:Nat):Prop:=u=1\/u=2\/u=3
theorem JeT(h:JaW w b u rs):b<w.heap.size:=blt w _ h.1
theorem JaB{w':World}(h:JaW w b u rs)(hb:Below w.heap.size w w'):JaW w' b u rs:=by
 have hl:=JeT h;obtain⟨h1,h2,p,n,c,h3,h4,h5⟩:=h;exact⟨(hb.cell (p:=⟨b,0,none⟩) hl).trans h1,(hb.frozen (p:=⟨b,u,none⟩) hl).trans h2,p,n,c,(hb.cell (p:=⟨b,u,none⟩) hl).trans h3,Jqw h4 hb,h5⟩
theorem Jcs(b u:Nat)(rs:List Nat)(w:World)(h:JaW w b u rs):Calls Tryz.prog 35 #[.pointer (some ⟨b,0,none⟩)] w fun e w'=>e=.returned (.int .i64 (u:Int))/\w'=w:=by
 obtain⟨h1,_⟩:=h
 go_enter Tryz.func35,Tryz.ntmps35
 go_wp2;go_ret;exact⟨rfl,rfl⟩
def shE (u:Int) (R:List Nat) (qs:List Pt):Int:=if chkE qs (by_ u R)=0 then plE u R qs else chkE qs (by_ u R)
def shR (u:Int) (R:List Nat) (qs:List Pt):List Nat:=if shE u R qs=0 then Ja4 u R qs else R
theorem Jfo{W:World}{p p0:Option Addr}{n c n0 c0:Nat}(h0:W.cell? ⟨b,0,none⟩=some (.int .i64 (u:Int)))(h1:W.cell? ⟨b,u,none⟩=some (.slice p0 n0 c0))(hf:W.frozen? ⟨b,u,none⟩=false)(hs:sl W (kindU u) p n c (rowZ (u:Int) rs))(hne:∀a,p=some a->a.block≠b):JaW (W.setCell ⟨b,u,none⟩ (.slice p n c)) b u rs:=by
 have hu0:u≠0:=fun e=>by subst e;rw[h0]at h1;cases h1
 refine⟨?_,?_,p,n,c,?_,?_,hne⟩
 . rw[World.cell?_setCell_other _ _ _ _ (fun e=>hu0 (congrArg Addr.off e))];exact h0
 . rw[World.frozen?_setCell];exact hf
 . exact World.cell?_setCell_same _ _ _ h1
 . obtain ⟨s1,s2⟩:=hs
   refine⟨s1,?_⟩
   rcases s2 with s2|⟨b',o,rfl,s3,s4,s5,s6⟩
   . exact .inl s2
   . refine .inr ⟨b',o,rfl,s3,s4,by rw[World.size_setCell];exact s5,fun i z hi=>?_⟩
     have hb:b'≠b:=hne _ rfl;rw[World.cell?_of_block (w:=W) (a:=⟨b',o+i,none⟩) (Below.heap_setCell W ⟨b,u,none⟩ _ b' hb)];exact s6 i z hi
theorem Jiz(b:Nat)(rs:List Nat)(w:World)(h:JaW w b 1 rs):Calls Tryz.prog 33 #[.pointer (some ⟨b,0,none⟩)] w fun e w'=>e=.returned (.int .i64 (by_ 1 rs))/\w'=w:=by
 have hu:=Jcs b 1 rs w h;obtain⟨_,_,p,n,c,h3,h4,_⟩:=h;have hn:(n:Int)=by_ 1 rs:=by rw[h4.1];exact JcE (by unfold Ja3;omega) rs
 rw[←hn];have hu:Calls Tryz.prog 35 #[.pointer (some ⟨b,0,none⟩)] w fun e w'=>e=.returned (.int .i64 1)/\w'=w:=hu
 have HU:=hdz hu;clear h4 hn hu
 go_enter Tryz.func33,Tryz.ntmps33
 go_wp2_with (first
  | (go_at_call 35;refine Calls.mono HU.out ?_;rintro e w1 ⟨rfl,hw1⟩;obtain rfl:=hw1.symm)
  | fail)
 go_ret;exact⟨rfl,rfl⟩
theorem Jkr(b:Nat)(rs:List Nat)(qs:List Pt)(v:Value)(w:World)(h:JaW w b 1 rs)(hR:∀r∈rs,Jaw r)(hz:C1 rs<=100000)(hT:Lib.Utf8Tabs 2 3 w)(hr:opAt w v qs)(hwf:∀q∈qs,wfP q)(hl:qs.length<=1000)(hpl:∀q∈qs,q.put.length<=1000000) :
    Calls Tryz.prog 26 #[.pointer (some ⟨b,0,none⟩),v] w fun e w'=>e=.returned (errV (shE 1 rs qs))/\JaW w' b 1 (shR 1 rs qs)/\Below b w w':=by
 have hlt:=JeT h;have hL:=Jiz b rs w h;have hu:Calls Tryz.prog 35 #[.pointer (some ⟨b,0,none⟩)] w fun e w'=>e=.returned (.int .i64 1)/\w'=w:=Jcs b 1 rs w h
 have hby:=JhI (u:=1) (by unfold Ja3;omega) rs;have hby0:=Jea 1 rs;have hC:=Jco v qs (by_ 1 rs) w hT hr hwf (by omega) (by omega);have HL:=hdz hL;have HSH:Hid (JaW w b 1 rs):=h;have hb0:∀{w'},Below w.heap.size w w'->Below b w w':=fun h=>h.mono (by omega)
 have hvs:∃p c,v=.slice p qs.length c:=by obtain⟨p,c,e,_⟩:=hr;exact⟨p,c,e⟩
 obtain⟨pv,cv,rfl⟩:=hvs;unfold shR shE
 by_cases hc:chkE qs (by_ 1 rs)=0
 case neg =>
  rw[if_neg hc,if_neg hc];have hV:errV (chkE qs (by_ 1 rs))=.iface 26 (.int .i64 (chkE qs (by_ 1 rs))):=by unfold errV;rw[if_neg hc]
  rw[hV]at hC ⊢;have HC:=hdz hC;generalize chkE qs (by_ 1 rs)=E at *;generalize by_ 1 rs=BY at *;clear hT hr hwf hl hpl hC hL hu hV hR hz h hby hby0
  go_enter Tryz.func26,Tryz.ntmps26
  go_wp2_with (first
   | (go_at_call 33;refine Calls.mono HL.out ?_;rintro e w1 ⟨rfl,hw1⟩;obtain rfl:=hw1.symm)
   | (go_at_call 92;refine Calls.mono HC.out ?_;rintro e w2 ⟨rfl,hb2⟩)
   | fail)
  go_ret;exact⟨rfl,JaB HSH.out hb2,hb0 hb2⟩
 case pos =>
  rw[if_pos hc];rw[hc,Jd9]at hC;have HC:=hdz hC;have HU:Hid (∀w1,Below w.heap.size w w1->Calls Tryz.prog 35 #[.pointer (some ⟨b,0,none⟩)] w1 fun e w'=>e=.returned (.int .i64 1)/\w'=w1):=fun w1 hb=>Jcs b 1 rs w1 (JaB HSH.out hb)
  by_cases hp:plE 1 rs qs=0
  case neg =>
   rw[if_neg hp];have HP:Hid (∀w1,Below w.heap.size w w1->Calls Tryz.prog 93 #[.pointer (some ⟨b,1,none⟩),.slice pv qs.length cv,.func (.func 94) #[] #[],.func (.func 95) #[] #[]] w1 fun e w'=>e=.returned (errV (plE 1 rs qs))/\Below w1.heap.size w1 w'):=fun w1 hb=>by
    obtain⟨_,_,p,n,c,h3,h4,_⟩:=JaB HSH.out hb;exact JoW b p n c rs qs _ w1 (Go.Proofs.Utf8Tabs_below hT hb) hR h3 h4 (Ja6 hr hb (nlr _)) hc hl (by omega) hpl hp
   generalize errV (plE 1 rs qs)=EV at *;generalize by_ 1 rs=BY at *;clear hT hr hwf hl hpl hC hL hu hR hz h hby hby0 hc hp
   go_enter Tryz.func26,Tryz.ntmps26
   go_wp2_with (first
    | (go_at_call 33;refine Calls.mono HL.out ?_;rintro e w1 ⟨rfl,hw1⟩;obtain rfl:=hw1.symm)
    | (go_at_call 92;refine Calls.mono HC.out ?_;rintro e w2 ⟨rfl,hb2⟩;have HB2:=hdz hb2;clear hb2)
    | (go_at_call 35;refine(HU.out _ HB2.out).mono ?_;rintro e w3 ⟨rfl,hw3⟩;obtain rfl:=hw3.symm)
    | (go_at_call 93;refine(HP.out _ HB2.out).mono ?_;rintro e w3 ⟨rfl,hb3⟩;have HB3:=hdz (HB2.out.trans (hb3.mono HB2.out.size));clear hb3)
    | fail)
   go_ret;exact⟨rfl,JaB HSH.out HB3.out,hb0 HB3.out⟩
  case pos =>
   rw[hp,if_pos rfl,Jd9]
   have hok:okZ 1 rs qs=true/\C1 (Ja4 1 rs qs)<=8000:=by
    unfold plE at hp
    split at hp
    . split at hp
      . exact⟨‹_›,‹_›⟩
      . cases hp
    . cases hp
   have HP:Hid (∀w1,Below w.heap.size w w1->Calls Tryz.prog 93 #[.pointer (some ⟨b,1,none⟩),.slice pv qs.length cv,.func (.func 94) #[] #[],.func (.func 95) #[] #[]] w1 fun e w'=>e=.returned .nilIface/\JaW w' b 1 (Ja4 1 rs qs)/\Below b w1 w'):=fun w1 hb=>by
    have hsh:=JaB HSH.out hb;obtain⟨h1,h2,p,n,c,h3,h4,_⟩:=hsh;refine(Jn3 b p n c rs qs _ w1 (Go.Proofs.Utf8Tabs_below hT hb) hR h3 h2 h4 (Ja6 hr hb (nlr _)) hc hl (by omega) hpl hok.1 hok.2).mono ?_
    rintro e w' ⟨rfl,W,p',n',c',hB,rfl,hs,hne⟩;have hlt1:b<w1.heap.size:=by have:=hb.size;omega
    have hltW:b<W.heap.size:=by have:=hB.size;omega
    have c0:W.cell? ⟨b,0,none⟩=some (.int .i64 ((1:Nat):Int)):=(hB.cell (p:=⟨b,0,none⟩) hlt1).trans h1;have c1:W.cell? ⟨b,1,none⟩=some (.slice p n c):=(hB.cell (p:=⟨b,1,none⟩) hlt1).trans h3;have f1:W.frozen? ⟨b,1,none⟩=false:=(hB.frozen (p:=⟨b,1,none⟩) hlt1).trans h2;exact⟨rfl,Jfo c0 c1 f1 hs (fun a ha=>by have:=hne a ha;have:=hlt1;omega),(hB.mono (Nat.le_of_lt hlt1)).setCell (p:=⟨b,1,none⟩) (nlr _) _⟩
   generalize by_ 1 rs=BY at *;clear hT hr hwf hl hpl hC hL hu hR hz h hby hby0 hc hp hok
   go_enter Tryz.func26,Tryz.ntmps26
   go_wp2_with (first
    | (go_at_call 33;refine Calls.mono HL.out ?_;rintro e w1 ⟨rfl,hw1⟩;obtain rfl:=hw1.symm)
    | (go_at_call 92;refine Calls.mono HC.out ?_;rintro e w2 ⟨rfl,hb2⟩;have HB2:=hdz hb2;clear hb2)
    | (go_at_call 35;refine(HU.out _ HB2.out).mono ?_;rintro e w3 ⟨rfl,hw3⟩;obtain rfl:=hw3.symm)
    | (go_at_call 93;refine(HP.out _ HB2.out).mono ?_;rintro e w3 ⟨rfl,hs3,hb3⟩;have HS3:=hdz hs3;have HB3:Hid (Below b w w3):=(hb0 HB2.out).trans hb3;clear hb3 hs3)
    | fail)
   go_ret;exact⟨rfl,HS3.out,HB3.out⟩
theorem Jiy(b:Nat)(rs:List Nat)(w:World)(h:JaW w b 2 rs):Calls Tryz.prog 33 #[.pointer (some ⟨b,0,none⟩)] w fun e w'=>e=.returned (.int .i64 (by_ 2 rs))/\w'=w:=by
 have hu:=Jcs b 2 rs w h;obtain⟨_,_,p,n,c,h3,h4,_⟩:=h;have hn:(n:Int)=by_ 2 rs:=by rw[h4.1];exact JcE (by unfold Ja3;omega) rs
 rw[←hn];have hu:Calls Tryz.prog 35 #[.pointer (some ⟨b,0,none⟩)] w fun e w'=>e=.returned (.int .i64 2)/\w'=w:=hu
 have HU:=hdz hu;clear h4 hn hu
 go_enter Tryz.func33,Tryz.ntmps33
 go_wp2_with (first
  | (go_at_call 35;refine Calls.mono HU.out ?_;rintro e w1 ⟨rfl,hw1⟩;obtain rfl:=hw1.symm)
  | fail)
 go_ret;exact⟨rfl,rfl⟩
theorem Jkq(b:Nat)(rs:List Nat)(qs:List Pt)(v:Value)(w:World)(h:JaW w b 2 rs)(hR:∀r∈rs,Jaw r)(hz:C1 rs<=100000)(hT:Lib.Utf8Tabs 2 3 w)(hr:opAt w v qs)(hwf:∀q∈qs,wfP q)(hl:qs.length<=1000)(hpl:∀q∈qs,q.put.length<=1000000) :
    Calls Tryz.prog 26 #[.pointer (some ⟨b,0,none⟩),v] w fun e w'=>e=.returned (errV (shE 2 rs qs))/\JaW w' b 2 (shR 2 rs qs)/\Below b w w':=by
 have hlt:=JeT h;have hL:=Jiy b rs w h;have hu:Calls Tryz.prog 35 #[.pointer (some ⟨b,0,none⟩)] w fun e w'=>e=.returned (.int .i64 2)/\w'=w:=Jcs b 2 rs w h
 have hby:=JhI (u:=2) (by unfold Ja3;omega) rs;have hby0:=Jea 2 rs;have hC:=Jco v qs (by_ 2 rs) w hT hr hwf (by omega) (by omega);have HL:=hdz hL;have HSH:Hid (JaW w b 2 rs):=h;have hb0:∀{w'},Below w.heap.size w w'->Below b w w':=fun h=>h.mono (by omega)
 have hvs:∃p c,v=.slice p qs.length c:=by obtain⟨p,c,e,_⟩:=hr;exact⟨p,c,e⟩
 obtain⟨pv,cv,rfl⟩:=hvs;unfold shR shE
 by_cases hc:chkE qs (by_ 2 rs)=0
 case neg =>
  rw[if_neg hc,if_neg hc];have hV:errV (chkE qs (by_ 2 rs))=.iface 26 (.int .i64 (chkE qs (by_ 2 rs))):=by unfold errV;rw[if_neg hc]
  rw[hV]at hC ⊢;have HC:=hdz hC;generalize chkE qs (by_ 2 rs)=E at *;generalize by_ 2 rs=BY at *;clear hT hr hwf hl hpl hC hL hu hV hR hz h hby hby0
  go_enter Tryz.func26,Tryz.ntmps26
  go_wp2_with (first
   | (go_at_call 33;refine Calls.mono HL.out ?_;rintro e w1 ⟨rfl,hw1⟩;obtain rfl:=hw1.symm)
   | (go_at_call 92;refine Calls.mono HC.out ?_;rintro e w2 ⟨rfl,hb2⟩)
   | fail)
  go_ret;exact⟨rfl,JaB HSH.out hb2,hb0 hb2⟩
 case pos =>
  rw[if_pos hc];rw[hc,Jd9]at hC;have HC:=hdz hC;have HU:Hid (∀w1,Below w.heap.size w w1->Calls Tryz.prog 35 #[.pointer (some ⟨b,0,none⟩)] w1 fun e w'=>e=.returned (.int .i64 2)/\w'=w1):=fun w1 hb=>Jcs b 2 rs w1 (JaB HSH.out hb)
  by_cases hp:plE 2 rs qs=0
  case neg =>
   rw[if_neg hp];have HP:Hid (∀w1,Below w.heap.size w w1->Calls Tryz.prog 96 #[.pointer (some ⟨b,2,none⟩),.slice pv qs.length cv,.func (.func 97) #[] #[],.func (.func 98) #[] #[]] w1 fun e w'=>e=.returned (errV (plE 2 rs qs))/\Below w1.heap.size w1 w'):=fun w1 hb=>by
    obtain⟨_,_,p,n,c,h3,h4,_⟩:=JaB HSH.out hb;exact JoV b p n c rs qs _ w1 (Go.Proofs.Utf8Tabs_below hT hb) hR h3 h4 (Ja6 hr hb (nlr _)) hc hl (by omega) hpl hp
   generalize errV (plE 2 rs qs)=EV at *;generalize by_ 2 rs=BY at *;clear hT hr hwf hl hpl hC hL hu hR hz h hby hby0 hc hp
   go_enter Tryz.func26,Tryz.ntmps26
   go_wp2_with (first
    | (go_at_call 33;refine Calls.mono HL.out ?_;rintro e w1 ⟨rfl,hw1⟩;obtain rfl:=hw1.symm)
    | (go_at_call 92;refine Calls.mono HC.out ?_;rintro e w2 ⟨rfl,hb2⟩;have HB2:=hdz hb2;clear hb2)
    | (go_at_call 35;refine(HU.out _ HB2.out).mono ?_;rintro e w3 ⟨rfl,hw3⟩;obtain rfl:=hw3.symm)
    | (go_at_call 96;refine(HP.out _ HB2.out).mono ?_;rintro e w3 ⟨rfl,hb3⟩;have HB3:=hdz (HB2.out.trans (hb3.mono HB2.out.size));clear hb3)
    | fail)
   go_ret;exact⟨rfl,JaB HSH.out HB3.out,hb0 HB3.out⟩
  case pos =>
   rw[hp,if_pos rfl,Jd9]
   have hok:okZ 2 rs qs=true/\C1 (Ja4 2 rs qs)<=8000:=by
    unfold plE at hp
    split at hp
    . split at hp
      . exact⟨‹_›,‹_›⟩
      . cases hp
    . cases hp
   have HP:Hid (∀w1,Below w.heap.size w w1->Calls Tryz.prog 96 #[.pointer (some ⟨b,2,none⟩),.slice pv qs.length cv,.func (.func 97) #[] #[],.func (.func 98) #[] #[]] w1 fun e w'=>e=.returned .nilIface/\JaW w' b 2 (Ja4 2 rs qs)/\Below b w1 w'):=fun w1 hb=>by
    have hsh:=JaB HSH.out hb;obtain⟨h1,h2,p,n,c,h3,h4,_⟩:=hsh;refine(Jn2 b p n c rs qs _ w1 (Go.Proofs.Utf8Tabs_below hT hb) hR h3 h2 h4 (Ja6 hr hb (nlr _)) hc hl (by omega) hpl hok.1 hok.2).mono ?_
    rintro e w' ⟨rfl,W,p',n',c',hB,rfl,hs,hne⟩;have hlt1:b<w1.heap.size:=by have:=hb.size;omega
    have hltW:b<W.heap.size:=by have:=hB.size;omega
    have c0:W.cell? ⟨b,0,none⟩=some (.int .i64 ((2:Nat):Int)):=(hB.cell (p:=⟨b,0,none⟩) hlt1).trans h1;have c1:W.cell? ⟨b,2,none⟩=some (.slice p n c):=(hB.cell (p:=⟨b,2,none⟩) hlt1).trans h3;have f1:W.frozen? ⟨b,2,none⟩=false:=(hB.frozen (p:=⟨b,2,none⟩) hlt1).trans h2;exact⟨rfl,Jfo c0 c1 f1 hs (fun a ha=>by have:=hne a ha;have:=hlt1;omega),(hB.mono (Nat.le_of_lt hlt1)).setCell (p:=⟨b,2,none⟩) (nlr _) _⟩
   generalize by_ 2 rs=BY at *;clear hT hr hwf hl hpl hC hL hu hR hz h hby hby0 hc hp hok
   go_enter Tryz.func26,Tryz.ntmps26
   go_wp2_with (first
    | (go_at_call 33;refine Calls.mono HL.out ?_;rintro e w1 ⟨rfl,hw1⟩;obtain rfl:=hw1.symm)
    | (go_at_call 92;refine Calls.mono HC.out ?_;rintro e w2 ⟨rfl,hb2⟩;have HB2:=hdz hb2;clear hb2)
    | (go_at_call 35;refine(HU.out _ HB2.out).mono ?_;rintro e w3 ⟨rfl,hw3⟩;obtain rfl:=hw3.symm)
    | (go_at_call 96;refine(HP.out _ HB2.out).mono ?_;rintro e w3 ⟨rfl,hs3,hb3⟩;have HS3:=hdz hs3;have HB3:Hid (Below b w w3):=(hb0 HB2.out).trans hb3;clear hb3 hs3)
    | fail)
   go_ret;exact⟨rfl,HS3.out,HB3.out⟩
theorem Jix(b:Nat)(rs:List Nat)(w:World)(h:JaW w b 3 rs):Calls Tryz.prog 33 #[.pointer (some ⟨b,0,none⟩)] w fun e w'=>e=.returned (.int .i64 (by_ 3 rs))/\w'=w:=by
 have hu:=Jcs b 3 rs w h;obtain⟨_,_,p,n,c,h3,h4,_⟩:=h;have hn:(n:Int)=by_ 3 rs:=by rw[h4.1];exact JcE (by unfold Ja3;omega) rs
 rw[←hn];have hu:Calls Tryz.prog 35 #[.pointer (some ⟨b,0,none⟩)] w fun e w'=>e=.returned (.int .i64 3)/\w'=w:=hu
 have HU:=hdz hu;clear h4 hn hu
 go_enter Tryz.func33,Tryz.ntmps33
 go_wp2_with (first
  | (go_at_call 35;refine Calls.mono HU.out ?_;rintro e w1 ⟨rfl,hw1⟩;obtain rfl:=hw1.symm)
  | fail)
 go_ret;exact⟨rfl,rfl⟩
theorem Jkp(b:Nat)(rs:List Nat)(qs:List Pt)(v:Value)(w:World)(h:JaW w b 3 rs)(hR:∀r∈rs,Jaw r)(hz:C1 rs<=100000)(hT:Lib.Utf8Tabs 2 3 w)(hr:opAt w v qs)(hwf:∀q∈qs,wfP q)(hl:qs.length<=1000)(hpl:∀q∈qs,q.put.length<=1000000) :
    Calls Tryz.prog 26 #[.pointer (some ⟨b,0,none⟩),v] w fun e w'=>e=.returned (errV (shE 3 rs qs))/\JaW w' b 3 (shR 3 rs qs)/\Below b w w':=by
 have hlt:=JeT h;have hL:=Jix b rs w h;have hu:Calls Tryz.prog 35 #[.pointer (some ⟨b,0,none⟩)] w fun e w'=>e=.returned (.int .i64 3)/\w'=w:=Jcs b 3 rs w h
 have hby:=JhI (u:=3) (by unfold Ja3;omega) rs;have hby0:=Jea 3 rs;have hC:=Jco v qs (by_ 3 rs) w hT hr hwf (by omega) (by omega);have HL:=hdz hL;have HSH:Hid (JaW w b 3 rs):=h;have hb0:∀{w'},Below w.heap.size w w'->Below b w w':=fun h=>h.mono (by omega)
 have hvs:∃p c,v=.slice p qs.length c:=by obtain⟨p,c,e,_⟩:=hr;exact⟨p,c,e⟩
 obtain⟨pv,cv,rfl⟩:=hvs;unfold shR shE
 by_cases hc:chkE qs (by_ 3 rs)=0
 case neg =>
  rw[if_neg hc,if_neg hc];have hV:errV (chkE qs (by_ 3 rs))=.iface 26 (.int .i64 (chkE qs (by_ 3 rs))):=by unfold errV;rw[if_neg hc]
  rw[hV]at hC ⊢;have HC:=hdz hC;generalize chkE qs (by_ 3 rs)=E at *;generalize by_ 3 rs=BY at *;clear hT hr hwf hl hpl hC hL hu hV hR hz h hby hby0
  go_enter Tryz.func26,Tryz.ntmps26
  go_wp2_with (first
   | (go_at_call 33;refine Calls.mono HL.out ?_;rintro e w1 ⟨rfl,hw1⟩;obtain rfl:=hw1.symm)
   | (go_at_call 92;refine Calls.mono HC.out ?_;rintro e w2 ⟨rfl,hb2⟩)
   | fail)
  go_ret;exact⟨rfl,JaB HSH.out hb2,hb0 hb2⟩
 case pos =>
  rw[if_pos hc];rw[hc,Jd9]at hC;have HC:=hdz hC;have HU:Hid (∀w1,Below w.heap.size w w1->Calls Tryz.prog 35 #[.pointer (some ⟨b,0,none⟩)] w1 fun e w'=>e=.returned (.int .i64 3)/\w'=w1):=fun w1 hb=>Jcs b 3 rs w1 (JaB HSH.out hb)
  by_cases hp:plE 3 rs qs=0
  case neg =>
   rw[if_neg hp];have HP:Hid (∀w1,Below w.heap.size w w1->Calls Tryz.prog 100 #[.pointer (some ⟨b,3,none⟩),.slice pv qs.length cv,.func (.func 101) #[] #[],.func (.func 102) #[] #[]] w1 fun e w'=>e=.returned (errV (plE 3 rs qs))/\Below w1.heap.size w1 w'):=fun w1 hb=>by
    obtain⟨_,_,p,n,c,h3,h4,_⟩:=JaB HSH.out hb;exact JoU b p n c rs qs _ w1 (Go.Proofs.Utf8Tabs_below hT hb) hR h3 h4 (Ja6 hr hb (nlr _)) hc hl (by omega) hpl hp
   generalize errV (plE 3 rs qs)=EV at *;generalize by_ 3 rs=BY at *;clear hT hr hwf hl hpl hC hL hu hR hz h hby hby0 hc hp
   go_enter Tryz.func26,Tryz.ntmps26
   go_wp2_with (first
    | (go_at_call 33;refine Calls.mono HL.out ?_;rintro e w1 ⟨rfl,hw1⟩;obtain rfl:=hw1.symm)
    | (go_at_call 92;refine Calls.mono HC.out ?_;rintro e w2 ⟨rfl,hb2⟩;have HB2:=hdz hb2;clear hb2)
    | (go_at_call 35;refine(HU.out _ HB2.out).mono ?_;rintro e w3 ⟨rfl,hw3⟩;obtain rfl:=hw3.symm)
    | (go_at_call 100;refine(HP.out _ HB2.out).mono ?_;rintro e w3 ⟨rfl,hb3⟩;have HB3:=hdz (HB2.out.trans (hb3.mono HB2.out.size));clear hb3)
    | fail)
   go_ret;exact⟨rfl,JaB HSH.out HB3.out,hb0 HB3.out⟩
  case pos =>
   rw[hp,if_pos rfl,Jd9]
   have hok:okZ 3 rs qs=true/\C1 (Ja4 3 rs qs)<=8000:=by
    unfold plE at hp
    split at hp
    . split at hp
      . exact⟨‹_›,‹_›⟩
      . cases hp
    . cases hp
   have HP:Hid (∀w1,Below w.heap.size w w1->Calls Tryz.prog 100 #[.pointer (some ⟨b,3,none⟩),.slice pv qs.length cv,.func (.func 101) #[] #[],.func (.func 102) #[] #[]] w1 fun e w'=>e=.returned .nilIface/\JaW w' b 3 (Ja4 3 rs qs)/\Below b w1 w'):=fun w1 hb=>by
    have hsh:=JaB HSH.out hb;obtain⟨h1,h2,p,n,c,h3,h4,_⟩:=hsh;refine(Jn1 b p n c rs qs _ w1 (Go.Proofs.Utf8Tabs_below hT hb) hR h3 h2 h4 (Ja6 hr hb (nlr _)) hc hl (by omega) hpl hok.1 hok.2).mono ?_
    rintro e w' ⟨rfl,W,p',n',c',hB,rfl,hs,hne⟩;have hlt1:b<w1.heap.size:=by have:=hb.size;omega
    have hltW:b<W.heap.size:=by have:=hB.size;omega
    have c0:W.cell? ⟨b,0,none⟩=some (.int .i64 ((3:Nat):Int)):=(hB.cell (p:=⟨b,0,none⟩) hlt1).trans h1;have c1:W.cell? ⟨b,3,none⟩=some (.slice p n c):=(hB.cell (p:=⟨b,3,none⟩) hlt1).trans h3;have f1:W.frozen? ⟨b,3,none⟩=false:=(hB.frozen (p:=⟨b,3,none⟩) hlt1).trans h2;exact⟨rfl,Jfo c0 c1 f1 hs (fun a ha=>by have:=hne a ha;have:=hlt1;omega),(hB.mono (Nat.le_of_lt hlt1)).setCell (p:=⟨b,3,none⟩) (nlr _) _⟩
   generalize by_ 3 rs=BY at *;clear hT hr hwf hl hpl hC hL hu hR hz h hby hby0 hc hp hok
   go_enter Tryz.func26,Tryz.ntmps26
   go_wp2_with (first
    | (go_at_call 33;refine Calls.mono HL.out ?_;rintro e w1 ⟨rfl,hw1⟩;obtain rfl:=hw1.symm)
    | (go_at_call 92;refine Calls.mono HC.out ?_;rintro e w2 ⟨rfl,hb2⟩;have HB2:=hdz hb2;clear hb2)
    | (go_at_call 35;refine(HU.out _ HB2.out).mono ?_;rintro e w3 ⟨rfl,hw3⟩;obtain rfl:=hw3.symm)
    | (go_at_call 100;refine(HP.out _ HB2.out).mono ?_;rintro e w3 ⟨rfl,hs3,hb3⟩;have HS3:=hdz hs3;have HB3:Hid (Below b w w3):=(hb0 HB2.out).trans hb3;clear hb3 hs3)
    | fail)
   go_ret;exact⟨rfl,HS3.out,HB3.out⟩
end
section
open Go.RowKit
attribute [local go_sem] Oper.semAt_some
theorem Jox(v1 v2:Value)(first:Bool)(a b:List Pt)(w:World)(hT:Lib.Utf8Tabs 2 3 w)(h1:opAt w v1 a)(h2:opAt w v2 b)(w1:∀p∈a,wfP p)(w2:∀p∈b,wfP p)(l1:a.length<10000000)(l2:b.length<10000000)(he:Jch a b≠0) :
    Calls Tryz.prog 187 #[v1,v2,.bool first] w fun e w'=>e=.returned (.tuple #[.slice none 0 0,errV (Jch a b)])/\Below w.heap.size w w':=by
 have cB:Hid _:=JbQ v1 v2 a b w hT h1 h2 w1 w2 l1 l2;have hV:errV (Jch a b)=.iface 26 (.int .i64 (Jch a b)):=by unfold errV;rw[if_neg he]
 rw[hV]at cB ⊢;generalize Jch a b=E at *;obtain⟨p1,c1,rfl,_⟩:=h1;obtain⟨p2,c2,rfl,_⟩:=h2;clear hT w1 w2 hV
 go_enter Tryz.func187,Tryz.ntmps187
 go_wp2_with (first
  | (go_at_call 221;refine Calls.mono cB.out ?_;rintro e w1 ⟨rfl,hb1⟩)
  | fail)
 go_ret2
 exact⟨rfl,hb1⟩
theorem Jov(v1 v2:Value)(first:Bool)(a b:List Pt)(w:World)(hT:Lib.Utf8Tabs 2 3 w)(h1:opAt w v1 a)(h2:opAt w v2 b)(w1:∀p∈a,wfP p)(w2:∀p∈b,wfP p)(l1:a.length<10000000)(l2:b.length<10000000)(he:Jch a b=0)(hl:(Ja9 b).1≠(Ja9 a).1) :
    Calls Tryz.prog 187 #[v1,v2,.bool first] w fun e w'=>e=.returned (.tuple #[.slice none 0 0,errV (2)])/\Below w.heap.size w w':=by
 have cB:Hid _:=JbQ v1 v2 a b w hT h1 h2 w1 w2 l1 l2;have hV:errV (Jch a b)=.nilIface:=by unfold errV;rw[if_pos he]
 have hV2:errV 2=.iface 26 (.int .i64 2):=rfl;rw[hV]at cB;rw[hV2];have cL1:Hid (∀wx,Below w.heap.size w wx->Calls Tryz.prog 120 #[v1] wx fun e w'=>e=.returned (.tuple #[.int .i64 (Ja9 a).1,.int .i64 (Ja9 a).2])/\Below wx.heap.size wx w'):=fun wx hb=>Jcg v1 a wx (JaR h1 hb) l1
 have cL2:Hid (∀wx,Below w.heap.size w wx->Calls Tryz.prog 120 #[v2] wx fun e w'=>e=.returned (.tuple #[.int .i64 (Ja9 b).1,.int .i64 (Ja9 b).2])/\Below wx.heap.size wx w'):=fun wx hb=>Jcg v2 b wx (JaR h2 hb) l2
 generalize (Ja9 a).1=A1 at *;generalize (Ja9 a).2=A2 at *;generalize (Ja9 b).1=B1 at *;generalize (Ja9 b).2=B2 at *;obtain⟨p1,c1,rfl,_⟩:=h1;obtain⟨p2,c2,rfl,_⟩:=h2;clear hT w1 w2 hV hV2
 go_enter Tryz.func187,Tryz.ntmps187
 go_wp2_with (first
  | (have _:=HB2;go_at_call 120;refine(cL2.out _ HB2.out).mono ?_;rintro e w3 ⟨rfl,hb3⟩;have HB3:=hdz (HB2.out.trans (hb3.mono HB2.out.size));clear hb3)
  | (go_at_call 120;refine(cL1.out _ HB1.out).mono ?_;rintro e w2 ⟨rfl,hb2⟩;have HB2:=hdz (HB1.out.trans (hb2.mono HB1.out.size));clear hb2)
  | (go_at_call 221;refine Calls.mono cB.out ?_;rintro e w1 ⟨rfl,hb1⟩;have HB1:=hdz hb1;clear hb1)
  | fail)
 go_ret2
 exact⟨rfl,HB3.out⟩
theorem Jil(v1 v2:Value)(first:Bool)(a b:List Pt)(w:World)(hT:Lib.Utf8Tabs 2 3 w)(h1:opAt w v1 a)(h2:opAt w v2 b)(w1:∀p∈a,wfP p)(w2:∀p∈b,wfP p)(l1:a.length<10000000)(l2:b.length<10000000)(hf:Jch a b=0->fineP a/\fineP b) :
    Calls Tryz.prog 187 #[v1,v2,.bool first] w fun e w'=>∃v',e=.returned (.tuple #[v',errV (Jln a b)])/\opN w.heap.size w' v' (if Jln a b=0 then JaC (Jba first a b) else [])/\Below w.heap.size w w':=by
 have none:∀w',opN w.heap.size w' (.slice none 0 0) []:=Jen _;unfold Jln
 by_cases he:Jch a b=0
 . obtain ⟨f1,f2⟩:=hf he
   rw[if_pos he]
   by_cases hl:(Ja9 b).1=(Ja9 a).1
   . rw[if_pos hl,if_pos rfl]
     show Calls _ _ _ _ fun e w'=>∃v',e=.returned (.tuple #[v',.nilIface])/\_
     cases first with
     | true=>exact(Jqq v1 v2 a b w hT h1 h2 w1 w2 f1 f2 he hl)
     | false=>exact(Jqp v1 v2 a b w hT h1 h2 w1 w2 f1 f2 he hl)
   . rw[if_neg hl,if_neg (by decide)]
     exact(Jov v1 v2 first a b w hT h1 h2 w1 w2 l1 l2 he hl).mono fun e w' h=>⟨_,h.1,none w',h.2⟩
 . rw[if_neg he,if_neg he]
   exact(Jox v1 v2 first a b w hT h1 h2 w1 w2 l1 l2 he).mono fun e w' h=>⟨_,h.1,none w',h.2⟩
theorem Jrt(v1 v2:Value)(a b:List Pt)(w:World)(hT:Lib.Utf8Tabs 2 3 w)(h1:opAt w v1 a)(h2:opAt w v2 b)(w1:∀p∈a,wfP p)(w2:∀p∈b,wfP p)(l1:a.length<10000000)(l2:b.length<10000000)(he:Jch a b≠0) :
    Calls Tryz.prog 182 #[v1,v2] w fun e w'=>e=.returned (.tuple #[.slice none 0 0,errV (Jch a b)])/\Below w.heap.size w w':=by
 have cB:Hid _:=JbQ v1 v2 a b w hT h1 h2 w1 w2 l1 l2;have hV:errV (Jch a b)=.iface 26 (.int .i64 (Jch a b)):=by unfold errV;rw[if_neg he]
 rw[hV]at cB ⊢;generalize Jch a b=E at *;obtain⟨p1,c1,rfl,_⟩:=h1;obtain⟨p2,c2,rfl,_⟩:=h2;clear hT w1 w2 hV
 go_enter Tryz.func182,Tryz.ntmps182
 go_wp2_with (first
  | (go_at_call 221;refine Calls.mono cB.out ?_;rintro e w1 ⟨rfl,hb1⟩)
  | fail)
 go_ret2
 exact⟨rfl,hb1⟩
theorem Jrs(v1 v2:Value)(a b:List Pt)(w:World)(hT:Lib.Utf8Tabs 2 3 w)(h1:opAt w v1 a)(h2:opAt w v2 b)(w1:∀p∈a,wfP p)(w2:∀p∈b,wfP p)(l1:a.length<10000000)(l2:b.length<10000000)(he:Jch a b=0)(hl:(Ja9 b).1≠(Ja9 a).2) :
    Calls Tryz.prog 182 #[v1,v2] w fun e w'=>e=.returned (.tuple #[.slice none 0 0,errV (2)])/\Below w.heap.size w w':=by
 have cB:Hid _:=JbQ v1 v2 a b w hT h1 h2 w1 w2 l1 l2;have hV:errV (Jch a b)=.nilIface:=by unfold errV;rw[if_pos he]
 have hV2:errV 2=.iface 26 (.int .i64 2):=rfl;rw[hV]at cB;rw[hV2];have cL1:Hid (∀wx,Below w.heap.size w wx->Calls Tryz.prog 120 #[v1] wx fun e w'=>e=.returned (.tuple #[.int .i64 (Ja9 a).1,.int .i64 (Ja9 a).2])/\Below wx.heap.size wx w'):=fun wx hb=>Jcg v1 a wx (JaR h1 hb) l1
 have cL2:Hid (∀wx,Below w.heap.size w wx->Calls Tryz.prog 120 #[v2] wx fun e w'=>e=.returned (.tuple #[.int .i64 (Ja9 b).1,.int .i64 (Ja9 b).2])/\Below wx.heap.size wx w'):=fun wx hb=>Jcg v2 b wx (JaR h2 hb) l2
 generalize (Ja9 a).1=A1 at *;generalize (Ja9 a).2=A2 at *;generalize (Ja9 b).1=B1 at *;generalize (Ja9 b).2=B2 at *;obtain⟨p1,c1,rfl,_⟩:=h1;obtain⟨p2,c2,rfl,_⟩:=h2;clear hT w1 w2 hV hV2
 go_enter Tryz.func182,Tryz.ntmps182
 go_wp2_with (first
  | (have _:=HB2;go_at_call 120;refine(cL2.out _ HB2.out).mono ?_;rintro e w3 ⟨rfl,hb3⟩;have HB3:=hdz (HB2.out.trans (hb3.mono HB2.out.size));clear hb3)
  | (go_at_call 120;refine(cL1.out _ HB1.out).mono ?_;rintro e w2 ⟨rfl,hb2⟩;have HB2:=hdz (HB1.out.trans (hb2.mono HB1.out.size));clear hb2)
  | (go_at_call 221;refine Calls.mono cB.out ?_;rintro e w1 ⟨rfl,hb1⟩;have HB1:=hdz hb1;clear hb1)
  | fail)
 go_ret2
 exact⟨rfl,HB3.out⟩
theorem JpK(v1 v2:Value)(a b:List Pt)(w:World)(hT:Lib.Utf8Tabs 2 3 w)(h1:opAt w v1 a)(h2:opAt w v2 b)(w1:∀p∈a,wfP p)(w2:∀p∈b,wfP p)(l1:a.length<10000000)(l2:b.length<10000000)(hf:Jch a b=0->fineP a/\fineP b) :
    Calls Tryz.prog 182 #[v1,v2] w fun e w'=>∃v',e=.returned (.tuple #[v',errV (JpL a b)])/\opN w.heap.size w' v' (if JpL a b=0 then JaC (JgF a b) else [])/\Below w.heap.size w w':=by
 have none:∀w',opN w.heap.size w' (.slice none 0 0) []:=Jen _;unfold JpL
 by_cases he:Jch a b=0
 . obtain ⟨f1,f2⟩:=hf he
   rw[if_pos he]
   by_cases hl:(Ja9 b).1=(Ja9 a).2
   . rw[if_pos hl,if_pos rfl]
     show Calls _ _ _ _ fun e w'=>∃v',e=.returned (.tuple #[v',.nilIface])/\_
     exact(JnK v1 v2 a b w hT h1 h2 w1 w2 f1 f2 he hl)
   . rw[if_neg hl,if_neg (by decide)]
     exact(Jrs v1 v2 a b w hT h1 h2 w1 w2 l1 l2 he hl).mono fun e w' h=>⟨_,h.1,none w',h.2⟩
 . rw[if_neg he,if_neg he]
   exact(Jrt v1 v2 a b w hT h1 h2 w1 w2 l1 l2 he).mono fun e w' h=>⟨_,h.1,none w',h.2⟩
theorem Jj1{W:World}{g:Nat}{ps:List Pt}{t:TypeId}{fz:Nat×Nat}(h:W.heap[g]?=some (.cells (Jag ps).toArray t fz))(hl:ps.length<=maxLen):opAt W (.slice (some ⟨g,0,none⟩) ps.length ps.length) ps:=by
 refine⟨_,_,rfl,nlr _,hl,fun _=>⟨g,0,rfl,Jah h,fun i q hi=>?_⟩⟩;have hc:=JeX ps i q hi;have key:∀j,j<3->W.cell? ⟨g,0+i*3+j,none⟩=(Jas q)[j]?:=fun j hj=>by
  have:=chp h (0+i*3+j);rw[this,Nat.zero_add,←hc j hj];simp
 exact⟨key 0 (by omega),key 1 (by omega),key 2 (by omega)⟩
def d1:List Pt:=[⟨0,0,[120]⟩,⟨3,0,[]⟩]
def d2:List Pt:=[⟨2,0,[]⟩,⟨0,0,[120]⟩,⟨1,0,[]⟩]
theorem Jjq(u:Int)(hu:Ja3 u){rs:List Nat}(hR:∀r∈rs,Jaw r)(hz:C1 rs<=8000)(hne:encs rs≠[]):shE u [] [⟨0,0,encs rs⟩]=0/\shR u [] [⟨0,0,encs rs⟩]=rs:=by
 have hsc:(scan (encs rs)).2=true:=by rw[Jcx rs hR]
 have hro:Jal (encs rs)=rs:=by
  unfold Jal;rw[Jcx rs hR];simp[wide,Function.comp_def]
 have hone:oneB ⟨0,0,encs rs⟩=true:=by simp[oneB,hne]
 have hl:lenP ⟨0,0,encs rs⟩=0:=rfl;have hup:upTo [] u 0=[]:=JjW [] u;have hed:JaU [] u 0=true:=by unfold JaU;rw[hup,JiV];rfl
 have hc:chkE [⟨0,0,encs rs⟩] (by_ u [])=0:=by
  rw[JiV];simp[chkE,chk1,chk2,hone,hsc]
 have hok:okZ u [] [⟨0,0,encs rs⟩]=true:=by
  unfold okZ;rw[hl,hed];rfl
 have hco:Ja4 u [] [⟨0,0,encs rs⟩]=rs:=by
  unfold Ja4;rw[if_neg (by simp),hro];simp[Ja4]
 have hE:shE u [] [⟨0,0,encs rs⟩]=0:=by
  unfold shE plE;rw[if_pos hc,if_pos hok,hco,if_pos hz]
 exact⟨hE,by unfold shR;rw[if_pos hE,hco]⟩
theorem Jl4(rs:List Nat)(hR:∀r∈rs,Jaw r)(hz:C1 rs<=8000)(w:World)(hT:Lib.Utf8Tabs 2 3 w):Calls Tryz.prog 25 #[.int .i64 1,.string (Jao rs)] w fun e w'=>∃b,e=.returned (.tuple #[.pointer (some ⟨b,0,none⟩),.nilIface])/\JaW w' b 1 rs/\w.heap.size<=b/\Below w.heap.size w w':=by
 have hl:=JbU rs;have hb:(Jao rs)=⟨(encs rs).toArray⟩:=rfl;have hsc:(scan (encs rs)).2=true:=by rw[Jcx rs hR]
 have cC:Hid (Calls Tryz.prog 78 #[.string (Jao rs)] w fun e w'=>∃n1 n2 n3 n4,e=.returned (.tuple #[.agg #[.int .i64 n1,.int .i64 n2,.int .i64 n3,.int .i64 n4],.nilIface])/\Below w.heap.size w w') :=
  (JcK (Jao rs) (by rw[hb];simp[ByteArray.size];omega) w hT).mono fun e w' ⟨v,x,h1,h2,h3⟩=>by
    have e0:(Jao rs).data.toList=encs rs:=rfl;rw[e0]at h3
    rcases h3 with ⟨_,rfl,rfl⟩|⟨h4,_⟩
    . exact⟨_,_,_,_,h1,h2⟩
    . rw[hsc]at h4;cases h4
 by_cases hne:rs=[]
 . subst hne
   have hbe:Jao []=⟨#[]⟩:=rfl;rw[hbe]at cC ⊢;clear hT hR hz hl hb hsc hbe
   go_enter Tryz.func25,Tryz.ntmps25
   go_wp2_with (first
    | (go_at_call 78;refine Calls.mono cC.out ?_;rintro e w1 ⟨n1,n2,n3,n4,rfl,hb1⟩;have HB1:=hdz hb1;clear hb1)
    | fail)
   go_ret2
   refine⟨_,rfl,?_,?_,(HB1.out.alloc HB1.out.size _).alloc (Nat.le_trans HB1.out.size (by simp)) _⟩
   . refine⟨by simp[go_sem],by simp[go_sem],none,0,0,by simp[go_sem],?_,fun a ha=>by cases ha⟩
     rw[JcD];exact⟨rfl,.inl ⟨rfl,rfl,rfl⟩⟩
   . have:=HB1.out.size;simp;omega
 . have hne2:encs rs≠[]:=fun e=>by
     have:=Jeu rs;rw[e]at this;exact hne (List.eq_nil_of_length_eq_zero (by simpa using this))
   obtain⟨q1,q2⟩:=Jjq 1 (by unfold Ja3;omega) hR hz hne2;have hbne:(Jao rs).toList.isEmpty=false:=by
    rw[ByteArray.toList_eq,hb];show(encs rs).isEmpty=false
    cases h:encs rs with
    | nil=>exact absurd h hne2
    | cons a t=>rfl
   have HTT:=hdz hT
   have cA:Hid (∀W b v,Below w.heap.size w W->JaW W b 1 []->opAt W v [⟨0,0,encs rs⟩]->Calls Tryz.prog 26 #[.pointer (some ⟨b,0,none⟩),v] W fun e w'=>e=.returned .nilIface/\JaW w' b 1 rs/\Below b W w'):=fun W b v hB hs ho=>by
    have:=Jkr b [] [⟨0,0,encs rs⟩] v W hs (fun r hr=>by cases hr) (by decide) (Go.Proofs.Utf8Tabs_below HTT.out hB) ho (fun q hq=>by
     obtain rfl:=List.mem_singleton.1 hq;refine⟨?_,?_,?_,?_,?_⟩<;>simp only<;>omega) (by simp) (fun q hq=>by
     obtain rfl:=List.mem_singleton.1 hq
     simp only;omega)
    rw[q1,q2,Jd9]at this;exact this
   have HBE:Hid (Jao rs=⟨(encs rs).toArray⟩):=hb;generalize Jao rs=S at *;clear hT hR hz hl hb hsc q1 q2 hne hne2
   go_enter Tryz.func25,Tryz.ntmps25
   go_wp2_with (first
    | (go_at_call 78;refine Calls.mono cC.out ?_;rintro e w1 ⟨n1,n2,n3,n4,rfl,hb1⟩;have HB1:=hdz hb1;clear hb1)
    | (go_at_call 9999)
    | fail)
   refine(cA.out _ (w1.heap.size+1) _ ?hB ?hS ?hO).mono ?_
   case hB=>exact((HB1.out.alloc HB1.out.size _).alloc (Nat.le_trans HB1.out.size (by simp)) _).alloc (by have:=HB1.out.size;simp;omega) _
   case hS =>
    refine⟨by simp[go_sem],by simp[go_sem],none,0,0,by simp[go_sem],?_,fun a ha=>by cases ha⟩;rw[JcD];exact⟨rfl,.inl ⟨rfl,rfl,rfl⟩⟩
   case hO =>
    refine Jj1 (t:=50) (ps:=[⟨0,0,encs rs⟩]) (fz:=(0,0)) ?_ (by simp[maxLen]);rw[HBE.out];have h:=heap_alloc_new ((w1.alloc (.cells #[.int .i64 n1,.int .i64 n2,.int .i64 n3,.int .i64 n4] 25)).alloc (.cells #[.int .i64 1,.slice none 0 0,.slice none 0 0,.slice none 0 0] 160)) (.cells #[.int .i64 0,.int .i64 0,.string ⟨(encs rs).toArray⟩] 50);rw[wsa,World.size_alloc]at h;exact h
   rintro e w2 ⟨rfl,hs2,hb2⟩;have HS2:=hdz hs2;have HB2:=hdz hb2;clear hs2 hb2;go_wp2
   go_ret2
   have hsz:=HB1.out.size;refine⟨_,rfl,HS2.out,by omega,?_⟩;exact(((HB1.out.alloc HB1.out.size _).alloc (Nat.le_trans HB1.out.size (by simp)) _).alloc (by have:=HB1.out.size;simp;omega) _).trans (HB2.out.mono (by omega))
theorem Jl3(rs:List Nat)(hR:∀r∈rs,Jaw r)(hz:C1 rs<=8000)(w:World)(hT:Lib.Utf8Tabs 2 3 w):Calls Tryz.prog 25 #[.int .i64 2,.string (Jao rs)] w fun e w'=>∃b,e=.returned (.tuple #[.pointer (some ⟨b,0,none⟩),.nilIface])/\JaW w' b 2 rs/\w.heap.size<=b/\Below w.heap.size w w':=by
 have hl:=JbU rs;have hb:(Jao rs)=⟨(encs rs).toArray⟩:=rfl;have hsc:(scan (encs rs)).2=true:=by rw[Jcx rs hR]
 have cC:Hid (Calls Tryz.prog 78 #[.string (Jao rs)] w fun e w'=>∃n1 n2 n3 n4,e=.returned (.tuple #[.agg #[.int .i64 n1,.int .i64 n2,.int .i64 n3,.int .i64 n4],.nilIface])/\Below w.heap.size w w') :=
  (JcK (Jao rs) (by rw[hb];simp[ByteArray.size];omega) w hT).mono fun e w' ⟨v,x,h1,h2,h3⟩=>by
    have e0:(Jao rs).data.toList=encs rs:=rfl;rw[e0]at h3
    rcases h3 with ⟨_,rfl,rfl⟩|⟨h4,_⟩
    . exact⟨_,_,_,_,h1,h2⟩
    . rw[hsc]at h4;cases h4
 by_cases hne:rs=[]
 . subst hne
   have hbe:Jao []=⟨#[]⟩:=rfl;rw[hbe]at cC ⊢;clear hT hR hz hl hb hsc hbe
   go_enter Tryz.func25,Tryz.ntmps25
   go_wp2_with (first
    | (go_at_call 78;refine Calls.mono cC.out ?_;rintro e w1 ⟨n1,n2,n3,n4,rfl,hb1⟩;have HB1:=hdz hb1;clear hb1)
    | fail)
   go_ret2
   refine⟨_,rfl,?_,?_,(HB1.out.alloc HB1.out.size _).alloc (Nat.le_trans HB1.out.size (by simp)) _⟩
   . refine⟨by simp[go_sem],by simp[go_sem],none,0,0,by simp[go_sem],?_,fun a ha=>by cases ha⟩
     rw[JcD];exact⟨rfl,.inl ⟨rfl,rfl,rfl⟩⟩
   . have:=HB1.out.size;simp;omega
 . have hne2:encs rs≠[]:=fun e=>by
     have:=Jeu rs;rw[e]at this;exact hne (List.eq_nil_of_length_eq_zero (by simpa using this))
   obtain⟨q1,q2⟩:=Jjq 2 (by unfold Ja3;omega) hR hz hne2;have hbne:(Jao rs).toList.isEmpty=false:=by
    rw[ByteArray.toList_eq,hb];show(encs rs).isEmpty=false
    cases h:encs rs with
    | nil=>exact absurd h hne2
    | cons a t=>rfl
   have HTT:=hdz hT
   have cA:Hid (∀W b v,Below w.heap.size w W->JaW W b 2 []->opAt W v [⟨0,0,encs rs⟩]->Calls Tryz.prog 26 #[.pointer (some ⟨b,0,none⟩),v] W fun e w'=>e=.returned .nilIface/\JaW w' b 2 rs/\Below b W w'):=fun W b v hB hs ho=>by
    have:=Jkq b [] [⟨0,0,encs rs⟩] v W hs (fun r hr=>by cases hr) (by decide) (Go.Proofs.Utf8Tabs_below HTT.out hB) ho (fun q hq=>by
     obtain rfl:=List.mem_singleton.1 hq;refine⟨?_,?_,?_,?_,?_⟩<;>simp only<;>omega) (by simp) (fun q hq=>by
     obtain rfl:=List.mem_singleton.1 hq
     simp only;omega)
    rw[q1,q2,Jd9]at this;exact this
   have HBE:Hid (Jao rs=⟨(encs rs).toArray⟩):=hb;generalize Jao rs=S at *;clear hT hR hz hl hb hsc q1 q2 hne hne2
   go_enter Tryz.func25,Tryz.ntmps25
   go_wp2_with (first
    | (go_at_call 78;refine Calls.mono cC.out ?_;rintro e w1 ⟨n1,n2,n3,n4,rfl,hb1⟩;have HB1:=hdz hb1;clear hb1)
    | (go_at_call 9999)
    | fail)
   refine(cA.out _ (w1.heap.size+1) _ ?hB ?hS ?hO).mono ?_
   case hB=>exact((HB1.out.alloc HB1.out.size _).alloc (Nat.le_trans HB1.out.size (by simp)) _).alloc (by have:=HB1.out.size;simp;omega) _
   case hS =>
    refine⟨by simp[go_sem],by simp[go_sem],none,0,0,by simp[go_sem],?_,fun a ha=>by cases ha⟩;rw[JcD];exact⟨rfl,.inl ⟨rfl,rfl,rfl⟩⟩
   case hO =>
    refine Jj1 (t:=50) (ps:=[⟨0,0,encs rs⟩]) (fz:=(0,0)) ?_ (by simp[maxLen]);rw[HBE.out];have h:=heap_alloc_new ((w1.alloc (.cells #[.int .i64 n1,.int .i64 n2,.int .i64 n3,.int .i64 n4] 25)).alloc (.cells #[.int .i64 2,.slice none 0 0,.slice none 0 0,.slice none 0 0] 160)) (.cells #[.int .i64 0,.int .i64 0,.string ⟨(encs rs).toArray⟩] 50);rw[wsa,World.size_alloc]at h;exact h
   rintro e w2 ⟨rfl,hs2,hb2⟩;have HS2:=hdz hs2;have HB2:=hdz hb2;clear hs2 hb2;go_wp2
   go_ret2
   have hsz:=HB1.out.size;refine⟨_,rfl,HS2.out,by omega,?_⟩;exact(((HB1.out.alloc HB1.out.size _).alloc (Nat.le_trans HB1.out.size (by simp)) _).alloc (by have:=HB1.out.size;simp;omega) _).trans (HB2.out.mono (by omega))
theorem Jl2(rs:List Nat)(hR:∀r∈rs,Jaw r)(hz:C1 rs<=8000)(w:World)(hT:Lib.Utf8Tabs 2 3 w):Calls Tryz.prog 25 #[.int .i64 3,.string (Jao rs)] w fun e w'=>∃b,e=.returned (.tuple #[.pointer (some ⟨b,0,none⟩),.nilIface])/\JaW w' b 3 rs/\w.heap.size<=b/\Below w.heap.size w w':=by
 have hl:=JbU rs;have hb:(Jao rs)=⟨(encs rs).toArray⟩:=rfl;have hsc:(scan (encs rs)).2=true:=by rw[Jcx rs hR]
 have cC:Hid (Calls Tryz.prog 78 #[.string (Jao rs)] w fun e w'=>∃n1 n2 n3 n4,e=.returned (.tuple #[.agg #[.int .i64 n1,.int .i64 n2,.int .i64 n3,.int .i64 n4],.nilIface])/\Below w.heap.size w w') :=
  (JcK (Jao rs) (by rw[hb];simp[ByteArray.size];omega) w hT).mono fun e w' ⟨v,x,h1,h2,h3⟩=>by
    have e0:(Jao rs).data.toList=encs rs:=rfl;rw[e0]at h3
    rcases h3 with ⟨_,rfl,rfl⟩|⟨h4,_⟩
    . exact⟨_,_,_,_,h1,h2⟩
    . rw[hsc]at h4;cases h4
 by_cases hne:rs=[]
 . subst hne
   have hbe:Jao []=⟨#[]⟩:=rfl;rw[hbe]at cC ⊢;clear hT hR hz hl hb hsc hbe
   go_enter Tryz.func25,Tryz.ntmps25
   go_wp2_with (first
    | (go_at_call 78;refine Calls.mono cC.out ?_;rintro e w1 ⟨n1,n2,n3,n4,rfl,hb1⟩;have HB1:=hdz hb1;clear hb1)
    | fail)
   go_ret2
   refine⟨_,rfl,?_,?_,(HB1.out.alloc HB1.out.size _).alloc (Nat.le_trans HB1.out.size (by simp)) _⟩
   . refine⟨by simp[go_sem],by simp[go_sem],none,0,0,by simp[go_sem],?_,fun a ha=>by cases ha⟩
     rw[JcD];exact⟨rfl,.inl ⟨rfl,rfl,rfl⟩⟩
   . have:=HB1.out.size;simp;omega
 . have hne2:encs rs≠[]:=fun e=>by
     have:=Jeu rs;rw[e]at this;exact hne (List.eq_nil_of_length_eq_zero (by simpa using this))
   obtain⟨q1,q2⟩:=Jjq 3 (by unfold Ja3;omega) hR hz hne2;have hbne:(Jao rs).toList.isEmpty=false:=by
    rw[ByteArray.toList_eq,hb];show(encs rs).isEmpty=false
    cases h:encs rs with
    | nil=>exact absurd h hne2
    | cons a t=>rfl
   have HTT:=hdz hT
   have cA:Hid (∀W b v,Below w.heap.size w W->JaW W b 3 []->opAt W v [⟨0,0,encs rs⟩]->Calls Tryz.prog 26 #[.pointer (some ⟨b,0,none⟩),v] W fun e w'=>e=.returned .nilIface/\JaW w' b 3 rs/\Below b W w'):=fun W b v hB hs ho=>by
    have:=Jkp b [] [⟨0,0,encs rs⟩] v W hs (fun r hr=>by cases hr) (by decide) (Go.Proofs.Utf8Tabs_below HTT.out hB) ho (fun q hq=>by
     obtain rfl:=List.mem_singleton.1 hq;refine⟨?_,?_,?_,?_,?_⟩<;>simp only<;>omega) (by simp) (fun q hq=>by
     obtain rfl:=List.mem_singleton.1 hq
     simp only;omega)
    rw[q1,q2,Jd9]at this;exact this
   have HBE:Hid (Jao rs=⟨(encs rs).toArray⟩):=hb;generalize Jao rs=S at *;clear hT hR hz hl hb hsc q1 q2 hne hne2
   go_enter Tryz.func25,Tryz.ntmps25
   go_wp2_with (first
    | (go_at_call 78;refine Calls.mono cC.out ?_;rintro e w1 ⟨n1,n2,n3,n4,rfl,hb1⟩;have HB1:=hdz hb1;clear hb1)
    | (go_at_call 9999)
    | fail)
   refine(cA.out _ (w1.heap.size+1) _ ?hB ?hS ?hO).mono ?_
   case hB=>exact((HB1.out.alloc HB1.out.size _).alloc (Nat.le_trans HB1.out.size (by simp)) _).alloc (by have:=HB1.out.size;simp;omega) _
   case hS =>
    refine⟨by simp[go_sem],by simp[go_sem],none,0,0,by simp[go_sem],?_,fun a ha=>by cases ha⟩;rw[JcD];exact⟨rfl,.inl ⟨rfl,rfl,rfl⟩⟩
   case hO =>
    refine Jj1 (t:=50) (ps:=[⟨0,0,encs rs⟩]) (fz:=(0,0)) ?_ (by simp[maxLen]);rw[HBE.out];have h:=heap_alloc_new ((w1.alloc (.cells #[.int .i64 n1,.int .i64 n2,.int .i64 n3,.int .i64 n4] 25)).alloc (.cells #[.int .i64 3,.slice none 0 0,.slice none 0 0,.slice none 0 0] 160)) (.cells #[.int .i64 0,.int .i64 0,.string ⟨(encs rs).toArray⟩] 50);rw[wsa,World.size_alloc]at h;exact h
   rintro e w2 ⟨rfl,hs2,hb2⟩;have HS2:=hdz hs2;have HB2:=hdz hb2;clear hs2 hb2;go_wp2
   go_ret2
   have hsz:=HB1.out.size;refine⟨_,rfl,HS2.out,by omega,?_⟩;exact(((HB1.out.alloc HB1.out.size _).alloc (Nat.le_trans HB1.out.size (by simp)) _).alloc (by have:=HB1.out.size;simp;omega) _).trans (HB2.out.mono (by omega))
end
end Go.Proofs.YtedgnlgjmnccgabGreatDoor
