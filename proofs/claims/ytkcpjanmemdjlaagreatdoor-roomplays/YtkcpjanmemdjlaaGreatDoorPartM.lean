/-
  A part of the texts that the proof uses.
-/
import Derived.Test.YtkcpjanmemdjlaaGreatDoorPartL
set_option maxRecDepth 100000
set_option maxHeartbeats 40000000
set_option linter.all false
namespace Go.Proofs.YtkcpjanmemdjlaaGreatDoor
open Go.Proofs.Tryz Go.RowKit Go.Maps
section
attribute [local go_sem] Oper.semAt_some Dz Dl
def JY (w:World) (b o:Nat) (q:Sa):Prop:=w.cell? (Ad b o)=some (I6 q.a)/\w.cell? (Ad b (o+1))=some (I6 q.b)/\∃v,w.cell? (Ad b (o+2))=some v/\Ae w v q.op
def Nq (w:World) (v:Value) (l:List Sa):Prop:=∃p c,v=.slice p l.length c/\l.length<=c/\c<=maxLen/\(l≠[]->∃b o,p=some (Ad b o)/\b<w.heap.size/\∀(i:Nat) (q:Sa),l[i]?=some q->JY w b (o+i*3) q)
def Kl (a b:Int) (n m:Nat):Bool:=decide ((a<2/\(b<0\/(n:Int)<=b))\/(1<a/\a<5/\(b<0\/(m:Int)<=b)))
theorem iA(s:List UInt8)(v1 v2:Value)(us:List Int)(l:List Sa)(w:World)(he:Env w.heap.size w)(h1:Ja w v1 us)(hu:∀u∈us,Ck u)(h2:Nq w v2 l)(hwf:∀q∈l,LM q)(hs:s.length<=300)(hus:us.length<=6)(hl:l.length<=50)(hV:V s) :
    Cg 3 #[Sx s,v1,v2] w (Rt w (.bool true)):=by
 have hz:(ByteArray.mk s.toArray).size=s.length:=by simp[ByteArray.size]
 have CN:Hid _:=iu s hV (by omega) us hu hus v1 w.heap.size w he (Ai _) h1;have CD:Hid (∀f,Bw w f->Cg 5 #[Sx s,v1] f λe w'=>∃q I smx ys,e=.returned (.tuple #[Pd q 0,.agg #[I6 0,I6 (-1)]])/\Ay w.heap.size w' q I smx ys [s] (Iz s us)/\f.heap.size<=smx/\Bw f w'):=λf E=>(XP hV (by omega) E.size (U9 h1 E)).mono λe w' ⟨a,b⟩=>by
  rcases b with ⟨b,_⟩|⟨_,⟨⟨u,h1,h2⟩,_⟩|⟨_,q,I,smx,ys,e1,e2,e3⟩⟩
  . omega
  . exact absurd (hu u h1) h2
  . exact⟨q,I,smx,ys,e1,e2,e3,a⟩
 obtain⟨i1,i2,i3⟩:=fK hV (by omega) hu;obtain⟨N,hN⟩:∃N,us.length=N:=⟨_,rfl⟩;have PK0:Hid (Pok (s.length:Int) N 0 [s] (Iz s us)):=⟨0,BO _,i1,λp hp=>(by cases hp),by omega,by simp[Iz,hN],by omega⟩;obtain⟨R0,hR0⟩:∃R0,Iz s us=R0:=⟨_,rfl⟩;obtain⟨p1,c1,rfl,a1,a2,_⟩:=h1;obtain⟨p2,c2,rfl,d1,d2,d3⟩:=h2;have HL:=Aa d3;have HWF:Hid (∀q∈l,LM q):=hwf;obtain⟨M,hM⟩:∃M,l.length=M:=⟨_,rfl⟩;have HM:Hid (l.length=M):=hM;have HE:=Aa he;rw[hN]at a1 hus CN CD ⊢;rw[hM]at d1 hl ⊢;rw[hR0]at CN CD PK0;have HIS:Hid (∀f,Ay w.heap.size f 0 0 0 [] [s] R0->True):=λ_ _=>trivial;have HOKD:Hid (Hx (s.length:Int) R0.t R0.E [s]):=by rw[←hR0];exact i1.docs
 unfold maxLen at a2 d2;have q1:¬(300:Int)<(s.length:Int):=by omega
 have q2:¬(9:Int)<(N:Int):=by omega
 have q3:¬(50:Int)<(M:Int):=by omega
 have hMi:(M:Int)<=50:=by omega
 clear he hu hwf hV d3 hN hM hR0 i1 i2 i3 HIS
 go_enter func3,ntmps3
 go_wp2_with (first
  | (go_at_call 4;refine AC CN.out ?_;rintro e w1 ⟨r,U,bmx,O,rfl,x1,x2,x3⟩;have HB1:=Aa x2;have HR1:=Aa x1;clear x1 x2 x3)
  | (go_at_call 5;refine(CD.out _ HB1.out).mono ?_;rintro e w2 ⟨q,I,smx,ys,rfl,x1,x2,x3⟩
     have HRQ:Hid (∀o,RQ w r U bmx O q I smx ys (s.length:Int) R0 R0 (w2.alloc o)):=λo=>by
      have E:=HB1.out.trans (x3.mono HB1.out.size);have hlt:=T6 HR1.out.srv.2.2.2;exact RQ.grow ⟨E,HE.out.below E,Gg HR1.out x3,⟨[s],x1,HOKD.out⟩,by omega⟩ ((A9 _ _).alloc (Ai _) o)
     clear x1 x2 x3))
 have HQ0:Hid _:=HRQ.out (Oc #[I6 0,I6 (-1)] 32);clear CN CD HB1 HR1 HRQ HOKD HE;generalize w2.alloc (Oc #[I6 0,I6 (-1)] 32)=W2 at *
 go_loopw [11] (λi wr=>∃k:Nat,i=.int .i64 k/\k<=M/\∃D R,RQ w r U bmx O q I smx ys (s.length:Int) R R wr/\Pok (s.length:Int) N k D R) (λi _=>M - (intOf i).toNat)
 case atStart=>exact⟨0,rfl,AV _,_,_,HQ0.out,PK0.out⟩
 case round =>
  as_aux_lemma =>
  obtain⟨k,rfl,hk,D,R,h1,h2⟩:=hrel;have H1:Hid (RQ w r U bmx O q I smx ys (s.length:Int) R R wr):=h1;have PK:Hid (Pok (s.length:Int) N k D R):=h2;have hki:(k:Int)<=50:=by omega
  clear h1 h2 HQ0 PK0
  by_cases hlt:k<M
  case neg =>
   as_aux_lemma =>
   obtain rfl:k=M:=by omega
   have hn:¬((k:Int)<(k:Int)):=by omega
   go_wp2;go_ret;exact⟨rfl,H1.out.low⟩
  case pos =>
   as_aux_lemma =>
   have hle:(k:Int)<(M:Int):=by omega
   have hkl:k<l.length:=by have:=HM.out;omega
   have hne:l≠[]:=by intro e;rw[e]at hkl;exact absurd hkl (AP _)
   obtain⟨b0,o,rfl,hb0,hcell⟩:=HL.out hne;obtain⟨d0,d1,v',d2,hop⟩:=hcell k l[k] (B7 hkl);have g0:=(zC H1.out.low b0 (o+k*3) hb0).trans d0;have g1:=(zC H1.out.low b0 (o+k*3+1) hb0).trans d1;have g2:=(zC H1.out.low b0 (o+k*3+2) hb0).trans d2;have HSW:Hid (LM l[k]):=HWF.out _ (BE hkl);generalize l[k]=x at *;obtain⟨L,H,qc,Q⟩:=x;simp only at g0 g1 g2 hop;have HX:Hid (Ar w.heap.size wr v' Q):=Lb hop H1.out.low;obtain⟨pq,cq,rfl⟩:=C7 HX.out;have hqm:Q.length<=maxLen:=by
    obtain⟨p1,c1,e1,e2,e3,_⟩:=hop;injection e1 with _ _ e4;exact AF e2 e3
   unfold maxLen at hqm;clear hcell d0 d1 d2 hop hne;have cF:Hid (∀f,Bw wr f->Cg 7 #[.slice pq Q.length cq] f (Rt f (.bool (Fp Q)))):=λf E=>cx _ Q f (Bt HX.out E).1;obtain⟨β,hβ⟩:∃β,wr.heap.size=β:=⟨_,rfl⟩;have HBT:Hid (wr.heap.size=β):=hβ;obtain⟨DD,FR,OKD⟩:=H1.out.fr;obtain⟨pc,cc,pf,cf,f1,f2,f3⟩:=Ht FR;have HF1:=Aa f1;have cT:Hid (∀f,Bw wr f->Cg 8 #[Pd I 0] f (Rt f (Sx R.t))):=λf E=>UX (MK (X:=λ_=>False) FR.srv (Cf E _) λ_ _ h=>h.elim) OKD (by obtain⟨_,_,b,_⟩:=PK.out;have:=b.few;omega);have HQL:Hid (q<wr.heap.size):=Fu FR;have x0:=cQ f1 0 rfl;have hts:(ByteArray.mk R.t.toArray).size=R.t.length:=by simp[ByteArray.size]
   clear f1 f2 f3;have AFT:Hid (∀w3,Below (wr.alloc (Oc #[I6 L,I6 H,.slice pq Q.length cq] 39)).heap.size (wr.alloc (Oc #[I6 L,I6 H,.slice pq Q.length cq] 39)) w3->Bw wr w3/\w3.heap[β]?=some (Oc #[I6 L,I6 H,.slice pq Q.length cq] 39)/\w3.cell? (Ad q 0)=some (Pd I 0)):=λw3 hb3=>by
    have hb03:Bw wr w3:=(zA _ _).trans (hb3.mono (by rw[Bb];omega));exact⟨hb03,(hb3.block β (by rw[Bb,HBT.out];omega)).trans (by have:=heap_alloc_new wr (Oc #[I6 L,I6 H,.slice pq Q.length cq] 39);rwa[HBT.out]at this),(zC hb03 q 0 HQL.out).trans (Az HF1.out 0)⟩
   by_cases hgo:Fp Q=true/\Q.length<=70/\R.t.length<=1000
   case neg =>
    as_aux_lemma =>
    rcases Bool.eq_false_or_eq_true (Fp Q) with hf|hf
    . rw [hf] at cF
      by_cases h70:Q.length<=70
      . have m70:¬(70:Int)<(Q.length:Int):=by omega
        have mdl:(1000:Int)<(R.t.length:Int):=by
         have:¬R.t.length<=1000:=λh=>hgo ⟨hf,h70,h⟩;omega
        as_aux_lemma =>
        clear hgo h70 hf
        go_wp2_with (first
         | (go_at_call 7;refine(cF.out _ (zA _ _)).mono ?_;rintro e w3 ⟨rfl,hb3⟩;obtain⟨a1,a2,a3⟩:=AFT.out w3 hb3;have HB3:=Aa a1;have HBX3:=Aa a2;have y2:=cQ a2 2 rfl;clear hb3 a1 a2)
         | (go_at_call 8;refine(cT.out _ HB3.out).mono ?_;rintro e w4 ⟨rfl,hb4⟩;have HB4:Hid _:=HB3.out.trans (hb4.mono HB3.out.size);have HBX4:Hid _:=(hb4.block β (As HBX3.out)).trans HBX3.out;clear hb4))
        go_ret;exact⟨rfl,H1.out.low.trans (HB4.out.mono H1.out.low.size)⟩
      . have m70:(70:Int)<(Q.length:Int):=by omega
        as_aux_lemma =>
        clear hgo h70 hf
        go_wp2_with (go_at_call 7;refine(cF.out _ (zA _ _)).mono ?_;rintro e w3 ⟨rfl,hb3⟩;obtain⟨a1,a2,a3⟩:=AFT.out w3 hb3;have HB3:=Aa a1;have HBX3:=Aa a2;have y2:=cQ a2 2 rfl;clear hb3 a1 a2)
        go_ret;exact⟨rfl,H1.out.low.trans (HB3.out.mono H1.out.low.size)⟩
    . rw [hf]at cF
      as_aux_lemma =>
      clear hgo hf
      go_wp2_with (go_at_call 7;refine(cF.out _ (zA _ _)).mono ?_;rintro e w3 ⟨rfl,hb3⟩;obtain⟨a1,a2,a3⟩:=AFT.out w3 hb3;have HB3:=Aa a1;have HBX3:=Aa a2;have y2:=cQ a2 2 rfl;clear hb3 a1 a2)
      go_ret;exact⟨rfl,H1.out.low.trans (HB3.out.mono H1.out.low.size)⟩
   case pos =>
    as_aux_lemma =>
    obtain⟨hf,h70,hdl⟩:=hgo;rw[hf]at cF;have HF:Hid (Fp Q=true):=hf;have m70:¬(70:Int)<(Q.length:Int):=by omega
    have mdl:¬(1000:Int)<(R.t.length:Int):=by omega
    clear hf h70 hdl
    go_upto_region 15 with (first
     | (go_at_call 7;refine(cF.out _ (zA _ _)).mono ?_;rintro e w3 ⟨rfl,hb3⟩;obtain⟨a1,a2,a3⟩:=AFT.out w3 hb3;have HB3:=Aa a1;have HBX3:=Aa a2;have y2:=cQ a2 2 rfl;clear hb3 a1 a2)
     | (go_at_call 8;refine(cT.out _ HB3.out).mono ?_;rintro e w4 ⟨rfl,hb4⟩;have HB4:Hid _:=HB3.out.trans (hb4.mono HB3.out.size);have HBX4:Hid _:=(hb4.block β (As HBX3.out)).trans HBX3.out;clear hb4))
    have HRC:Hid _:=TJ (H1.out.grow HB4.out);have HR4:Hid (RQ w r U bmx O q I smx ys (s.length:Int) R R w4):=H1.out.grow HB4.out;obtain⟨pc,cc,pf,cf,pl,cl,z0,z1,z2,z3,z4⟩:=HRC.out;have b0:=cQ HBX4.out 0 rfl;have b1:=cQ HBX4.out 1 rfl;have b2:=cQ HBX4.out 2 rfl;have HZ4:Hid (ZK [(((Ad β 0):Addr),I6 L),(((Ad β 1):Addr),I6 H),(((Ad β 2):Addr),.slice pq Q.length cq),(((Ad q 1):Addr),.slice pc ys.length cc),(((Ad q 2):Addr),.slice pf R.fl.length cf)] w4):=.cons b0 (.cons b1 (.cons b2 (.cons z1 (.cons z2 (.nil w4)))));clear HRC z0 z1 z2 z3 z4 b0 b1 b2;refine wz (λf:World=>ZK [(((Ad β 0):Addr),I6 L),(((Ad β 1):Addr),I6 H),(((Ad β 2):Addr),.slice pq Q.length cq),(((Ad q 1):Addr),.slice pc ys.length cc),(((Ad q 2):Addr),.slice pf R.fl.length cf)] f) 9 HZ4.out ZK.grow λw30 F d G z=>?_;have e1:∀x,(G x).cell? ((Ad β 1):Addr)=some (I6 H):=λx=>z.but x (((Ad β 1):Addr),I6 H) (by simp);have e2:∀x,(G x).cell? ((Ad q 2):Addr)=some (.slice pf R.fl.length cf):=λx=>z.but x (((Ad q 2):Addr),.slice pf R.fl.length cf) (by simp);(iterate 9 (refine ay z d λ_ k=>?_;go_simp;apply k;clear k));clear e1 e2 z;refine ae ?_;intro w5 hb5;have HB5:Hid (Bw wr w5):=HB4.out.trans ((F.trans (hb5.mono F.size)).mono HB4.out.size);have H5:Hid (RQ w r U bmx O q I smx ys (s.length:Int) R R w5):=HR4.out.grow (F.trans (hb5.mono F.size));have HZ:Hid _:=ZK.grow d hb5;have t0:w5.cell? (Ad β 0)=some (I6 L):=HZ.out (((Ad β 0):Addr),I6 L) (by simp);have t1:w5.cell? (Ad q 1)=some (.slice pc ys.length cc):=HZ.out (((Ad q 1):Addr),.slice pc ys.length cc) (by simp);have t2:w5.cell? (Ad β 2)=some (.slice pq Q.length cq):=HZ.out (((Ad β 2):Addr),.slice pq Q.length cq) (by simp);have HBX5:Hid _:=((F.trans (hb5.mono F.size)).block β (As HBX4.out)).trans HBX4.out;clear F hb5 d HZ4 HR4 HBX4 HB4 HBX3 HB3 y2 cF cT a3 AFT
    go_upto_region 17 with fail
    go_cut [133] from 99 to 132 (λv133 wc=>v133=.bool (Kl L H ys.length R.fl.length)/\wc=w5)
    case first =>
     as_aux_lemma =>
     clear HZ t2
     by_cases h1:L<2
     . have h1':¬1<L:=by omega
       by_cases h2:H<0
       . as_aux_lemma =>
         go_wp2
         go_meet
         case rel=>exact⟨congrArg Value.bool (decide_eq_true (p:=(L<2/\(H<0\/(ys.length:Int)<=H))\/(1<L/\L<5/\(H<0\/(R.fl.length:Int)<=H))) (by omega)).symm,rfl⟩
       . by_cases h3:(ys.length:Int)<=H
         . as_aux_lemma =>
           go_wp2
           go_meet
           case rel=>exact⟨congrArg Value.bool (decide_eq_true (p:=(L<2/\(H<0\/(ys.length:Int)<=H))\/(1<L/\L<5/\(H<0\/(R.fl.length:Int)<=H))) (by omega)).symm,rfl⟩
         . as_aux_lemma =>
           go_wp2
           go_meet
           case rel=>exact⟨congrArg Value.bool (decide_eq_false (p:=(L<2/\(H<0\/(ys.length:Int)<=H))\/(1<L/\L<5/\(H<0\/(R.fl.length:Int)<=H))) (by omega)).symm,rfl⟩
     . have h1':1<L:=by omega
       by_cases h4:L<5
       . by_cases h2:H<0
         . as_aux_lemma =>
           go_wp2
           go_meet
           case rel=>exact⟨congrArg Value.bool (decide_eq_true (p:=(L<2/\(H<0\/(ys.length:Int)<=H))\/(1<L/\L<5/\(H<0\/(R.fl.length:Int)<=H))) (by omega)).symm,rfl⟩
         . by_cases h3:(R.fl.length:Int)<=H
           . as_aux_lemma =>
             go_wp2
             go_meet
             case rel=>exact⟨congrArg Value.bool (decide_eq_true (p:=(L<2/\(H<0\/(ys.length:Int)<=H))\/(1<L/\L<5/\(H<0\/(R.fl.length:Int)<=H))) (by omega)).symm,rfl⟩
           . as_aux_lemma =>
             go_wp2
             go_meet
             case rel=>exact⟨congrArg Value.bool (decide_eq_false (p:=(L<2/\(H<0\/(ys.length:Int)<=H))\/(1<L/\L<5/\(H<0\/(R.fl.length:Int)<=H))) (by omega)).symm,rfl⟩
       . as_aux_lemma =>
         go_wp2
         go_meet
         case rel=>exact⟨congrArg Value.bool (decide_eq_false (p:=(L<2/\(H<0\/(ys.length:Int)<=H))\/(1<L/\L<5/\(H<0\/(R.fl.length:Int)<=H))) (by omega)).symm,rfl⟩
    case rest =>
     as_aux_lemma =>
     obtain⟨rfl,hwc⟩:=hcut;obtain rfl:=hwc.symm
     go_upto_if 133 with fail
     go_cut [15] from 133 to 133 (λv15 f=>v15=I6 (if Kl L H ys.length R.fl.length=true then 2 else 0)/\f=w5)
     case first =>
      as_aux_lemma =>
      rcases Bool.eq_false_or_eq_true (Kl L H ys.length R.fl.length) with E|E
      . rw[E]
        go_wp2
        go_meet
        case rel=>exact⟨by rw[E];rfl,rfl⟩
      . rw[E]
        go_wp2
        go_meet
        case rel=>exact⟨by rw[E];rfl,rfl⟩
     case rest =>
      as_aux_lemma =>
      obtain⟨rfl,hwc⟩:=hcut;obtain rfl:=hwc.symm
      go_upto_block 2 with fail
      go_cut [15,16,17] from 63 to 344 (λv15 v16 v17 wc=>∃D' R',RQ w r U bmx O q I smx ys (s.length:Int) R' R' wc/\Pok (s.length:Int) N (k+1) D' R')
      case first =>
       as_aux_lemma =>
       clear t0 t1 t2;have hk60:k<=60:=by omega
       have LN:ys.length=N/\O.length=N:=by
        have h1:=H5.out.ys_len;have h2:=H5.out.bs_len;obtain⟨_,_,_,_,_,h3,_⟩:=PK.out;omega
       obtain⟨ln1,ln2⟩:=LN;have CB:Hid (∀(n:Int) (f:World) (R1 J:Rm),RQ w r U bmx O q I smx ys (s.length:Int) R1 J f->Cg 10 #[Ao n,I6 n] f λe w'=>e=.returned (.bool true)/\RQ w r U bmx O q I smx ys (s.length:Int) R1 J w'/\Bw f w'):=λn f R1 J h=>(bk n f h.env.lay).mono λe w' ⟨a,b⟩=>⟨a,h.grow b,b⟩;have CB0:Hid (∀(f:World) (R1 J:Rm),RQ w r U bmx O q I smx ys (s.length:Int) R1 J f->Cg 10 #[.nilIface,I6 0] f λe w'=>e=.returned (.bool true)/\RQ w r U bmx O q I smx ys (s.length:Int) R1 J w'/\Bw f w'):=λf R1 J h=>CB.out 0 f R1 J h;have CB2:Hid (∀(f:World) (R1 J:Rm),RQ w r U bmx O q I smx ys (s.length:Int) R1 J f->Cg 10 #[.iface 30 (I6 2),I6 2] f λe w'=>e=.returned (.bool true)/\RQ w r U bmx O q I smx ys (s.length:Int) R1 J w'/\Bw f w'):=λf R1 J h=>CB.out 2 f R1 J h;rw[ln1]
       by_cases q0:L=0
       . as_aux_lemma =>
         subst q0
         rcases Bool.eq_false_or_eq_true (Kl 0 H N R.fl.length) with E|E
         . as_aux_lemma =>
           rw[E];have Y:=of_decide_eq_true E;have CX:Hid (∀f,RQ w r U bmx O q I smx ys (s.length:Int) R R f->Cg 9 #[Pd r 0,I6 H] f λe w'=>e=.returned (.tuple #[.pointer none,.iface 30 (I6 2)])/\RQ w r U bmx O q I smx ys (s.length:Int) R R w'):=λf h=>(ab h.rm H (by rw[ln2];omega)).mono λe w' ⟨a,b⟩=>⟨a,h.grow b⟩;clear E Y
           go_upto_region 24 with (first
            | (go_at_call 9;refine(CX.out _ H5.out).mono ?_;rintro e w6 ⟨rfl,h6⟩;have H6:=Aa h6;clear h6)
            | (go_at_call 10;refine(CB2.out _ _ _ H6.out).mono ?_;rintro e w7 ⟨rfl,h7,_⟩;have H7:=Aa h7;clear h7))
           refine Kh (λ_:World=>True) 24 24 (by kernel_rfl) rfl ?_;intro w30 F;obtain⟨G,z⟩:=JC (Z:=λ_:World=>True) (W:=w30) trivial (λ{w w'} h E=>trivial);have d:True:=trivial;(iterate 24 (refine ay z d λ_ k=>?_;go_simp;apply k;clear k));refine ae ?_;intro w9 hb9;have H8:Hid _:=H7.out.grow (F.trans (hb9.mono F.size));clear F hb9 z;go_wp2
           go_meet
           case rel=>exact⟨D,R,H8.out,PK.out.more⟩
         . as_aux_lemma =>
           rw[E];have Y:=of_decide_eq_false E;obtain⟨j,rfl⟩:∃j:Nat,H=(j:Int):=⟨H.toNat,by omega⟩;have hj:j<N:=by omega
           have hjN:(j:Int)<(N:Int):=by omega
           obtain⟨b,hbj⟩:∃b,O[j]?=some b:=⟨_,B7 (by omega)⟩;obtain⟨y,hyj⟩:∃y,ys[j]?=some y:=⟨_,B7 (by omega)⟩;have CC:Hid (∀f,RQ w r U bmx O q I smx ys (s.length:Int) R R f->Cg 9 #[Pd r 0,I6 (j:Int)] f λe w'=>e=.returned (.tuple #[Pd b 0,.nilIface])/\RQ w r U bmx O q I smx ys (s.length:Int) R R w'/\Bw f w'):=λf h=>(UY h.rm hbj (by omega)).mono λe w' ⟨a,c⟩=>⟨a,h.grow c,c⟩;obtain⟨f1,f2,f3,f4⟩:=Nf HSW.out HF.out;have CE1:Hid (∀f,RQ w r U bmx O q I smx ys (s.length:Int) R R f->Ar w.heap.size f (.slice pq Q.length cq) Q->Cg 11 #[Pd b 0,.slice pq Q.length cq] f λe w'=>e=.returned (Ao (edE (Bo R j).1 (Bo R j).2 Q))/\RQ w r U bmx O q I smx ys (s.length:Int) (JJ R j Q) R w'/\Ar w.heap.size w' (.slice pq Q.length cq) Q/\Q5 f w'):=λf h hx=>KV h PK.out hk60 hbj _ Q hx f1 f2 f3;have CE2:Hid (∀f,RQ w r U bmx O q I smx ys (s.length:Int) (JJ R j Q) R f->Ar w.heap.size f (.slice pq Q.length cq) Q->Cg 12 #[Pd y 0,.slice pq Q.length cq] f λe w'=>e=.returned (I6 (edE (Bo R j).1 (Bo R j).2 Q))/\RQ w r U bmx O q I smx ys (s.length:Int) (JJ R j Q) (JJ R j Q) w'/\Q5 f w'):=λf h hx=>KW h PK.out hk60 hyj _ Q hx f1 f2;have PK2:Hid (∃D',Pok (s.length:Int) N (k+1) D' (JJ R j Q)):=⟨D,PK.out.edit hj Q⟩;have HYJ:Hid (ys[j]?=some y):=hyj;have HX5:Hid _:=Bt HX.out HB5.out;generalize edE (Bo R j).1 (Bo R j).2 Q=EE at *;generalize JJ R j Q=J at *;have CBE:Hid (∀(f:World) (R1 J:Rm),RQ w r U bmx O q I smx ys (s.length:Int) R1 J f->Cg 10 #[Ao EE,I6 EE] f λe w'=>e=.returned (.bool true)/\RQ w r U bmx O q I smx ys (s.length:Int) R1 J w'/\Bw f w'):=CB.out EE;obtain⟨ev,hu⟩:∃ev,Ao EE=ev:=⟨_,rfl⟩;rw[hu]at CE1 CBE;clear E Y hj hbj hyj f1 f2 f3 f4 hu CB2
           go_upto_region 24 with (first
            | (go_at_call 9;refine(CC.out _ H5.out).mono ?_;rintro e w6 ⟨rfl,h6,hb6⟩;have H6:=Aa h6;have HB6:=Aa hb6;clear h6 hb6)
            | (go_at_call 10;refine(CB0.out _ _ _ H6.out).mono ?_;rintro e w7 ⟨rfl,h7,hb7⟩;have H7:=Aa h7;have HB7:=Aa (HB6.out.trans (hb7.mono HB6.out.size));clear h7 hb7))
           have HX7:Hid _:=Bt HX5.out HB7.out;have HRW:Hid _:=VL H7.out HYJ.out;have t2:w7.cell? (Ad β 2)=some (.slice pq Q.length cq):=ZK.grow HZ.out HB7.out (((Ad β 2):Addr),.slice pq Q.length cq) (by simp);have HBX7:=(HB7.out.block β (As HBX5.out)).trans HBX5.out;obtain⟨g,cc7,r1,r2,⟨c1',z1',r3⟩,c2',z2',r4⟩:=HRW.out;rw[ln1]at r1;clear HRW H6 HB6 CC CB0 HBX5 H5 HX5 HYJ HSW HF HZ;refine Kh (λf:World=>ZB q β g (.cells c1' 45 z1') (Oc #[I6 0,I6 (j:Int),.slice pq Q.length cq] 39) (.cells c2' 52 z2') f) 24 24 (by kernel_rfl) rfl ?_;intro w30 F;have d:ZB q β g (.cells c1' 45 z1') (Oc #[I6 0,I6 (j:Int),.slice pq Q.length cq] 39) (.cells c2' 52 z2') w30:=ZB.grow ⟨r3,HBX7,r4⟩ F;obtain⟨G,z⟩:=JC (Z:=λf:World=>ZB q β g (.cells c1' 45 z1') (Oc #[I6 0,I6 (j:Int),.slice pq Q.length cq] 39) (.cells c2' 52 z2') f) d (λ{w w'} h E=>ZB.grow h E);have e1:∀x,(G x).cell? (Ad q 1)=some (Sl g N cc7):=λx=>(AE (w:=w7) (a:=(Ad q 1)) ((z.but x).b1.trans r3.symm)).trans r1;have e2:=λx=>cQ (z.but x).b2 2 rfl;have e3:∀x,(G x).cell? (Ad g j)=some (Pd y 0):=λx=>(AE (w:=w7) (a:=(Ad g j)) ((z.but x).b3.trans r4.symm)).trans r2;have HB30:=Aa F;clear t2 r1 r2 r3 r4 HBX7 F;(iterate 9 (refine ay z d λ_ k=>?_;go_simp;apply k;clear k));refine az z d 10 λ_ k=>?_;go_simp;apply k;clear k;refine az z d 11 λ_ k=>?_;go_simp;apply k;clear k;refine az z d 12 λ_ k=>?_;go_simp;apply k;clear k;refine az z d 13 λ_ k=>?_;go_simp;apply k;clear k;refine az z d 14 λ_ k=>?_;go_simp;apply k;clear k;refine az z d 15 λ_ k=>?_;go_simp;apply k;clear k;refine az z d 16 λ_ k=>?_;go_simp;apply k;clear k;refine az z d 17 λ_ k=>?_;go_simp;apply k;clear k;refine az z d 18 λ_ k=>?_;go_simp;apply k;clear k;clear e1 e2 e3 z d;refine aO 9 ⟨_,rfl,?_⟩;intro w31 hb31 K P
           go_simp
           have HB31:Hid _:=HB30.out.trans (hb31.mono HB30.out.size);refine(CE1.out w31 (H7.out.grow HB31.out) (Bt HX7.out HB31.out)).mono ?_;rintro e w8 ⟨rfl,h8,hx8,hbes⟩;have H8:=Aa h8;have HX8:=Aa hx8;refine⟨_,rfl,P _ _ (λh=>⟨hbes _ _ _ _ h.b1 (by decide),hbes _ _ _ _ h.b2 (by decide),hbes _ _ _ _ h.b3 (by decide)⟩) ?_⟩;clear P K h8 hx8 hbes hb31;refine aO 19 ⟨_,rfl,?_⟩;intro w32 hb32 K P
           go_simp
           refine(CE2.out w32 (H8.out.grow hb32) (Bt HX8.out hb32)).mono ?_;rintro e w9 ⟨rfl,h9,hbes⟩;have H9:=Aa h9;refine⟨_,rfl,P _ _ (λh=>⟨hbes _ _ _ _ h.b1 (by decide),hbes _ _ _ _ h.b2 (by decide),hbes _ _ _ _ h.b3 (by decide)⟩) ?_⟩;clear P K h9 hbes hb32;refine aO 20 ⟨_,rfl,?_⟩;intro w33 hb33 K P
           go_simp
           refine(CBE.out w33 _ _ (H9.out.grow hb33)).mono ?_;rintro e w10 ⟨rfl,h10,hb10⟩;have H10:=Aa h10;refine⟨_,rfl,P _ _ (λh=>ZB.grow h hb10) ?_⟩;clear P K h10 hb10 hb33
           (refine aO 21 ⟨_,rfl,?_⟩;intro w21 hb21 K P;go_simp;refine P _ _ (λh=>h) ?_;clear P K)
           (refine aO 22 ⟨_,rfl,?_⟩;intro w22 hb22 K P;go_simp;refine P _ _ (λh=>h) ?_;clear P K)
           (refine aO 23 ⟨_,rfl,?_⟩;intro w23 hb23 K P;go_simp;refine P _ _ (λh=>h) ?_;clear P K)
           refine ae ?_;intro w24 hb24;have H8:Hid _:=(((H10.out.grow hb21).grow hb22).grow hb23).grow hb24;clear hb21 hb22 hb23 hb24;go_wp2
           go_meet
           case rel=>obtain⟨D',hd⟩:=PK2.out;exact⟨D',_,H8.out,hd⟩
       have q0':(L==0)=false:=beq_eq_false_iff_ne.2 q0
       by_cases q1:L=1
       . as_aux_lemma =>
         subst q1
         rcases Bool.eq_false_or_eq_true (Kl 1 H N R.fl.length) with E|E
         . as_aux_lemma =>
           rw[E];have Y:=of_decide_eq_true E;have CX:Hid (∀f,RQ w r U bmx O q I smx ys (s.length:Int) R R f->Cg 14 #[Pd r 0,I6 H] f λe w'=>e=.returned (.iface 30 (I6 2))/\RQ w r U bmx O q I smx ys (s.length:Int) R R w'):=λf h=>(jV h.rm H (by rw[ln2];omega)).mono λe w' ⟨a,b⟩=>⟨a,h.grow b⟩;clear E Y
           go_wp2_with (first
            | (go_at_call 14;refine(CX.out _ H5.out).mono ?_;rintro e w6 ⟨rfl,h6⟩;have H6:=Aa h6;clear h6)
            | (go_at_call 10;refine(CB2.out _ _ _ H6.out).mono ?_;rintro e w8 ⟨rfl,h8,_⟩;have H8:=Aa h8;clear h8))
           go_meet
           case rel=>exact⟨D,R,H8.out,PK.out.more⟩
         . as_aux_lemma =>
           rw[E];have Y:=of_decide_eq_false E;obtain⟨j,rfl⟩:∃j:Nat,H=(j:Int):=⟨H.toNat,by omega⟩;have hj:j<N:=by omega
           have CS1:Hid _:=KS H5.out PK.out hk60 hj;have CS2:Hid (∀f,RQ w r U bmx O q I smx ys (s.length:Int) R (sendC R j) f->Cg 14 #[Pd r 0,I6 (j:Int)] f λe w'=>e=.returned .nilIface/\RQ w r U bmx O q I smx ys (s.length:Int) (sendC R j) (sendC R j) w'):=λf h=>KR h PK.out hk60 hj;have PK2:Hid (∃D',Pok (s.length:Int) N (k+1) D' (sendC R j)):=⟨D,PK.out.send hj⟩;clear E Y hj;generalize sendC R j=J at *
           go_wp2_with (first
            | (go_at_call 13;refine AC CS1.out ?_;rintro e w6 ⟨rfl,h6⟩;have H6:=Aa h6;clear h6)
            | (go_at_call 14;refine(CS2.out _ H6.out).mono ?_;rintro e w7 ⟨rfl,h7⟩;have H7:=Aa h7;clear h7)
            | (go_at_call 10;refine(CB0.out _ _ _ H7.out).mono ?_;rintro e w8 ⟨rfl,h8,_⟩;have H8:=Aa h8;clear h8))
           go_meet
           case rel=>obtain⟨D',hd⟩:=PK2.out;exact⟨D',_,H8.out,hd⟩
       have q1':(L==1)=false:=beq_eq_false_iff_ne.2 q1
       by_cases q2:L=2
       . as_aux_lemma =>
         subst q2
         rcases Bool.eq_false_or_eq_true (Kl 2 H N R.fl.length) with E|E
         . as_aux_lemma =>
           rw[E];have Y:=of_decide_eq_true E;have CX:Hid (∀f,RQ w r U bmx O q I smx ys (s.length:Int) R R f->Cg 17 #[Pd r 0,I6 H] f λe w'=>e=.returned (.iface 30 (I6 2))/\RQ w r U bmx O q I smx ys (s.length:Int) R R w'):=λf h=>(lf h.rm H (by omega)).mono λe w' ⟨a,b⟩=>⟨a,h.grow b⟩;clear E Y
           go_wp2_with (first
            | (go_at_call 17;refine(CX.out _ H5.out).mono ?_;rintro e w6 ⟨rfl,h6⟩;have H6:=Aa h6;clear h6)
            | (go_at_call 10;refine(CB2.out _ _ _ H6.out).mono ?_;rintro e w8 ⟨rfl,h8,_⟩;have H8:=Aa h8;clear h8))
           go_meet
           case rel=>exact⟨D,R,H8.out,PK.out.more⟩
         . as_aux_lemma =>
           rw[E];have Y:=of_decide_eq_false E;obtain⟨j,rfl⟩:∃j:Nat,H=(j:Int):=⟨H.toNat,by omega⟩;have hj:j<R.fl.length:=by omega
           obtain⟨x,hp⟩:∃x,R.fl[j]?=some x:=⟨_,B7 hj⟩;have CS1:Hid _:=bL H5.out PK.out hk60 hp;have CS2:Hid (∀f,RQ w r U bmx O q I smx ys (s.length:Int) R (Er (s.length:Int) R j) f->Cg 17 #[Pd r 0,I6 (j:Int)] f λe w'=>e=.returned .nilIface/\RQ w r U bmx O q I smx ys (s.length:Int) (Er (s.length:Int) R j) (Er (s.length:Int) R j) w'):=λf h=>bM h PK.out hk60 hp;have PK2:Hid (∃D',Pok (s.length:Int) N (k+1) D' (Er (s.length:Int) R j)):=PK.out.deliv hp;clear hp;clear E Y hj;generalize Er (s.length:Int) R j=J at *
           go_wp2_with (first
            | (go_at_call 16;refine AC CS1.out ?_;rintro e w55 ⟨vv,rfl,h55⟩;have H55:=Aa h55;clear h55;generalize pkV x vv=pv at *)
            | (go_at_call 15;refine AC H55.out ?_;rintro e w6 ⟨rfl,h6⟩;have H6:=Aa h6;clear h6)
            | (go_at_call 17;refine(CS2.out _ H6.out).mono ?_;rintro e w7 ⟨rfl,h7⟩;have H7:=Aa h7;clear h7)
            | (go_at_call 10;refine(CB0.out _ _ _ H7.out).mono ?_;rintro e w8 ⟨rfl,h8,_⟩;have H8:=Aa h8;clear h8))
           go_meet
           case rel=>obtain⟨D',hd⟩:=PK2.out;exact⟨D',_,H8.out,hd⟩
       have q2':(L==2)=false:=beq_eq_false_iff_ne.2 q2
       by_cases q3:L=3
       . as_aux_lemma =>
         subst q3
         rcases Bool.eq_false_or_eq_true (Kl 3 H N R.fl.length) with E|E
         . as_aux_lemma =>
           rw[E];have Y:=of_decide_eq_true E;have CX:Hid (∀f,RQ w r U bmx O q I smx ys (s.length:Int) R R f->Cg 18 #[Pd r 0,I6 H] f λe w'=>e=.returned (.iface 30 (I6 2))/\RQ w r U bmx O q I smx ys (s.length:Int) R R w'):=λf h=>(iq h.rm H (by omega)).mono λe w' ⟨a,b⟩=>⟨a,h.grow b⟩;clear E Y
           go_wp2_with (first
            | (go_at_call 18;refine(CX.out _ H5.out).mono ?_;rintro e w6 ⟨rfl,h6⟩;have H6:=Aa h6;clear h6)
            | (go_at_call 10;refine(CB2.out _ _ _ H6.out).mono ?_;rintro e w8 ⟨rfl,h8,_⟩;have H8:=Aa h8;clear h8))
           go_meet
           case rel=>exact⟨D,R,H8.out,PK.out.more⟩
         . as_aux_lemma =>
           rw[E];have Y:=of_decide_eq_false E;obtain⟨j,rfl⟩:∃j:Nat,H=(j:Int):=⟨H.toNat,by omega⟩;have hj:j<R.fl.length:=by omega
           obtain⟨x,hp⟩:∃x,R.fl[j]?=some x:=⟨_,B7 hj⟩;have CS1:Hid _:=KU H5.out PK.out hp;have CS2:Hid (∀f,RQ w r U bmx O q I smx ys (s.length:Int) R (outR R j) f->Cg 18 #[Pd r 0,I6 (j:Int)] f λe w'=>e=.returned .nilIface/\RQ w r U bmx O q I smx ys (s.length:Int) (outR R j) (outR R j) w'):=λf h=>KT h PK.out hp;have PK2:Hid (∃D',Pok (s.length:Int) N (k+1) D' (outR R j)):=⟨D,PK.out.lose j⟩;clear hp;clear E Y hj;generalize outR R j=J at *
           go_wp2_with (first
            | (go_at_call 16;refine AC CS1.out ?_;rintro e w6 ⟨vv,rfl,h6⟩;have H6:=Aa h6;clear h6)
            | (go_at_call 18;refine(CS2.out _ H6.out).mono ?_;rintro e w7 ⟨rfl,h7⟩;have H7:=Aa h7;clear h7)
            | (go_at_call 10;refine(CB0.out _ _ _ H7.out).mono ?_;rintro e w8 ⟨rfl,h8,_⟩;have H8:=Aa h8;clear h8))
           go_meet
           case rel=>obtain⟨D',hd⟩:=PK2.out;exact⟨D',_,H8.out,hd⟩
       have q3':(L==3)=false:=beq_eq_false_iff_ne.2 q3
       by_cases q4:L=4
       . as_aux_lemma =>
         subst q4
         rcases Bool.eq_false_or_eq_true (Kl 4 H N R.fl.length) with E|E
         . as_aux_lemma =>
           rw[E];have Y:=of_decide_eq_true E;have CX:Hid (∀f,RQ w r U bmx O q I smx ys (s.length:Int) R R f->Cg 20 #[Pd r 0,I6 H] f λe w'=>e=.returned (.iface 30 (I6 2))/\RQ w r U bmx O q I smx ys (s.length:Int) R R w'):=λf h=>(jW h.rm H (by omega)).mono λe w' ⟨a,b⟩=>⟨a,h.grow b⟩;clear E Y
           go_wp2_with (first
            | (go_at_call 20;refine(CX.out _ H5.out).mono ?_;rintro e w6 ⟨rfl,h6⟩;have H6:=Aa h6;clear h6)
            | (go_at_call 10;refine(CB2.out _ _ _ H6.out).mono ?_;rintro e w8 ⟨rfl,h8,_⟩;have H8:=Aa h8;clear h8))
           go_meet
           case rel=>exact⟨D,R,H8.out,PK.out.more⟩
         . as_aux_lemma =>
           rw[E];have Y:=of_decide_eq_false E;obtain⟨j,rfl⟩:∃j:Nat,H=(j:Int):=⟨H.toNat,by omega⟩;have hj:j<R.fl.length:=by omega
           obtain⟨x,hp⟩:∃x,R.fl[j]?=some x:=⟨_,B7 hj⟩;have CS1:Hid _:=bP H5.out PK.out hk60 hp;have CS2:Hid (∀f,RQ w r U bmx O q I smx ys (s.length:Int) R (Cm R x) f->Cg 20 #[Pd r 0,I6 (j:Int)] f λe w'=>e=.returned .nilIface/\RQ w r U bmx O q I smx ys (s.length:Int) (Cm R x) (Cm R x) w'):=λf h=>bQ h PK.out hk60 hp;have PK2:Hid (∃D',Pok (s.length:Int) N (k+1) D' (Cm R x)):=⟨D,PK.out.twice hp⟩;clear hp;clear E Y hj;generalize Cm R x=J at *
           go_wp2_with (first
            | (go_at_call 19;refine AC CS1.out ?_;rintro e w6 ⟨rfl,h6⟩;have H6:=Aa h6;clear h6)
            | (go_at_call 20;refine(CS2.out _ H6.out).mono ?_;rintro e w7 ⟨rfl,h7⟩;have H7:=Aa h7;clear h7)
            | (go_at_call 10;refine(CB0.out _ _ _ H7.out).mono ?_;rintro e w8 ⟨rfl,h8,_⟩;have H8:=Aa h8;clear h8))
           go_meet
           case rel=>obtain⟨D',hd⟩:=PK2.out;exact⟨D',_,H8.out,hd⟩
       have q4':(L==4)=false:=beq_eq_false_iff_ne.2 q4
       by_cases q5:L=5
       . as_aux_lemma =>
         subst q5;generalize (if Kl 5 H N R.fl.length=true then (2:Int) else 0)=e2;have CQ1:Hid _:=bO H5.out PK.out hk60;have CQ2:Hid (∀f,RQ w r U bmx O q I smx ys (s.length:Int) (Hs (s.length:Int) R) R f->Cg 22 #[Pd q 0] f λe w'=>e=.returned (.tuple #[])/\RQ w r U bmx O q I smx ys (s.length:Int) (Hs (s.length:Int) R) (Hs (s.length:Int) R) w'/\∃D',Pok (s.length:Int) N (k+1) D' (Hs (s.length:Int) R)):=λf h=>bN h PK.out hk60
         go_wp2_with (first
          | (go_at_call 21;refine AC CQ1.out ?_;rintro e w6 ⟨rfl,h6⟩;have H6:=Aa h6;clear h6)
          | (go_at_call 22;refine(CQ2.out _ H6.out).mono ?_;rintro e w8 ⟨rfl,h8,h9⟩;have H8:=Aa h8;have PK2:=Aa h9;clear h8 h9))
         go_meet
         case rel=>obtain⟨D',hd⟩:=PK2.out;exact⟨D',_,H8.out,hd⟩
       have q5':(L==5)=false:=beq_eq_false_iff_ne.2 q5;generalize (if Kl L H N R.fl.length=true then (2:Int) else 0)=e2;go_wp2
       go_meet
       case rel=>exact⟨D,R,H5.out,PK.out.more⟩
      case rest =>
       as_aux_lemma =>
       obtain⟨D2,J,h1,h2⟩:=hcut;have H9:Hid (RQ w r U bmx O q I smx ys (s.length:Int) J J wc):=h1;have PK9:Hid (Pok (s.length:Int) N (k+1) D2 J):=h2;clear h1 h2 H5 HZ HBX5 HB5 H1 PK HX HSW HF t0 t1 t2;have CM:Hid (∀f,Bw wc f->Cg 23 #[Pd r 0] f (Rt f (I6 (J.fl.length:Int)))):=λf E=>Si (H9.out.grow E).rm;have CL:Hid (∀f,Bw wc f->Cg 24 #[Pd r 0] f (Rt f (I6 (J.lost:Int)))):=λf E=>ir (H9.out.grow E).rm;have CX:Hid (∀f,Bw wc f->Cg 25 #[Pd r 0] f (Rt f (Sx J.t))):=λf E=>iw (H9.out.grow E).rm;have CR:Hid (∀f,Bw wc f->Cg 26 #[Pd r 0] f (Rt f (I6 (J.E.length:Int)))):=λf E=>ez (H9.out.grow E).rm;have CD:Hid (∀f,Bw wc f->Cg 8 #[Pd I 0] f (Rt f (Sx J.t))):=λf E=>by
        obtain⟨D3,g1,g2⟩:=(H9.out.grow E).fr;exact UX g1.srv g2 (by obtain⟨_,_,b,_⟩:=PK9.out;have:=b.few;omega)
       obtain⟨pc,cc,pf,cf,pl,cl,z0,z1,z2,z3,z4⟩:=TJ H9.out;have HZ9:Hid (ZK [(((Ad q 0):Addr),Pd I 0),(((Ad q 2):Addr),.slice pf J.fl.length cf),(((Ad q 3):Addr),I6 (J.lost:Int)),(((Ad I 1):Addr),.slice pl J.E.length cl)] wc):=.cons z0 (.cons z2 (.cons z3 (.cons z4 (.nil wc))));have HB9:Hid (Bw wc wc):=A9 _ _;clear z0 z1 z2 z3 z4
       go_upto_region 49 with fail
       refine Kh (λf:World=>ZK [(((Ad q 0):Addr),Pd I 0),(((Ad q 2):Addr),.slice pf J.fl.length cf),(((Ad q 3):Addr),I6 (J.lost:Int)),(((Ad I 1):Addr),.slice pl J.E.length cl)] f) 40 40 (by kernel_rfl) rfl ?_;intro w30 F;have d:=ZK.grow HZ9.out F;have v:Hid _:=HB9.out.trans (F.mono HB9.out.size);obtain⟨G,z⟩:=JC (Z:=λf:World=>ZK [(((Ad q 0):Addr),Pd I 0),(((Ad q 2):Addr),.slice pf J.fl.length cf),(((Ad q 3):Addr),I6 (J.lost:Int)),(((Ad I 1):Addr),.slice pl J.E.length cl)] f) d (λ{w w'} h E=>ZK.grow h E);have e0:∀x,(G x).cell? ((Ad q 0):Addr)=some (Pd I 0):=λx=>z.but x (((Ad q 0):Addr),Pd I 0) (by simp);have e1:∀x,(G x).cell? ((Ad q 2):Addr)=some (.slice pf J.fl.length cf):=λx=>z.but x (((Ad q 2):Addr),.slice pf J.fl.length cf) (by simp);have e2:∀x,(G x).cell? ((Ad q 3):Addr)=some (I6 (J.lost:Int)):=λx=>z.but x (((Ad q 3):Addr),I6 (J.lost:Int)) (by simp);have e3:∀x,(G x).cell? ((Ad I 1):Addr)=some (.slice pl J.E.length cl):=λx=>z.but x (((Ad I 1):Addr),.slice pl J.E.length cl) (by simp);clear F;refine ay z d λ_ k=>?_;go_simp;apply k;clear k;refine az z d 2 λ_ k=>?_;go_simp;apply k;clear k;refine az z d 3 λ_ k=>?_;go_simp;apply k;clear k;refine az z d 4 λ_ k=>?_;go_simp;apply k;clear k;refine az z d 5 λ_ k=>?_;go_simp;apply k;clear k;refine az z d 6 λ_ k=>?_;go_simp;apply k;clear k;refine aO 1 ⟨_,rfl,?_⟩;intro xa t K P
       go_simp
       refine((CM).out xa (v.out.trans (t.mono v.out.size))).mono ?_;rintro e xb ⟨rfl,A⟩;have B:=ZK.grow d (t.trans (A.mono t.size));refine⟨_,rfl,P _ _ (λh=>ZK.grow h A) ?_⟩;have C:Hid _:=v.out.trans ((t.trans (A.mono t.size)).mono v.out.size);clear P K t A d v;have d:=B;have v:Hid _:=C;clear B C;refine az z d 7 λ_ k=>?_;go_simp;apply k;clear k;refine az z d 8 λ_ k=>?_;go_simp;apply k;clear k;refine az z d 9 λ_ k=>?_;go_simp;apply k;clear k;refine az z d 11 λ_ k=>?_;go_simp;apply k;clear k;refine az z d 12 λ_ k=>?_;go_simp;apply k;clear k;refine az z d 13 λ_ k=>?_;go_simp;apply k;clear k;refine az z d 14 λ_ k=>?_;go_simp;apply k;clear k;refine aO 10 ⟨_,rfl,?_⟩;intro xa t K P
       go_simp
       refine((CL).out xa (v.out.trans (t.mono v.out.size))).mono ?_;rintro e xb ⟨rfl,A⟩;have B:=ZK.grow d (t.trans (A.mono t.size));refine⟨_,rfl,P _ _ (λh=>ZK.grow h A) ?_⟩;have C:Hid _:=v.out.trans ((t.trans (A.mono t.size)).mono v.out.size);clear P K t A d v;have d:=B;have v:Hid _:=C;clear B C;refine az z d 15 λ_ k=>?_;go_simp;apply k;clear k;refine az z d 16 λ_ k=>?_;go_simp;apply k;clear k;refine az z d 17 λ_ k=>?_;go_simp;apply k;clear k;refine az z d 18 λ_ k=>?_;go_simp;apply k;clear k;refine az z d 20 λ_ k=>?_;go_simp;apply k;clear k;refine az z d 21 λ_ k=>?_;go_simp;apply k;clear k;refine az z d 22 λ_ k=>?_;go_simp;apply k;clear k;refine az z d 23 λ_ k=>?_;go_simp;apply k;clear k;refine aO 19 ⟨_,rfl,?_⟩;intro xa t K P
       go_simp
       refine((CX).out xa (v.out.trans (t.mono v.out.size))).mono ?_;rintro e xb ⟨rfl,A⟩;have B:=ZK.grow d (t.trans (A.mono t.size));refine⟨_,rfl,P _ _ (λh=>ZK.grow h A) ?_⟩;have C:Hid _:=v.out.trans ((t.trans (A.mono t.size)).mono v.out.size);clear P K t A d v;have d:=B;have v:Hid _:=C;clear B C;refine aO 24 ⟨_,rfl,?_⟩;intro xa t K P
       go_simp
       refine((CD).out xa (v.out.trans (t.mono v.out.size))).mono ?_;rintro e xb ⟨rfl,A⟩;have B:=ZK.grow d (t.trans (A.mono t.size));refine⟨_,rfl,P _ _ (λh=>ZK.grow h A) ?_⟩;have C:Hid _:=v.out.trans ((t.trans (A.mono t.size)).mono v.out.size);clear P K t A d v;have d:=B;have v:Hid _:=C;clear B C;refine az z d 25 λ_ k=>?_;go_simp;apply k;clear k;refine az z d 26 λ_ k=>?_;go_simp;apply k;clear k;refine az z d 27 λ_ k=>?_;go_simp;apply k;clear k;refine az z d 28 λ_ k=>?_;go_simp;apply k;clear k;refine az z d 30 λ_ k=>?_;go_simp;apply k;clear k;refine az z d 31 λ_ k=>?_;go_simp;apply k;clear k;refine az z d 32 λ_ k=>?_;go_simp;apply k;clear k;refine az z d 33 λ_ k=>?_;go_simp;apply k;clear k;refine az z d 34 λ_ k=>?_;go_simp;apply k;clear k;refine az z d 35 λ_ k=>?_;go_simp;apply k;clear k;refine az z d 36 λ_ k=>?_;go_simp;apply k;clear k;refine az z d 37 λ_ k=>?_;go_simp;apply k;clear k;refine aO 29 ⟨_,rfl,?_⟩;intro xa t K P
       go_simp
       refine((CR).out xa (v.out.trans (t.mono v.out.size))).mono ?_;rintro e xb ⟨rfl,A⟩;have B:=ZK.grow d (t.trans (A.mono t.size));refine⟨_,rfl,P _ _ (λh=>ZK.grow h A) ?_⟩;have C:Hid _:=v.out.trans ((t.trans (A.mono t.size)).mono v.out.size);clear P K t A d v;have d:=B;have v:Hid _:=C;clear B C;refine az z d 38 λ_ k=>?_;go_simp;apply k;clear k;refine az z d 39 λ_ k=>?_;go_simp;apply k;clear k;clear e0 e1 e2 e3 z d;refine ae ?_;intro w10 hb10;have H10:Hid (RQ w r U bmx O q I smx ys (s.length:Int) J J w10):=H9.out.grow (v.out.trans (hb10.mono v.out.size));clear hb10 v CM CL CX CR CD HZ9 HB9 H9
       go_upto_block 3 with fail
       go_wp2
       go_loopw [18] (λi wr2=>∃m:Nat,i=.int .i64 m/\m<=N/\RQ w r U bmx O q I smx ys (s.length:Int) J J wr2) (λi _=>N - (intOf i).toNat)
       case atStart=>exact⟨0,rfl,AV _,H10.out⟩
       case round =>
        as_aux_lemma =>
        obtain⟨m,rfl,hm,h1⟩:=hrel;have H11:Hid (RQ w r U bmx O q I smx ys (s.length:Int) J J wr):=h1;have LN:ys.length=N/\J.cl.length=N/\O.length=N:=by
         have e1:=h1.ys_len;have e2:=h1.bs_len;obtain⟨_,_,_,_,_,h3,_⟩:=PK9.out;omega
        obtain⟨ln1,ln2,ln3⟩:=LN;have hmi:(m:Int)<=6:=by omega
        obtain⟨pc,cc,pf,cf,pl,cl,z0,z1,z2,z3,z4⟩:=TJ h1;rw[ln1]at z1;clear h1 H10 z0 z2 z3 z4
        by_cases hlt:m<N
        case neg =>
         as_aux_lemma =>
         obtain rfl:m=N:=by omega
         have hn:¬((m:Int)<(m:Int)):=by omega
         go_wp2
         go_roundw
         case rel=>exact⟨k+1,by go_num,by omega,D2,J,H11.out,PK9.out⟩
         case measure=>simp[intOf];omega
        case pos =>
         as_aux_lemma =>
         have hle:(m:Int)<(N:Int):=by omega
         obtain⟨b,E,hcl⟩:=NG H11.out.rm (k:=m) (by omega);obtain⟨D1,f1,f2⟩:=H11.out.fr;obtain⟨y,hy,hrc⟩:=L4 f1 (k:=m) (by omega);obtain⟨g,cc7,r1,r2,_,_⟩:=VL H11.out hy;rw[ln1]at r1;obtain⟨_,v1,v2,hyb,_⟩:=hrc;obtain⟨_,_,y2,y3,y4,_,_,_,y8,_,y10,_⟩:=Ct hyb;have HCL:=Aa hcl;have CC:Hid (∀f,Bw wr f->Cg 9 #[Pd r 0,I6 (m:Int)] f (Rt f (.tuple #[Pd b 0,.nilIface]))):=λf hbx=>UY (H11.out.grow hbx).rm E (by omega);generalize (Bo J m).2=S at *;generalize (Bo J m).1=u at *;have HZ11:Hid (ZK [(((Ad y 2):Addr),Sx S.doc),(((Ad y 3):Addr),Sx S.seen),(((Ad y 4):Addr),I6 S.rev),(((Ad y 8):Addr),.bool (decide (1<=S.mine.length))),(((Ad y 10):Addr),I6 S.drops)] wr):=.cons y2 (.cons y3 (.cons y4 (.cons y8 (.cons y10 (.nil wr)))));have HR2:Hid (wr.cell? (Ad g m)=some (Pd y 0)):=r2;have HR1:Hid (wr.cell? (Ad q 1)=some (Sl g N cc7)):=r1;have CT:Hid (∀f,Bw wr f->Cg 27 #[Pd b 0] f (Rt f (Sx S.doc))):=λf E=>fC (IP HCL.out E);have CS:Hid (∀f,Bw wr f->Cg 28 #[Pd b 0] f (Rt f (Sx S.seen))):=λf E=>gT (IP HCL.out E);have CV:Hid (∀f,Bw wr f->Cg 29 #[Pd b 0] f (Rt f (I6 S.rev))):=λf E=>XC (IP HCL.out E);have CP:Hid (∀f,Bw wr f->Cg 30 #[Pd b 0] f (Rt f (.bool (decide (1<=S.mine.length))))):=λf E=>Ml (IP HCL.out E);have CO:Hid (∀f,Bw wr f->Cg 31 #[Pd b 0] f (Rt f (I6 S.drops))):=λf E=>kx (IP HCL.out E);clear hcl f1 f2 hyb y2 y3 y4 y8 y10 r1 r2 E hy
         go_upto_region 56 with (first
          | (go_at_call 9;refine(CC.out _ (A9 _ _)).mono ?_;rintro e w12 ⟨rfl,hb12⟩;have HB12:=Aa hb12;have x1:w12.cell? (Ad q 1)=some (Sl g N cc7):=(zC hb12 q 1 (Ca wr _ HR1.out)).trans HR1.out;have x2:w12.cell? (Ad g m)=some (Pd y 0):=(zC hb12 g m (Ca wr _ HR2.out)).trans HR2.out;clear hb12))
         have HZ12:Hid _:=ZK.grow HZ11.out HB12.out;clear x1 x2 z1 HZ11;obtain⟨pn,hpn⟩:∃pn,decide (1<=S.mine.length)=pn:=⟨_,rfl⟩;rw[hpn]at CP HZ12;clear hpn;refine Kh (λf:World=>ZK [(((Ad y 2):Addr),Sx S.doc),(((Ad y 3):Addr),Sx S.seen),(((Ad y 4):Addr),I6 S.rev),(((Ad y 8):Addr),.bool pn),(((Ad y 10):Addr),I6 S.drops)] f) 51 51 (by kernel_rfl) rfl ?_;intro w30 F;have d:=ZK.grow HZ12.out F;have v:Hid _:=HB12.out.trans (F.mono HB12.out.size);obtain⟨G,z⟩:=JC (Z:=λf:World=>ZK [(((Ad y 2):Addr),Sx S.doc),(((Ad y 3):Addr),Sx S.seen),(((Ad y 4):Addr),I6 S.rev),(((Ad y 8):Addr),.bool pn),(((Ad y 10):Addr),I6 S.drops)] f) d (λ{w w'} h E=>ZK.grow h E);have e0:∀x,(G x).cell? ((Ad y 2):Addr)=some (Sx S.doc):=λx=>z.but x (((Ad y 2):Addr),Sx S.doc) (by simp);have e1:∀x,(G x).cell? ((Ad y 3):Addr)=some (Sx S.seen):=λx=>z.but x (((Ad y 3):Addr),Sx S.seen) (by simp);have e2:∀x,(G x).cell? ((Ad y 4):Addr)=some (I6 S.rev):=λx=>z.but x (((Ad y 4):Addr),I6 S.rev) (by simp);have e3:∀x,(G x).cell? ((Ad y 8):Addr)=some (.bool pn):=λx=>z.but x (((Ad y 8):Addr),.bool pn) (by simp);have e4:∀x,(G x).cell? ((Ad y 10):Addr)=some (I6 S.drops):=λx=>z.but x (((Ad y 10):Addr),I6 S.drops) (by simp);clear F;(iterate 8 (refine ay z d λ_ k=>?_;go_simp;apply k;clear k));refine az z d 9 λ_ k=>?_;go_simp;apply k;clear k;refine az z d 10 λ_ k=>?_;go_simp;apply k;clear k;refine az z d 11 λ_ k=>?_;go_simp;apply k;clear k;refine az z d 12 λ_ k=>?_;go_simp;apply k;clear k;refine aO 8 ⟨_,rfl,?_⟩;intro xa t K P
         go_simp
         refine((CT).out xa (v.out.trans (t.mono v.out.size))).mono ?_;rintro e xb ⟨rfl,A⟩;have B:=ZK.grow d (t.trans (A.mono t.size));refine⟨_,rfl,P _ _ (λh=>ZK.grow h A) ?_⟩;have C:Hid _:=v.out.trans ((t.trans (A.mono t.size)).mono v.out.size);clear P K t A d v;have d:=B;have v:Hid _:=C;clear B C;refine az z d 13 λ_ k=>?_;go_simp;apply k;clear k;refine az z d 14 λ_ k=>?_;go_simp;apply k;clear k;refine az z d 15 λ_ k=>?_;go_simp;apply k;clear k;refine az z d 16 λ_ k=>?_;go_simp;apply k;clear k;refine az z d 18 λ_ k=>?_;go_simp;apply k;clear k;refine az z d 19 λ_ k=>?_;go_simp;apply k;clear k;refine az z d 20 λ_ k=>?_;go_simp;apply k;clear k;refine az z d 21 λ_ k=>?_;go_simp;apply k;clear k;refine aO 17 ⟨_,rfl,?_⟩;intro xa t K P
         go_simp
         refine((CS).out xa (v.out.trans (t.mono v.out.size))).mono ?_;rintro e xb ⟨rfl,A⟩;have B:=ZK.grow d (t.trans (A.mono t.size));refine⟨_,rfl,P _ _ (λh=>ZK.grow h A) ?_⟩;have C:Hid _:=v.out.trans ((t.trans (A.mono t.size)).mono v.out.size);clear P K t A d v;have d:=B;have v:Hid _:=C;clear B C;refine az z d 22 λ_ k=>?_;go_simp;apply k;clear k;refine az z d 23 λ_ k=>?_;go_simp;apply k;clear k;refine az z d 24 λ_ k=>?_;go_simp;apply k;clear k;refine az z d 25 λ_ k=>?_;go_simp;apply k;clear k;refine az z d 27 λ_ k=>?_;go_simp;apply k;clear k;refine az z d 28 λ_ k=>?_;go_simp;apply k;clear k;refine az z d 29 λ_ k=>?_;go_simp;apply k;clear k;refine az z d 30 λ_ k=>?_;go_simp;apply k;clear k;refine aO 26 ⟨_,rfl,?_⟩;intro xa t K P
         go_simp
         refine((CV).out xa (v.out.trans (t.mono v.out.size))).mono ?_;rintro e xb ⟨rfl,A⟩;have B:=ZK.grow d (t.trans (A.mono t.size));refine⟨_,rfl,P _ _ (λh=>ZK.grow h A) ?_⟩;have C:Hid _:=v.out.trans ((t.trans (A.mono t.size)).mono v.out.size);clear P K t A d v;have d:=B;have v:Hid _:=C;clear B C;refine az z d 31 λ_ k=>?_;go_simp;apply k;clear k;refine az z d 32 λ_ k=>?_;go_simp;apply k;clear k;refine az z d 33 λ_ k=>?_;go_simp;apply k;clear k;refine az z d 34 λ_ k=>?_;go_simp;apply k;clear k;refine az z d 36 λ_ k=>?_;go_simp;apply k;clear k;refine az z d 37 λ_ k=>?_;go_simp;apply k;clear k;refine az z d 38 λ_ k=>?_;go_simp;apply k;clear k;refine az z d 39 λ_ k=>?_;go_simp;apply k;clear k;refine aO 35 ⟨_,rfl,?_⟩;intro xa t K P
         go_simp
         refine((CP).out xa (v.out.trans (t.mono v.out.size))).mono ?_;rintro e xb ⟨rfl,A⟩;have B:=ZK.grow d (t.trans (A.mono t.size));refine⟨_,rfl,P _ _ (λh=>ZK.grow h A) ?_⟩;have C:Hid _:=v.out.trans ((t.trans (A.mono t.size)).mono v.out.size);clear P K t A d v;have d:=B;have v:Hid _:=C;clear B C;refine az z d 40 λ_ k=>?_;go_simp;apply k;clear k;refine az z d 41 λ_ k=>?_;go_simp;apply k;clear k;refine az z d 42 λ_ k=>?_;go_simp;apply k;clear k;refine az z d 43 λ_ k=>?_;go_simp;apply k;clear k;refine az z d 45 λ_ k=>?_;go_simp;apply k;clear k;refine az z d 46 λ_ k=>?_;go_simp;apply k;clear k;refine az z d 47 λ_ k=>?_;go_simp;apply k;clear k;refine az z d 48 λ_ k=>?_;go_simp;apply k;clear k;refine aO 44 ⟨_,rfl,?_⟩;intro xa t K P
         go_simp
         refine((CO).out xa (v.out.trans (t.mono v.out.size))).mono ?_;rintro e xb ⟨rfl,A⟩;have B:=ZK.grow d (t.trans (A.mono t.size));refine⟨_,rfl,P _ _ (λh=>ZK.grow h A) ?_⟩;have C:Hid _:=v.out.trans ((t.trans (A.mono t.size)).mono v.out.size);clear P K t A d v;have d:=B;have v:Hid _:=C;clear B C;refine az z d 49 λ_ k=>?_;go_simp;apply k;clear k;refine az z d 50 λ_ k=>?_;go_simp;apply k;clear k;clear e0 e1 e2 e3 e4 z d;refine ae ?_;intro w13 hb13;have H13:Hid (RQ w r U bmx O q I smx ys (s.length:Int) J J w13):=H11.out.grow (v.out.trans (hb13.mono v.out.size));clear hb13 v;go_wp2
         go_roundw
         case rel=>exact⟨m+1,by go_num,by omega,H13.out⟩
         case measure=>simp[intOf];omega
end
theorem iB(s:List UInt8)(g f:Value)(a:List Int)(l:List Sa)(w:World)(k:Ja w g a)(m:Nq w f l)(h:300<s.length\/9<a.length\/50<l.length) :
    Cg 3 #[Sx s,g,f] w (Rt w (.bool true)):=by
 have o:(ByteArray.mk s.toArray).size=s.length:=by simp[ByteArray.size]
 obtain⟨q,n,rfl,p,j,_⟩:=k;obtain⟨r,t,rfl,d1,d2,_⟩:=m;unfold maxLen at j d2
 by_cases d:300<s.length
 . have b:(300:Int)<(s.length:Int):=by omega
   clear h d
   go_enter func3,ntmps3
   go_wp2;go_ret;exact⟨rfl,A9 _ _⟩
 have b:¬(300:Int)<(s.length:Int):=by omega
 by_cases e:9<a.length
 . have c:(9:Int)<(a.length:Int):=by omega
   clear h d e
   go_enter func3,ntmps3
   go_wp2;go_ret;exact⟨rfl,A9 _ _⟩
 . have c:¬(9:Int)<(a.length:Int):=by omega
   have i:(50:Int)<(l.length:Int):=by omega
   clear h d e
   go_enter func3,ntmps3
   go_wp2;go_ret;exact⟨rfl,A9 _ _⟩
theorem eC(s:List UInt8)(q t:Value)(m:List Int)(l:List Sa)(w:World)(o:Env w.heap.size w)(p:Ja w q m)(F:Nq w t l)(E:s.length<=300)(z:m.length<=9)(J:l.length<=50)(c:(scan s).2=false) :
    Cg 3 #[Sx s,q,t] w (Rt w (.bool true)):=by
 have Q:(ByteArray.mk s.toArray).size=s.length:=by simp[ByteArray.size]
 have y:Hid _:=ey s c (by omega) q m w o.tabs p;have B:=Aa λC (v:Bw w C)=>dG (by omega) c (U9 p v);have I:=Aa o.lay;obtain⟨N,S,rfl,K,A,_⟩:=p;obtain⟨P,R,rfl,d1,d2,_⟩:=F;unfold maxLen at A d2;have G:¬(300:Int)<(s.length:Int):=by omega
 have H:¬(9:Int)<(m.length:Int):=by omega
 have D:¬(50:Int)<(l.length:Int):=by omega
 generalize Gs s=PL at *;clear o E z J c
 go_enter func3,ntmps3
 go_wp2_with (first
  | (go_at_call 4;refine AC y.out ?_;rintro e O ⟨x,w0,rfl,h,k,g⟩;have b:=Aa g;have r:=Aa h;have d:=Aa k;clear g k h)
  | (go_at_call 5;refine(B.out _ b.out).mono ?_;rintro e u ⟨rfl,a⟩;have f:Hid (Bw w (u.alloc (Oc #[I6 3,I6 PL] 32))):=(b.out.trans (a.mono b.out.size)).alloc (AF b.out.size a.size) _;have i:Hid (Bw w0 (u.alloc (Oc #[I6 3,I6 PL] 32))):=(d.out.trans (a.mono d.out.size)).alloc (AF d.out.size a.size) _;clear a)
  | (go_at_call 6;refine(Ps (OS I.out f.out) r.out i.out).mono ?_;rintro e L ⟨rfl,j⟩;have n:=Aa (f.out.trans (j.mono f.out.size));clear j))
 go_ret;exact⟨rfl,n.out⟩
theorem XY(n:Int)(j:n=4\/n=1)(s:List UInt8)(g p:Value)(k:List Int)(l:List Sa)(w:World)(o:Env w.heap.size w)(v:Ja w g k)(B:Nq w p l)(A:s.length<=300)(t:k.length<=9)(F:l.length<=50)
    (m:Cg 4 #[Sx s,g] w (Rt w (.tuple #[.pointer none,.iface 30 (I6 n)])))
    (q:∀i,Bw w i->Cg 5 #[Sx s,g] i (Rt i (.tuple #[.pointer none,.agg #[I6 n,I6 (-1)]]))) :
    Cg 3 #[Sx s,g,p] w (Rt w (.bool true)):=by
 have O:(ByteArray.mk s.toArray).size=s.length:=by simp[ByteArray.size]
 have r:=Aa m;have x:=Aa q;have E:=Aa o.lay;obtain⟨K,Q,rfl,I,u,_⟩:=v;obtain⟨N,P,rfl,d1,d2,_⟩:=B;unfold maxLen at u d2;have C:¬(300:Int)<(s.length:Int):=by omega
 have D:¬(9:Int)<(k.length:Int):=by omega
 have y:¬(50:Int)<(l.length:Int):=by omega
 clear o A t F m q;have z:(n != 0)=true:=by rcases j with rfl|rfl<;>rfl
 have G:¬n=0:=by rcases j with rfl|rfl<;>decide
 clear j
 go_enter func3,ntmps3
 go_wp2_with (first
  | (go_at_call 4;refine AC r.out ?_;rintro e L ⟨rfl,d⟩;have a:=Aa d;clear d)
  | (go_at_call 5;refine(x.out _ a.out).mono ?_;rintro e H ⟨rfl,b⟩;have c:Hid (Bw w (H.alloc (Oc #[I6 n,I6 (-1)] 32))):=(a.out.trans (b.mono a.out.size)).alloc (AF a.out.size b.size) _;clear b)
  | (go_at_call 6;refine(aD n _ (OS E.out c.out)).mono ?_;rintro e J ⟨rfl,f⟩;have h:=Aa (c.out.trans (f.mono c.out.size));clear f))
 go_ret;exact⟨rfl,h.out⟩
theorem lg(s:ByteArray)(d g:Value)(c:List Int)(l:List Sa)(w:World)(x:F6 w)(p:Lib.Utf8Tabs 1 2 w)(f:Ja w d c)(n:Nq w g l)(r:∀q∈l,LM q) :
    Cg 3 #[.string s,d,g] w (Rt w (.bool true)):=by
 have B:(ByteArray.mk s.data.toList.toArray)=s:=by cases s;simp
 rw[←B];generalize s.data.toList=t;have m:Env w.heap.size w:=⟨x,p,Ca w (Ad 0 0) x,Ca w _ (p.1 0 (by decide)),Ca w _ (p.2 0 (by decide)).1⟩
 by_cases h:300<t.length\/9<c.length\/50<l.length
 . exact iB t d g c l w f n h
 by_cases i:(scan t).2=true
 . have v:=RZ i
   have y:∀k,Bw w k->_:=λk j=>XP v (by omega) j.size (U9 f j)
   by_cases z:c.length<=6
   . have A:=XU t v (by omega) c z d w.heap.size w m (Ai _) f
     by_cases o:∀u∈c,Ck u
     . exact iA t d g c l w m f o n r (by omega) z (by omega) v
     . refine XY 1 (.inr rfl) t d g c l w m f n (by omega) (by omega) (by omega) (A.mono ?_) λk j=>(y k j).mono ?_
       . rintro e w' ⟨a,⟨b,_⟩|⟨_,b⟩⟩
         . exact absurd b o
         . exact⟨b,a⟩
       . rintro e w' ⟨a,⟨b,_⟩|⟨_,⟨_,b⟩|⟨b,_⟩⟩⟩
         . omega
         . exact⟨b,a⟩
         . exact absurd b o
   . refine XY 4 (.inl rfl) t d g c l w m f n (by omega) (by omega) (by omega) (iv t i (by omega) c (by omega) d w.heap.size w m (Ai _) f) λk j=>(y k j).mono ?_
     rintro e w' ⟨a,⟨_,b⟩|⟨b,_⟩⟩
     . exact⟨b,a⟩
     . omega
 . exact eC t d g c l w m f n (by omega) (by omega) (by omega) (by simpa using i)
section
open Go.Deep Go.ChangeShapes Go.WideShapes Go.Joins
theorem lw:prog.cellsOf 39=3:=by kernel_rfl
theorem kQ{H:Type}{enc:TypeId×Value->H}{W:World}{base:Nat}{F:Nat->Bool}{i:Bool}{n:Nat}{a:Addr}{k:List Value}{y:DataW H×List MemPlace}
    (D:W.cells? base a 3=some k) (E:DataW.trod enc prog W base F i n 39 k=some y) :
    ∃q:Sa,a.spot=none/\JY W a.block a.off q/\LM q:=by
 obtain⟨_,g,d⟩:=World.cells?_some D;obtain⟨J,I,G,m,rfl,_,s,l,r⟩:=trod_struct3 underlying39 E;rw[ZY]at s l;rw[gN]at r
 match k,g with
 | [c0,c1,c3],_ =>
  simp only[DE,EM,DW,List.drop_succ_cons]at s l r;obtain⟨A,w,rfl,w0⟩:=DataW.trod_int underlying3 s;obtain⟨B,u,rfl,C⟩:=DataW.trod_int underlying3 l;obtain⟨ps,x,z,_,_⟩:=La r;simp only[List.cons.injEq,and_true]at w u;subst w u;obtain⟨b,o,e⟩:=a;have p:=d 0 (by omega);have v:=d 1 (by omega);have t:=d 2 (by omega);have f:e=none:=by simpa[Addr.add] using World.cell?_spot (show W.cell? ((⟨b,o,e⟩:Addr).add 0)=some (I6 A) from p)
  subst f;rw[DG]at p v t;have j:∀{c:Int},(Lit.int .i64 c).wf=true->JG c:=λ{c} h=>by
   unfold JG;simp[Lit.wf,IntKind.min,IntKind.max,IntKind.signed,IntKind.bits]at h;omega
  exact⟨⟨A,B,0,ps⟩,rfl,⟨p,v,c3,t,x⟩,⟨j w0,j C,by show JG 0;unfold JG;omega⟩,bT z⟩
theorem jZ{H:Type}{enc:TypeId×Value->H}{W:World}{base:Nat}{K:Nat->Bool}{s:Bool}{u:Nat}{v:Value}{x:DataW H×List MemPlace}
    (h:DataW.trod enc prog W base K s u 23 [v]=some x) :
    ∃l,Nq W v l/\∀q∈l,LM q:=by
 rcases open_slice underlying23 h with ⟨d,_⟩|⟨a,len,A,m,n,D,Q,d,P,L,G,z,rfl,I⟩
 . simp only[List.cons.injEq,and_true]at d
   subst d;exact⟨[],⟨none,0,rfl,Ai _,AV _,λh=>absurd rfl h⟩,by simp⟩
 . simp only [List.cons.injEq,and_true]at d
   subst d;have F:len<=m:=by rw[z];split<;>omega
   haveI:Inhabited Sa:=⟨⟨0,0,0,[]⟩⟩
   obtain ⟨f,y⟩:=choose_lt (α:=Sa) (n:=len) (p:=λi q=>(a.add (i*3)).spot=none/\JY W (a.add (i*3)).block (a.add (i*3)).off q/\LM q) (λi r=>by
    obtain⟨O,E,J⟩:=I i (by omega);rw[lw]at E
    exact kQ E J)
   have c:((List.range len).map f).length=len:=by simp
   refine⟨(List.range len).map f,⟨some a,A,by rw[c],by rw[c];exact L,G,λB=>?_⟩,?_⟩
   . have g:0<len:=by
       cases len with
       | zero=>exact absurd rfl B
       | succ n=>exact Nat.succ_pos n
     obtain⟨b,o,t⟩:=a;have C:=(y 0 g).1;have j:t=none:=by simpa[Addr.add] using C
     subst j;refine⟨b,o,rfl,?_,λi q r=>?_⟩
     . have:=Ca W _ (y 0 g).2.1.1
       rw[DG]at this;exact this
     . have w:i<len:=by have:=(De r);rw[c]at this;exact this
       have e:q=f i:=by
        rw[BD,List.getElem?_range w]at r;exact(Bq r).symm
       subst e;have k:=(y i w).2.1;rw[DG]at k;exact k
   . intro q N
     obtain⟨i,r,rfl⟩:=List.mem_map.1 N;exact(y i (List.mem_range.1 r)).2.2
theorem fk{H:Type}{enc:TypeId×Value->H}{W:World}{base:Nat}{R:Nat->Bool}{u:Bool}{w:Nat}{v:Value}{x:DataW H×List MemPlace}
    (h:DataW.trod enc prog W base R u w 22 [v]=some x) :
    ∃l:List Int,Ja W v l/\∀q∈l,JG q:=by
 rcases open_slice underlying22 h with ⟨j,_⟩|⟨a,len,E,m,n,D,Y,j,X,S,O,B,rfl,P⟩
 . simp only[List.cons.injEq,and_true]at j
   subst j;exact⟨[],⟨none,0,rfl,Ai _,AV _,λh=>absurd rfl h⟩,by simp⟩
 . simp only [List.cons.injEq,and_true]at j
   subst j;have N:len<=m:=by rw[B];split<;>omega
   obtain ⟨f,z⟩:=choose_lt (α:=Int) (n:=len) (p:=λi q=>(a.add i).spot=none/\W.cell? (Ad ((a.add i).block) ((a.add i).off))=some (I6 q)/\JG q) (λi t=>by
    obtain⟨L,C,Q⟩:=P i (by omega);rw[ZY]at C;rw[GJ]at C;obtain⟨_,c,s⟩:=World.cells?_some C
    match L,c with
    | [c0],_ =>
     obtain⟨A,K,_,w0⟩:=DataW.trod_int underlying3 Q;simp only[List.cons.injEq,and_true]at K;subst K;have F:=s 0 (by omega);generalize a.add i=a' at *;obtain⟨b,o,g⟩:=a';have d:g=none:=by simpa[Addr.add] using World.cell?_spot (show W.cell? ((⟨b,o,g⟩:Addr).add 0)=some (I6 A) from F)
     subst d;rw[DG]at F;have I:JG A:=by
      unfold JG;simp[Lit.wf,IntKind.min,IntKind.max,IntKind.signed,IntKind.bits]at w0;omega
     exact⟨A,rfl,F,I⟩)
   have c:((List.range len).map f).length=len:=by simp
   refine⟨(List.range len).map f,⟨some a,E,by rw[c],by rw[c];exact S,O,λG=>?_⟩,?_⟩
   . have r:0<len:=by
       cases len with
       | zero=>exact absurd rfl G
       | succ n=>exact Nat.succ_pos n
     obtain⟨b,o,g⟩:=a;have J:=(z 0 r).1;have d:g=none:=by simpa[Addr.add] using J
     subst d;refine⟨b,o,rfl,?_,λi q t=>?_⟩
     . have:=Ca W _ (z 0 r).2.1
       rw[DG]at this;exact this
     . have y:i<len:=by have:=(De t);rw[c]at this;exact this
       have e:q=f i:=by
        rw[BD,List.getElem?_range y]at t;exact(Bq t).symm
       subst e;have k:=(z i y).2.1;rw[DG]at k;exact k
   . intro q U
     obtain⟨i,t,rfl⟩:=List.mem_map.1 U;exact(z i (List.mem_range.1 t)).2.2
end
end Go.Proofs.YtkcpjanmemdjlaaGreatDoor
