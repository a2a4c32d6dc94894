/-
  A part of the texts that the proof uses.
-/
import Derived.Test.YtbkeomcicobohaaGreatDoorPartC
set_option maxRecDepth 100000
set_option maxHeartbeats 40000000
set_option linter.unusedVariables false
namespace Go.Proofs.YtbkeomcicobohaaGreatDoor
open Go.Proofs.Tryz Go.RowKit Go.Maps
theorem JmL(ps:List Pt)(p:Pt):JdJ (ps++[p])=Jcp (JdJ ps) p:=by simp[JdJ]
theorem Jov(g:GSt)(p:Pt):(Jcp g p).1.length=g.1.length+p.drop.toNat+p.keep.toNat:=by
 unfold Jcp;rw[Jf3,Jf3]
def isP (p:Pt):Int:=p.keep+p.put.length
theorem JkE(ps:List Pt)(h:∀p∈ps,Jce p)(hw:wts ps<4611686018427387904):(JaS ps).1=(JdJ ps).1.length/\(JaS ps).2=(ps.map isP).sum/\((JdJ ps).1.length:Int)<=wts ps/\(ps.map isP).sum<=wts ps:=by
 have key:∀k,k<=ps.length->(JaS (ps.take k)).1=(JdJ (ps.take k)).1.length/\(JaS (ps.take k)).2=((ps.take k).map isP).sum/\((JdJ (ps.take k)).1.length:Int)<=wts (ps.take k)/\((ps.take k).map isP).sum<=wts (ps.take k)/\0<=((ps.take k).map isP).sum:=by
  intro k
  induction k with
  | zero=>intro _;simp[JaS,JdJ,wts]
  | succ k ih =>
   intro hk;obtain⟨h1,h2,h3,h4,h5⟩:=ih (by omega);have hp:=h _ (List.getElem_mem (show k<ps.length by omega));have ht:=Jly h (k+1);have hts:ps.take (k+1)=ps.take k++[ps[k]]:=List.take_succ_eq_append_getElem (by omega);have hls:JaS (ps.take (k+1))=lenW (JaS (ps.take k)) ps[k]:=by
    unfold JaS;rw[hts,List.foldl_append];rfl
   rw[hls,hts,JmL,Jov,Jiu,List.map_append,List.sum_append];rw[hts,Jiu]at ht;generalize ps[k]=q at *;obtain⟨q1,q2⟩:=hp;have hwq:wtP q=q.keep+q.drop+q.put.length:=rfl;have hiq:([q].map isP).sum=q.keep+q.put.length:=by simp[isP]
   rw[hiq];unfold lenW;simp only;rw[h1,h2];have w1:IntKind.i64.wrap (q.keep+q.drop)=q.keep+q.drop:=by rw[IntKind.wrap_i64];omega
   have w2:IntKind.i64.wrap (q.keep+(q.put.length:Int))=q.keep+q.put.length:=by rw[IntKind.wrap_i64];omega
   rw[w1,w2];have w3:IntKind.i64.wrap (((JdJ (ps.take k)).1.length:Int)+(q.keep+q.drop))=((JdJ (ps.take k)).1.length:Int)+(q.keep+q.drop):=by rw[IntKind.wrap_i64];omega
   have w4:IntKind.i64.wrap (((ps.take k).map isP).sum+(q.keep+(q.put.length:Int)))=((ps.take k).map isP).sum+(q.keep+q.put.length):=by rw[IntKind.wrap_i64];omega
   rw[w3,w4];refine⟨by omega,rfl,by omega,by omega,by omega⟩
 have:=key ps.length (nlr _);rw[List.take_length]at this;exact⟨this.1,this.2.1,this.2.2.1,this.2.2.2.1⟩
end Go.Proofs.YtbkeomcicobohaaGreatDoor
namespace Go.Proofs
open Go.Shelf
def Tryz.lays196_ren:Go.Shelf.Ren:=⟨λ| 196=>187 | 259=>238 | n=>n,λ| 0=>0 | 3=>3 | 4=>4 | 5=>5 | 9=>9 | 12=>12 | 46=>174 | 53=>122 | 119=>249 | 138=>251 | 139=>252 | n=>n,λ| 3=>3 | 4=>4 | n=>n⟩
theorem Tryz.lays196:Go.Proofs.Lays.n196 Tryz.prog Tryz.lays196_ren:={
 mixed:=by kernel_rfl
 f196:=Tryz.func187.trans (congrArg some (by kernel_rfl))
 f259:=Tryz.func238.trans (congrArg some (by kernel_rfl))
 t0:=Tryz.underlying0
 a0:=Tryz.isAgg0
 z0:=Tryz.sizeOf0
 v0:=Tryz.zeroValue0
 t3:=Tryz.underlying3
 a3:=Tryz.isAgg3
 z3:=Tryz.sizeOf3
 v3:=Tryz.zeroValue3
 t4:=Tryz.underlying4
 a4:=Tryz.isAgg4
 z4:=Tryz.sizeOf4
 v4:=Tryz.zeroValue4
 t5:=Tryz.underlying5
 a5:=Tryz.isAgg5
 z5:=Tryz.sizeOf5
 v5:=Tryz.zeroValue5
 t9:=Tryz.underlying9
 a9:=Tryz.isAgg9
 z9:=Tryz.sizeOf9
 v9:=Tryz.zeroValue9
 t12:=Tryz.underlying12
 a12:=Tryz.isAgg12
 z12:=Tryz.sizeOf12
 v12:=Tryz.zeroValue12
 t46:=Tryz.underlying174
 a46:=Tryz.isAgg174
 z46:=Tryz.sizeOf174
 v46:=Tryz.zeroValue174
 t53:=Tryz.underlying122
 a53:=Tryz.isAgg122
 z53:=Tryz.sizeOf122
 v53:=Tryz.zeroValue122
 t119:=Tryz.underlying249
 a119:=Tryz.isAgg249
 z119:=Tryz.sizeOf249
 t138:=Tryz.underlying251
 a138:=Tryz.isAgg251
 z138:=Tryz.sizeOf251
 v138:=Tryz.zeroValue251
 t139:=Tryz.underlying252
 a139:=Tryz.isAgg252
 z139:=Tryz.sizeOf252
 v139:=Tryz.zeroValue252
 g3:=by kernel_rfl
 g4:=by kernel_rfl }
end Go.Proofs
namespace Go.Proofs.YtbkeomcicobohaaGreatDoor
open Go.Proofs.Tryz Go.RowKit Go.Maps
theorem Jqv(n:Nat):∀(l:List UInt8),l.length<=n->Lib.validGoD n l=(scan l).2:=by
 induction n with
 | zero =>
  intro l hl;have:l=[]:=List.eq_nil_of_length_eq_zero (by omega);subst this;rfl
 | succ n ih =>
  intro l hl;unfold Lib.validGoD
  by_cases hne:l=[]
  . subst hne;rfl
  . rw [if_neg hne]
    have hd:Lib.decodeL l=dec l:=by
     have:=JeS ⟨l.toArray⟩ 0;rw[List.drop_zero]at this;rw[←this];unfold Lib.decodeL
     congr 1
     apply ByteArray.ext;simp
    rw[hd]
    by_cases hb:badB (dec l)=true
    . rw[Jiy hne hb,if_pos (Jht hb)]
    . have hb':badB (dec l)=false:=Bool.eq_false_iff.2 hb
      rw[Jf9 hne hb',if_neg (by intro h;exact hb (by unfold badB;simp[h])),ih];have h1:=JgD l;rw[List.length_drop];omega
theorem JjN(s:ByteArray)(w:World)(hs:s.size<=9223372036854775807)(hT:Lib.Utf8Tabs 3 4 w) :
    Calls prog 187 #[.string s] w λe w'=>e=.returned (.bool (scan s.data.toList).2)/\Below w.heap.size w w':=by
 have:=Any.utf8_ValidString lays196 s w hs hT;rwa[show Lib.validD s.data.toList=(scan s.data.toList).2 from Jqv _ _ (nlr _)]at this
end Go.Proofs.YtbkeomcicobohaaGreatDoor
namespace Go.Proofs.YtbkeomcicobohaaGreatDoor
open Go.Proofs.Tryz Go.RowKit Go.Maps
def oneB (p:Pt):Bool:=if p.drop=0/\p.put=[] then decide (0<p.keep) else if p.keep=0/\p.put=[] then decide (0<p.drop) else decide (p.keep=0/\p.drop=0)
def chk1:List Pt->Int
 | []=>0
 | p :: ps=>if oneB p then (if (scan p.put).2 then chk1 ps else 3) else 1
def chk2:List Pt->Int->Int
 | [],n=>if n=0 then 0 else 2
 | p :: ps,n=>if n<p.keep+p.drop then 2 else chk2 ps (n - (p.keep+p.drop))
def chkE (ps:List Pt) (n:Int):Int:=if chk1 ps=0 then chk2 ps n else chk1 ps
theorem Jti(p:Pt)(w:World):Cg 186 #[JaX p] w (Rt w (.bool (oneB p))):=by
 obtain⟨k,d,q⟩:=p;have cK:=Jco ⟨k,d,q⟩;have cD:=JdV ⟨k,d,q⟩;unfold oneB;unfold JaX at *;simp only at cK cD ⊢
 by_cases hq:q=[]
 . subst hq
   by_cases hd:d=0
   . subst hd
     go_enter func186,ntmps186
     go_wp2_with (go_at_call 159;refine(cK _).mono ?_;rintro e w1 ⟨rfl,hb1⟩)
     go_ret;exact⟨by simp,(zA _ _).trans (hb1.mono (by simp))⟩
   . have hdb:(d==0)=false:=beq_eq_false_iff_ne.2 hd
     by_cases hk:k=0
     . subst hk
       go_enter func186,ntmps186
       go_wp2_with (go_at_call 208;refine(cD _).mono ?_;rintro e w1 ⟨rfl,hb1⟩)
       go_ret;exact⟨by simp,(zA _ _).trans (hb1.mono (by simp))⟩
     . have hkb:(k==0)=false:=beq_eq_false_iff_ne.2 hk
       go_enter func186,ntmps186
       go_wp2;go_ret;exact⟨by simp,zA _ _⟩
 . have ho:(if d=0/\q=[] then decide (0<k) else if k=0/\q=[] then decide (0<d) else decide (k=0/\d=0))=decide (k=0/\d=0):=by simp[hq]
   rw[ho];clear ho;have HD:Hid (decide (k=0/\d=0)=(k==0 && d==0)):=by show _=_;by_cases h1:k=0<;>by_cases h2:d=0<;>simp[h1,h2]
   rw[HD.out]
   by_cases hd:d=0
   . subst hd
     by_cases hk:k=0
     . subst hk
       go_enter func186,ntmps186
       go_wp2;go_ret;exact⟨rfl,zA _ _⟩
     . have hkb:(k==0)=false:=beq_eq_false_iff_ne.2 hk
       go_enter func186,ntmps186
       go_wp2;go_ret;exact⟨rfl,zA _ _⟩
   . have hdb:(d==0)=false:=beq_eq_false_iff_ne.2 hd
     by_cases hk:k=0
     . subst hk
       go_enter func186,ntmps186
       go_wp2;go_ret;exact⟨rfl,zA _ _⟩
     . have hkb:(k==0)=false:=beq_eq_false_iff_ne.2 hk
       go_enter func186,ntmps186
       go_wp2;go_ret;exact⟨by rw[hkb];rfl,zA _ _⟩
def wfP (p:Pt):Prop:=-9223372036854775808<=p.keep/\p.keep<9223372036854775808/\-9223372036854775808<=p.drop/\p.drop<9223372036854775808/\p.put.length<1000000000000
theorem Jej{p:Pt}(h:oneB p=true):Jce p/\(p.keep=0\/p.drop=0):=by
 unfold oneB at h;unfold Jce
 split at h
 . rename_i h1
   have:=of_decide_eq_true h;exact⟨⟨by omega,by omega⟩,.inr h1.1⟩
 . split at h
   . rename_i h1
     have:=of_decide_eq_true h;exact⟨⟨by omega,by omega⟩,.inl h1.1⟩
   . have:=of_decide_eq_true h
     exact⟨⟨by omega,by omega⟩,.inl this.1⟩
theorem Jhp{ps:List Pt}(h:chk1 ps=0):∀p∈ps,oneB p=true/\(scan p.put).2=true:=by
 induction ps with
 | nil=>simp
 | cons p ps ih =>
  unfold chk1 at h
  split at h
  . rename_i h1
    split at h
    . rename_i h2
      intro q hq
      rcases List.mem_cons.1 hq with rfl|hq
      . exact⟨h1,h2⟩
      . exact ih h q hq
    . cases h
  . cases h
theorem Jdl(v:Value)(ps:List Pt)(N:Int)(w:World)(hT:Lib.Utf8Tabs 3 4 w)(hr:opAt w v ps)(hwf:∀p∈ps,wfP p)(hN: -9223372036854775808<=N/\N<9223372036854775808)(hl:ps.length<10000000) :
    Cg 137 #[v,I6 N] w (Rt w (errV (chkE ps N))):=by
 obtain⟨p,c,rfl,r1,r2,r3⟩:=hr;obtain⟨n,hn⟩:∃n,n=ps.length:=⟨_,rfl⟩;rw[←hn]at r1 hl ⊢;have HN:=hdz hn;clear hn
 have R3:Hid (ps≠[]->∃b o,p=some (Ad b o)/\b<w.heap.size/\∀i q,ps[i]?=some q ->
  w.cell? (Ad b (o+i*3))=some (I6 q.keep)/\w.cell? (Ad b (o+i*3+1))=some (I6 q.drop)/\w.cell? (Ad b (o+i*3+2))=some (Sx q.put)):=r3
 have HWF:=hdz hwf;have HT:=hdz hT;obtain⟨hN0,hN1⟩:=hN;clear r3 hwf hT
 go_enter func137,ntmps137
 go_wp2
 go_loopw [11] (λi wr=>∃(k:Nat),k<=n/\i=.int .i64 k/\chk1 ps=chk1 (ps.drop k)/\Bw w wr) (λi _=>n - (intOf i).toNat)
 case atStart=>exact⟨0,Nat.zero_le _,rfl,rfl,brf _ _⟩
 case round =>
  obtain⟨k,hk,rfl,hch,hwr⟩:=hrel
  by_cases hlt:k<n
  . have hkr:k<ps.length:=by rw[←HN.out];exact hlt
    have hne:ps≠[]:=by intro e;rw[e]at hkr;exact absurd hkr (Nat.not_lt_zero _)
    obtain⟨b,o,rfl,hbw,hcell⟩:=R3.out hne;obtain⟨c0,c1,c2⟩:=hcell k ps[k] (lgg hkr);have g0:=(zC hwr b (o+k*3) hbw).trans c0;have g1:=(zC hwr b (o+k*3+1) hbw).trans c1;have g2:=(zC hwr b (o+k*3+2) hbw).trans c2;rw[List.drop_eq_getElem_cons hkr,chk1]at hch;have hwq:=HWF.out ps[k] (List.getElem_mem _);generalize ps[k]=q at *;have hsize:=hwr.size;have HWR:=hdz hwr;have hb0:Bw wr (wr.alloc (Oc #[I6 q.keep,I6 q.drop,Sx q.put] 96)):=zA _ _;have HB0:Hid (Bw w (wr.alloc (Oc #[I6 q.keep,I6 q.drop,Sx q.put] 96))):=hwr.trans (hb0.mono hsize);have x2:(wr.alloc (Oc #[I6 q.keep,I6 q.drop,Sx q.put] 96)).cell? (Ad wr.heap.size 2)=some (Sx q.put):=by simp[go_sem]
    have X2:=hdz x2;have cO:=Jti q;unfold JaX at cO;have cV:Hid (∀wx,Bw w wx->Cg 187 #[Sx q.put] wx (Rt wx (.bool (scan q.put).2))):=λwx hb =>
     JjN ⟨q.put.toArray⟩ wx (by have:=hwq.2.2.2.2;simp[ByteArray.size];omega) (Go.Proofs.Utf8Tabs_below HT.out hb)
    by_cases h1:oneB q=true
    . rw [if_pos h1]at hch
      rw[h1]at cO
      by_cases h2:(scan q.put).2=true
      . rw[if_pos h2]at hch
        rw[h2]at cV;have HCH:=hdz hch;clear hcell c0 c1 c2 hch hwq hwr hb0 x2 HWF h1 h2
        go_wp2_with (first | (go_at_call 186;refine(cO _).mono ?_;rintro e w1 ⟨rfl,hb1⟩;have HB1:=hdz (HB0.out.trans (hb1.mono HB0.out.size));have hc2:=(zC hb1 wr.heap.size 2 (by simp)).trans X2.out;clear hb1) | (go_at_call 187;refine(cV.out _ HB1.out).mono ?_;rintro e w2 ⟨rfl,hb2⟩;have HB2:=hdz (HB1.out.trans (hb2.mono HB1.out.size));clear hb2))
        go_roundw
        case rel=>exact⟨k+1,by omega,by go_num,HCH.out,HB2.out⟩
        case measure=>simp[intOf];omega
      . have h2:(scan q.put).2=false:=Bool.eq_false_iff.2 h2
        rw[h2]at hch cV;have HCH:Hid (chk1 ps=3):=by show chk1 ps=3;simpa using hch
        clear hcell c0 c1 c2 hch hwq hwr hb0 x2 HWF h1 h2
        go_wp2_with (first | (go_at_call 186;refine(cO _).mono ?_;rintro e w1 ⟨rfl,hb1⟩;have HB1:=hdz (HB0.out.trans (hb1.mono HB0.out.size));have hc2:=(zC hb1 wr.heap.size 2 (by simp)).trans X2.out;clear hb1) | (go_at_call 187;refine(cV.out _ HB1.out).mono ?_;rintro e w2 ⟨rfl,hb2⟩;have HB2:=hdz (HB1.out.trans (hb2.mono HB1.out.size));clear hb2))
        go_ret;refine⟨?_,HB2.out⟩;unfold chkE;rw[HCH.out];rfl
    . have h1:oneB q=false:=Bool.eq_false_iff.2 h1
      rw[h1]at hch cO;have HCH:Hid (chk1 ps=1):=by show chk1 ps=1;simpa using hch
      clear hcell c0 c1 c2 hch hwq hwr hb0 x2 HWF h1
      go_wp2_with (go_at_call 186;refine(cO _).mono ?_;rintro e w1 ⟨rfl,hb1⟩;have HB1:=hdz (HB0.out.trans (hb1.mono HB0.out.size));clear hb1)
      go_ret;refine⟨?_,HB1.out⟩;unfold chkE;rw[HCH.out];rfl
  . have e : ps.drop k=[]:=List.drop_of_length_le (by rw[←HN.out];omega)
    rw[e]at hch;have H0:Hid (chk1 ps=0):=hch;have HWR:=hdz hwr;have HON:Hid (∀p∈ps,Jce p/\(p.keep=0\/p.drop=0)):=λp hp=>Jej (Jhp hch p hp).1;clear e hch hwr;go_wp2
    go_loopw [1,27] (λm i wr=>∃(k:Nat) (M:Int),k<=n/\i=.int .i64 k/\m=.int .i64 M/\-9223372036854775808<=M/\M<9223372036854775808/\chk2 ps N=chk2 (ps.drop k) M/\Bw w wr) (λ_ i _=>n - (intOf i).toNat)
    case atStart=>exact⟨0,N,Nat.zero_le _,rfl,rfl,hN0,hN1,rfl,HWR.out⟩
    case round =>
     obtain⟨k,M,hk,rfl,rfl,hM0,hM1,hch,hwr⟩:=hrel
     by_cases hlt:k<n
     . have hkr:k<ps.length:=by rw[←HN.out];exact hlt
       have hne:ps≠[]:=by intro e;rw[e]at hkr;exact absurd hkr (Nat.not_lt_zero _)
       obtain⟨b,o,rfl,hbw,hcell⟩:=R3.out hne;obtain⟨c0,c1,c2⟩:=hcell k ps[k] (lgg hkr);have g0:=(zC hwr b (o+k*3) hbw).trans c0;have g1:=(zC hwr b (o+k*3+1) hbw).trans c1;have g2:=(zC hwr b (o+k*3+2) hbw).trans c2;rw[List.drop_eq_getElem_cons hkr,chk2]at hch;have hwq:=HWF.out ps[k] (List.getElem_mem _);have hon:=HON.out ps[k] (List.getElem_mem _);generalize ps[k]=q at *;obtain⟨⟨s0,s1⟩,s2⟩:=hon;have hsum0:0<=q.keep+q.drop:=by omega
       have hsum1:q.keep+q.drop<9223372036854775808:=by have:=hwq.2.1;have:=hwq.2.2.2.1;omega
       have hw1:IntKind.i64.wrap (q.keep+q.drop)=q.keep+q.drop:=by rw[IntKind.wrap_i64];omega
       have HB0:Hid (Bw w (wr.alloc (Oc #[I6 q.keep,I6 q.drop,Sx q.put] 96))):=hwr.alloc hwr.size _
       by_cases h1:M<q.keep+q.drop
       . rw[if_pos h1]at hch
         have HCH:=hdz hch;clear hcell c0 c1 c2 hch hwq hwr HWF s2;go_wp2;go_ret;refine⟨?_,HB0.out⟩;unfold chkE;rw[if_pos H0.out,HCH.out];rfl
       . rw[if_neg h1]at hch
         have HCH:=hdz hch;have hw2:IntKind.i64.wrap (M - (q.keep+q.drop))=M - (q.keep+q.drop):=by rw[IntKind.wrap_i64];omega
         clear hcell c0 c1 c2 hch hwq hwr HWF s2;go_wp2
         go_roundw
         case rel=>exact⟨k+1,M - (q.keep+q.drop),by omega,by go_num,by first | rfl | go_num,by omega,by omega,HCH.out,HB0.out⟩
         case measure=>simp[intOf];omega
     . have e:ps.drop k=[]:=List.drop_of_length_le (by rw[←HN.out];omega)
       rw[e,chk2]at hch;have HX:=hdz hwr
       by_cases h0:M=0
       . rw[if_pos h0]at hch
         subst h0;have HCH:=hdz hch;clear e hch hwr;go_wp2;go_ret;refine⟨?_,HX.out⟩;unfold chkE;rw[if_pos H0.out,HCH.out];rfl
       . rw[if_neg h0]at hch
         have hmb:(M==0)=false:=beq_eq_false_iff_ne.2 h0;have HCH:=hdz hch;clear e hch hwr;go_wp2;go_ret;refine⟨?_,HX.out⟩;unfold chkE;rw[if_pos H0.out,HCH.out];rfl
section
variable {p : Pt}
def Jaf (p:Pt):Int:=p.keep+p.drop+p.put.length
def noP:Pt:=⟨0,0,[]⟩
def cutP (p:Pt) (n:Int):Pt×List Pt :=
 if Jaf p=n then (p,[])
 else if 0<p.keep then (⟨n,0,[]⟩,[⟨p.keep - n,p.drop,p.put⟩])
 else if 0<p.drop then (⟨0,n,[]⟩,[⟨p.keep,p.drop - n,p.put⟩])
 else (⟨0,0,p.put.take n.toNat⟩,[⟨p.keep,p.drop,p.put.drop n.toNat⟩])
def Ja7 (la lb:Pt->Bool):Nat->List Pt->List Pt->List (Pt×Pt)
 | 0,_,_=>[]
 | f + 1,p :: a,b=>if la p then (p,noP) :: Ja7 la lb f a b else match b with
  | q :: b=>if lb q then (noP,q) :: Ja7 la lb f (p :: a) b else
   ((cutP p (min (Jaf p) (Jaf q))).1,(cutP q (min (Jaf p) (Jaf q))).1) :: Ja7 la lb f ((cutP p (min (Jaf p) (Jaf q))).2++a) ((cutP q (min (Jaf p) (Jaf q))).2++b)
  | []=>[]
 | f+1,[],q :: b=>if lb q then (noP,q) :: Ja7 la lb f [] b else []
 | f+1,[],[]=>[]
def JaU (p:Pt):Bool:=decide (0<p.drop)
def JbZ (p:Pt):Bool:=decide (0<p.keep)
def Jag (p:Pt):Bool:=decide (p.put≠[])
def JcI (x:Pt×Pt):List Pt:=if JaU x.1 || JbZ x.2 then [x.1] else if Jag x.2 || JbZ x.1 then [x.2] else []
def JbN (x:Pt×Pt):List Pt:=if Jag x.2 then [⟨x.2.put.length,0,[]⟩] else if Jag x.1 || JbZ x.2 then [x.1] else []
def oneP (p:Pt):Prop:=(0<p.keep/\p.drop=0/\p.put=[])\/(p.keep=0/\0<p.drop/\p.put=[])\/(p.keep=0/\p.drop=0/\p.put≠[])
theorem Jbg(h:oneP p):0<Jaf p:=by
 unfold Jaf
 rcases h with ⟨h1,h2,h3⟩|⟨h1,h2,h3⟩|⟨h1,h2,h3⟩
 . rw[h2,h3];simp;omega
 . rw[h1,h3];simp;omega
 . have:=List.length_pos_iff.2 h3;omega
theorem JhH(h:oneP p){n:Int}(h0:0<n)(hn:n<=Jaf p):oneP (cutP p n).1/\Jaf (cutP p n).1=n/\(∀q∈(cutP p n).2,oneP q/\Jaf q=Jaf p - n)/\((cutP p n).2=[]↔Jaf p=n):=by
 unfold cutP
 by_cases e:Jaf p=n
 . rw[if_pos e];exact⟨h,e,by simp,by simp[e]⟩
 . rw [if_neg e]
   obtain⟨K,D,U⟩:=p;have e':¬K+D+(U.length:Int)=n:=e;have hn':n<=K+D+(U.length:Int):=hn;clear e hn
   rcases h with ⟨h1,h2,h3⟩|⟨h1,h2,h3⟩|⟨h1,h2,h3⟩
   . replace h1:0<K:=h1
     obtain rfl:D=0:=h2;obtain rfl:U=[]:=h3;have hl:(([]:List UInt8).length:Int)=0:=rfl;rw[hl]at e' hn';rw[if_pos (show 0<(⟨K,0,[]⟩:Pt).keep from h1)];refine⟨.inl ⟨h0,rfl,rfl⟩,by simp[Jaf],?_,⟨λh=>(by cases h),λh=>absurd h (by simp only[Jaf,List.length_nil];omega)⟩⟩;intro q hq;obtain rfl:=List.mem_singleton.1 hq;exact⟨.inl ⟨by show 0<K - n;omega,rfl,rfl⟩,by simp only[Jaf,List.length_nil];omega⟩
   . obtain rfl:K=0:=h1
     replace h2:0<D:=h2
     obtain rfl:U=[]:=h3;have hl:(([]:List UInt8).length:Int)=0:=rfl;rw[hl]at e' hn';rw[if_neg (show ¬0<(⟨0,D,[]⟩:Pt).keep from Int.lt_irrefl 0),if_pos (show 0<(⟨0,D,[]⟩:Pt).drop from h2)];refine⟨.inr (.inl ⟨rfl,h0,rfl⟩),by simp[Jaf],?_,⟨λh=>(by cases h),λh=>absurd h (by simp only[Jaf,List.length_nil];omega)⟩⟩;intro q hq;obtain rfl:=List.mem_singleton.1 hq;exact⟨.inr (.inl ⟨rfl,by show 0<D - n;omega,rfl⟩),by simp only[Jaf,List.length_nil];omega⟩
   . obtain rfl:K=0:=h1
     obtain rfl:D=0:=h2
     replace h3:U≠[]:=h3
     rw[if_neg (show ¬0<(⟨0,0,U⟩:Pt).keep from Int.lt_irrefl 0),if_neg (show ¬0<(⟨0,0,U⟩:Pt).drop from Int.lt_irrefl 0)];have hl:(U.take n.toNat).length=n.toNat:=by rw[List.length_take];omega
     have hd:(U.drop n.toNat).length=U.length - n.toNat:=List.length_drop;refine⟨.inr (.inr ⟨rfl,rfl,?_⟩),by simp only[Jaf,hl];omega,?_,⟨λh=>(by cases h),λh=>absurd h (by simp only[Jaf];omega)⟩⟩
     . intro e'
       have:=congrArg List.length e';rw[hl,List.length_nil]at this;omega
     . intro q hq
       obtain rfl:=List.mem_singleton.1 hq;refine⟨.inr (.inr ⟨rfl,rfl,?_⟩),by simp only[Jaf,hd];omega⟩;intro e';have:=congrArg List.length e';rw[hd,List.length_nil]at this;omega
end
section
theorem Jg1(d:Bool):∀(n:Nat)(l:List (List UInt8×Bool))(g:GSt),Je8 d n (l++g.1,g.2)=(l++(Je8 d n g).1,(Je8 d n g).2)
 | 0,l,g=>rfl
 | n+1,l,g=>by
  rw[Je8,Je8];have e:tick d (l++g.1,g.2)=(l++(tick d g).1,(tick d g).2):=by simp[tick]
  rw[e];exact Jg1 d n l (tick d g)
theorem JlE(l:List (List UInt8×Bool))(g:GSt)(p:Pt):Jcp (l++g.1,g.2) p=(l++(Jcp g p).1,(Jcp g p).2):=by
 unfold Jcp;rw[Jg1 true p.drop.toNat l (g.1,g.2++p.put),Jg1]
def Jbd:List UInt8->List Pt->GSt
 | acc,[]=>([],acc)
 | acc,p :: ps=>((Jcp ([],acc) p).1++(Jbd (Jcp ([],acc) p).2 ps).1,(Jbd (Jcp ([],acc) p).2 ps).2)
theorem JmM(ps:List Pt):∀(l:List (List UInt8×Bool))(acc:List UInt8),ps.foldl Jcp (l,acc)=(l++(Jbd acc ps).1,(Jbd acc ps).2):=by
 induction ps with
 | nil=>intro l acc;simp[Jbd]
 | cons p ps ih =>
  intro l acc;have e:=JlE l ([],acc) p;rw[List.append_nil]at e;rw[List.foldl_cons,e,ih];simp[Jbd]
theorem Jkw(ps:List Pt):JdJ ps=Jbd [] ps:=by
 have:=JmM ps [] [];simpa[JdJ] using this
theorem Jfu(acc u:List UInt8)(ps:List Pt):Jbd acc (⟨0,0,u⟩ :: ps)=Jbd (acc++u) ps:=by
 simp[Jbd,Jcp,Je8]
theorem JiJ(d:Bool):∀(n:Nat)(acc:List UInt8),Je8 d (n+1) ([],acc)=((acc,d) :: List.replicate n ([],d),[])
 | 0,acc=>by simp[Je8,tick]
 | n+1,acc=>by
  rw[Jko,JiJ d n acc];simp[tick,List.replicate_succ']
theorem Jtv(acc:List UInt8)(n:Nat)(ps:List Pt):Jbd acc (⟨(n:Int)+1,0,[]⟩ :: ps)=((acc,false) :: List.replicate n ([],false)++(Jbd [] ps).1,(Jbd [] ps).2):=by
 have h1:((n:Int)+1).toNat=n+1:=by omega
 have h2:=JiJ false n acc;rw[Je8]at h2;simp only[Jbd,Jcp,h1,Int.toNat_zero,Je8,List.append_nil,h2]
theorem Jtw(acc:List UInt8)(n:Nat)(ps:List Pt):Jbd acc (⟨0,(n:Int)+1,[]⟩ :: ps)=((acc,true) :: List.replicate n ([],true)++(Jbd [] ps).1,(Jbd [] ps).2):=by
 have h1:((n:Int)+1).toNat=n+1:=by omega
 have h2:=JiJ true n acc;rw[Je8]at h2;simp only[Jbd,Jcp,h1,Int.toNat_zero,Je8,List.append_nil,h2]
def docT (first:Bool):List (List UInt8×Bool)->List UInt8->List (List UInt8×Bool)->List UInt8->List Pt
 | (u,d) :: x,xl,(v,e) :: y,yl=>(if first then [⟨0,0,u⟩,⟨v.length,0,[]⟩] else [⟨v.length,0,[]⟩,⟨0,0,u⟩])++(if e then [] else [Joj d])++docT first x xl y yl
 | _,xl,_,yl=>if first then [⟨0,0,xl⟩,⟨yl.length,0,[]⟩] else [⟨yl.length,0,[]⟩,⟨0,0,xl⟩]
def Jan (d:Bool) (k:Nat):Pt:=if d then ⟨0,k,[]⟩ else ⟨k,0,[]⟩
theorem Jbr{p:Pt}(h:oneP p):(∃u,u≠[]/\p=⟨0,0,u⟩)\/∃d n,p=Jan d (n+1):=by
 obtain⟨K,D,U⟩:=p
 rcases h with ⟨h1,h2,h3⟩|⟨h1,h2,h3⟩|⟨h1,h2,h3⟩
 . obtain rfl:D=0:=h2
   obtain rfl:U=[]:=h3
   replace h1:0<K:=h1
   refine .inr ⟨false,K.toNat - 1,?_⟩;have:K=((K.toNat - 1+1:Nat):Int):=by omega
   show(⟨K,0,[]⟩:Pt)=⟨((K.toNat - 1+1:Nat):Int),0,[]⟩;rw[←this]
 . obtain rfl:K=0:=h1
   obtain rfl:U=[]:=h3
   replace h2:0<D:=h2
   refine .inr ⟨true,D.toNat - 1,?_⟩;have:D=((D.toNat - 1+1:Nat):Int):=by omega
   show(⟨0,D,[]⟩:Pt)=⟨0,((D.toNat - 1+1:Nat):Int),[]⟩;rw[←this]
 . obtain rfl:K=0:=h1
   obtain rfl:D=0:=h2;exact .inl ⟨U,h3,rfl⟩
theorem JcK(acc:List UInt8)(d:Bool)(n:Nat)(ps:List Pt):Jbd acc (Jan d (n+1) :: ps)=((acc,d) :: List.replicate n ([],d)++(Jbd [] ps).1,(Jbd [] ps).2):=by
 cases d with
 | true=>exact Jtw acc n ps
 | false=>exact Jtv acc n ps
def accG (acc:List UInt8):GSt->GSt
 | ([],l)=>([],acc++l)
 | ((u,d) :: x,l)=>((acc++u,d) :: x,l)
theorem Jub(a b:List UInt8)(g:GSt):accG a (accG b g)=accG (a++b) g:=by
 obtain⟨x,l⟩:=g
 cases x<;>simp[accG]
theorem Jme(ps:List Pt)(h:∀p∈ps,oneP p):∀acc,Jbd acc ps=accG acc (Jbd [] ps):=by
 induction ps with
 | nil=>intro acc;simp[Jbd,accG]
 | cons p ps ih =>
  intro acc;have ih:=ih λq hq=>h q (by simp[hq])
  rcases Jbr (h p (by simp)) with ⟨u,hu,rfl⟩|⟨d,n,rfl⟩
  . rw[Jfu,Jfu,ih,ih ([]++u),Jub,List.nil_append]
  . rw[JcK,JcK];simp[accG]
def docG (eA eB:List UInt8->NSt->NSt) (eU:Bool->Bool->NSt->NSt):List (List UInt8×Bool)->List UInt8->List (List UInt8×Bool)->List UInt8->NSt->NSt
 | (u,d) :: x,xl,(v,e) :: y,yl,s=>docG eA eB eU x xl y yl (eU d e (eB v (eA u s)))
 | [],xl,_,yl,s=>eB yl (eA xl s)
 | _,xl,[],yl,s=>eB yl (eA xl s)
def docS (eA eB:List UInt8->NSt->NSt) (eU:Bool->Bool->NSt->NSt) (a b:GSt) (s:NSt):NSt:=docG eA eB eU a.1 a.2 b.1 b.2 s
def JgN (eU:NSt->NSt):Nat->NSt->NSt
 | 0,s=>s
 | n+1,s=>JgN eU n (eU s)
theorem Jt6(eA eB:List UInt8->NSt->NSt)(eU:Bool->Bool->NSt->NSt)(hA:∀u v s,eA (u++v) s=eA v (eA u s))(acc:List UInt8)(a b:GSt)(s:NSt)(hl:a.1.length=b.1.length):docS eA eB eU (accG acc a) b s=docS eA eB eU a b (eA acc s):=by
 obtain⟨x,xl⟩:=a;obtain⟨y,yl⟩:=b
 cases x with
 | nil=>cases y<;>simp[docS,accG,docG,hA]
 | cons c x =>
  cases y with
  | nil=>simp at hl
  | cons e y=>simp[docS,accG,docG,hA]
def Jwb (a:GSt):Prop:=match a with
 | ([],l)=>l=[]
 | ((u,_) :: _,_)=>u=[]
theorem JnB(eA eB:List UInt8->NSt->NSt)(eU:Bool->Bool->NSt->NSt)(hA0:∀s,eA [] s=s)(hB:∀u v s,eB (u++v) s=eB v (eB u s))(acc:List UInt8)(a b:GSt)(s:NSt)(hl:a.1.length=b.1.length)(hq:Jwb a):docS eA eB eU a (accG acc b) s=docS eA eB eU a b (eB acc s):=by
 obtain⟨x,xl⟩:=a;obtain⟨y,yl⟩:=b
 cases x with
 | nil =>
  obtain rfl:xl=[]:=hq
  cases y with
  | nil=>simp[docS,accG,docG,hA0,hB]
  | cons e y=>simp at hl
 | cons c x =>
  cases y with
  | nil=>simp at hl
  | cons e y =>
   obtain⟨u,d⟩:=c;obtain rfl:u=[]:=hq;simp[docS,accG,docG,hA0,hB]
theorem JkO(eA eB:List UInt8->NSt->NSt)(eU:Bool->Bool->NSt->NSt)(hA0:∀s,eA [] s=s)(hB0:∀s,eB [] s=s)(d e:Bool):∀(k:Nat)(a b:GSt)(s:NSt),docS eA eB eU (List.replicate k ([],d)++a.1,a.2) (List.replicate k ([],e)++b.1,b.2) s=docS eA eB eU a b (JgN (eU d e) k s)
 | 0,a,b,s=>rfl
 | k+1,a,b,s=>by
  have:=JkO eA eB eU hA0 hB0 d e k a b (eU d e s);simpa[docS,docG,List.replicate_succ,hA0,hB0,JgN] using this
theorem JdR(d:Bool)(n k:Nat)(hk:k<=n):(cutP (Jan d (n+1)) ((k:Int)+1)).1=Jan d (k+1)/\∀ps,Jbd [] (Jan d (n+1) :: ps)=(List.replicate (k+1) ([],d)++(Jbd [] ((cutP (Jan d (n+1)) ((k:Int)+1)).2++ps)).1,(Jbd [] ((cutP (Jan d (n+1)) ((k:Int)+1)).2++ps)).2):=by
 have hl:Jaf (Jan d (n+1))=(n:Int)+1:=by cases d<;>simp[Jaf,Jan]
 by_cases e:n=k
 . subst e
   have hc:cutP (Jan d (n+1)) ((n:Int)+1)=(Jan d (n+1),[]):=by unfold cutP;rw[if_pos hl]
   rw[hc];refine⟨rfl,λps=>?_⟩;rw[JcK];simp[List.replicate_succ]
 . obtain ⟨m,rfl⟩:∃m,n=k+(m+1):=⟨n - k - 1,by omega⟩
   have hc:cutP (Jan d (k+(m+1)+1)) ((k:Int)+1)=(Jan d (k+1),[Jan d (m+1)]):=by
    unfold cutP;rw[if_neg (by rw[hl];omega)]
    cases d with
    | true =>
     have h1:¬0<(Jan true (k+(m+1)+1)).keep:=by simp[Jan]
     have h2:0<(Jan true (k+(m+1)+1)).drop:=by simp[Jan];omega
     rw[if_neg h1,if_pos h2];simp[Jan];omega
    | false =>
     have h1:0<(Jan false (k+(m+1)+1)).keep:=by simp[Jan];omega
     rw[if_pos h1];simp[Jan];omega
   rw[hc];refine⟨rfl,λps=>?_⟩;rw[List.singleton_append,JcK,JcK];have e2:List.replicate (k+(m+1)) (([]:List UInt8),d)=List.replicate k ([],d)++([],d) :: List.replicate m ([],d):=by
    rw[←List.replicate_succ,List.replicate_append_replicate]
   rw[e2];simp[List.replicate_succ]
def runS (t:Pt×Pt->List Pt) (l:List (Pt×Pt)) (s:NSt):NSt:=l.foldl (λs x=>(t x).foldl addP s) s
def Jfo (ps:List Pt):Nat:=(Jbd [] ps).1.length
theorem JqR(d:Bool)(n:Nat)(ps:List Pt):Jwb (Jbd [] (Jan d (n+1) :: ps)):=by
 rw[JcK];rfl
theorem Jck{u:List UInt8}(h:u≠[]):Jag ⟨0,0,u⟩=true:=by simp[Jag,h]
theorem Jbu(d:Bool)(n:Nat):Jag (Jan d n)=false:=by cases d<;>simp[Jag,Jan]
def Jam (ps:List Pt):Nat:=(ps.map λp=>(Jaf p).toNat).sum
theorem Ja5(p:Pt)(ps:List Pt):Jam (p :: ps)=(Jaf p).toNat+Jam ps:=by simp[Jam]
theorem Jbh(a b:List Pt):Jam (a++b)=Jam a+Jam b:=by simp[Jam]
theorem JbJ(d:Bool)(n:Nat):Jaf (Jan d n)=(n:Int):=by cases d<;>simp[Jaf,Jan]
theorem JcD(d:Bool)(n k:Nat)(hk:k<=n):Jam (cutP (Jan d (n+1)) ((k:Int)+1)).2=n - k:=by
 have hl:Jaf (Jan d (n+1))=(n:Int)+1:=by rw[JbJ];simp
 unfold cutP
 by_cases e:n=k
 . subst e
   rw[if_pos hl];simp[Jam]
 . rw [if_neg (by rw[hl];omega)]
   cases d with
   | true =>
    have h1:¬0<(Jan true (n+1)).keep:=by simp[Jan]
    have h2:0<(Jan true (n+1)).drop:=by simp[Jan]
    rw[if_neg h1,if_pos h2];simp[Jam,Jaf,Jan];omega
   | false =>
    have h1:0<(Jan false (n+1)).keep:=by simp[Jan]
    rw[if_pos h1];simp[Jam,Jaf,Jan];omega
theorem JmO(t:Pt×Pt->List Pt)(eA eB:List UInt8->NSt->NSt)(eU:Bool->Bool->NSt->NSt)(hA0:∀s,eA [] s=s)(hB0:∀s,eB [] s=s)
    (hA:∀u v s,eA (u++v) s=eA v (eA u s)) (hB:∀u v s,eB (u++v) s=eB v (eB u s))
    (tA:∀u s,u≠[]->(t (⟨0,0,u⟩,noP)).foldl addP s=eA u s) (tB:∀u s,u≠[]->(t (noP,⟨0,0,u⟩)).foldl addP s=eB u s)
    (tU:∀d e k s,(t (Jan d (k+1),Jan e (k+1))).foldl addP s=JgN (eU d e) (k+1) s) :
    ∀ (f:Nat) (a b:List Pt) (s:NSt),(∀p∈a,oneP p)->(∀p∈b,oneP p)->Jfo a=Jfo b->Jam a+Jam b<=f ->
     runS t (Ja7 Jag Jag f a b) s=docS eA eB eU (Jbd [] a) (Jbd [] b) s:=by
 intro f
 induction f with
 | zero =>
  intro a b s ha hb hl hw
  have h0:∀(l:List Pt),(∀p∈l,oneP p)->Jam l=0->l=[]:=by
   intro l hl hw
   cases l with
   | nil=>rfl
   | cons p l =>
    have:=Jbg (hl p (by simp));rw[Ja5]at hw;omega
  obtain rfl:=h0 a ha (by omega);obtain rfl:=h0 b hb (by omega);simp[Ja7,runS,docS,docG,Jbd,hA0,hB0]
 | succ f ih =>
  intro a b s ha hb hl hw
  cases a with
  | nil =>
   cases b with
   | nil=>simp[Ja7,runS,docS,docG,Jbd,hA0,hB0]
   | cons q b =>
    rcases Jbr (hb q (by simp)) with ⟨v,hv,rfl⟩|⟨e,m,rfl⟩
    . have hlq:=Jbg (hb _ (List.mem_cons_self ..))
      rw[Ja5]at hw;have hb':∀p∈b,oneP p:=λp hp=>hb p (by simp[hp]);unfold Jfo at hl;rw[Jfu,Jme b hb']at hl ⊢;have hl':(Jbd [] ([]:List Pt)).1.length=(Jbd [] b).1.length:=by
       rw[hl];cases h:Jbd [] b with | mk x l=>cases x<;>simp[accG]
      rw[JnB eA eB eU hA0 hB _ _ _ _ hl' rfl];rw[←ih [] b (eB ([]++v) s) (by simp) hb' hl' (by omega)];simp only[Ja7,Jck hv,if_true,runS,List.foldl_cons,tB v s hv,List.nil_append]
    . unfold Jfo at hl
      rw[JcK]at hl;simp[Jbd]at hl
  | cons p a =>
   have hlp:=Jbg (ha p (by simp));have ha':∀p∈a,oneP p:=λp hp=>ha p (by simp[hp])
   rcases Jbr (ha p (by simp)) with ⟨u,hu,rfl⟩|⟨d,n,rfl⟩
   . rw [Ja5]at hw
     unfold Jfo at hl;rw[Jfu,Jme a ha']at hl ⊢;have hl':(Jbd [] a).1.length=(Jbd [] b).1.length:=by
      rw[←hl];cases h:Jbd [] a with | mk x l=>cases x<;>simp[accG]
     rw[Jt6 eA eB eU hA _ _ _ _ hl'];rw[←ih a b (eA ([]++u) s) ha' hb hl' (by omega)];simp only[Ja7,Jck hu,if_true,runS,List.foldl_cons,tA u s hu,List.nil_append]
   . cases b with
     | nil =>
      unfold Jfo at hl;rw[JcK]at hl;simp[Jbd]at hl
     | cons q b =>
      have hb':∀p∈b,oneP p:=λp hp=>hb p (by simp[hp]);have hlq:=Jbg (hb q (by simp))
      rcases Jbr (hb q (by simp)) with ⟨v,hv,rfl⟩|⟨e,m,rfl⟩
      . rw [Ja5 _ b]at hw
        unfold Jfo at hl;rw[Jfu,Jme b hb']at hl ⊢;have hl':(Jbd [] (Jan d (n+1) :: a)).1.length=(Jbd [] b).1.length:=by
         rw[hl];cases h:Jbd [] b with | mk x l=>cases x<;>simp[accG]
        rw[JnB eA eB eU hA0 hB _ _ _ _ hl' (JqR d n a)];rw[←ih (Jan d (n+1) :: a) b (eB ([]++v) s) ha hb' hl' (by omega)];simp only[Ja7,Jbu,Jck hv,if_true,Bool.false_eq_true,if_false,runS,List.foldl_cons,tB v s hv,List.nil_append]
      . obtain ⟨k,hk⟩:∃k,k=min n m:=⟨_,rfl⟩
        have l1:Jaf (Jan d (n+1))=(n:Int)+1:=by cases d<;>simp[Jaf,Jan]
        have l2:Jaf (Jan e (m+1))=(m:Int)+1:=by cases e<;>simp[Jaf,Jan]
        have hmin:min (Jaf (Jan d (n+1))) (Jaf (Jan e (m+1)))=(k:Int)+1:=by rw[l1,l2];omega
        obtain⟨c1,c2⟩:=JdR d n k (by omega);obtain⟨c3,c4⟩:=JdR e m k (by omega);obtain⟨_,_,o1,_⟩:=JhH (ha _ (List.mem_cons_self ..)) (n:=(k:Int)+1) (by omega) (by rw[l1];omega);obtain⟨_,_,o2,_⟩:=JhH (hb _ (List.mem_cons_self ..)) (n:=(k:Int)+1) (by omega) (by rw[l2];omega);have wA:=JcD d n k (by omega);have wB:=JcD e m k (by omega);rw[Ja5,Ja5,JbJ,JbJ]at hw;have gA:=c2 a;have gB:=c4 b;have ho1:∀p∈(cutP (Jan d (n+1)) ((k:Int)+1)).2++a,oneP p:=λp hp=>by
         rcases List.mem_append.1 hp with h|h
         . exact(o1 p h).1
         . exact ha' p h
        have ho2:∀p∈(cutP (Jan e (m+1)) ((k:Int)+1)).2++b,oneP p:=λp hp=>by
         rcases List.mem_append.1 hp with h|h
         . exact(o2 p h).1
         . exact hb' p h
        have hl':Jfo ((cutP (Jan d (n+1)) ((k:Int)+1)).2++a)=Jfo ((cutP (Jan e (m+1)) ((k:Int)+1)).2++b):=by
         unfold Jfo at hl ⊢;rw[gA,gB]at hl;simp only[List.length_append,List.length_replicate]at hl;omega
        rw[gA,gB,JkO eA eB eU hA0 hB0 d e (k+1),←ih _ _ _ ho1 ho2 hl' (by rw[Jbh,Jbh,wA,wB];omega)];simp only[Ja7,Jbu,Bool.false_eq_true,if_false,runS,List.foldl_cons,hmin,c1,c3,tU]
def tPut (u:List UInt8) (s:NSt):NSt:=addP s ⟨0,0,u⟩
def JiM (v:List UInt8) (s:NSt):NSt:=addP s ⟨v.length,0,[]⟩
def JjW (d e:Bool) (s:NSt):NSt:=if e then s else addP s (Joj d)
theorem Jp7(s:NSt):tPut [] s=s:=JjM s
theorem JmK(s:NSt):JiM [] s=s:=JjM s
theorem JmJ(u v:List UInt8)(s:NSt):tPut (u++v) s=tPut v (tPut u s):=(JtZ s u v).symm
theorem Jks(u v:List UInt8)(s:NSt):JiM (u++v) s=JiM v (JiM u s):=by
 unfold JiM
 cases u with
 | nil=>simp[JjM]
 | cons c u =>
  rw[Jlu s ((c :: u).length:Int) (v.length:Int) (by simp) (by omega),List.length_append];simp
theorem Jm9(d:Bool):∀(k:Nat)(s:NSt),JgN (JjW d false) (k+1) s=addP s (Jan d (k+1))
 | 0,s=>by cases d<;>rfl
 | k + 1,s=>by
  have e1:JgN (JjW d false) (k+1+1) s=JgN (JjW d false) (k+1) (JjW d false s):=rfl;rw[e1,Jm9 d k]
  cases d with
  | true =>
   show addP (addP s ⟨0,1,[]⟩) ⟨0,((k+1:Nat):Int),[]⟩=addP s ⟨0,((k+1+1:Nat):Int),[]⟩;rw[JrK]
   congr 2
   omega
  | false =>
   show addP (addP s ⟨1,0,[]⟩) ⟨((k+1:Nat):Int),0,[]⟩=addP s ⟨((k+1+1:Nat):Int),0,[]⟩;rw[Jlu s 1 _ (by omega) (by omega)]
   congr 2
   omega
theorem Jkh(d:Bool):∀(k:Nat)(s:NSt),JgN (JjW d true) k s=s
 | 0,_=>rfl
 | k+1,s=>Jkh d k s
theorem JmC(u:List UInt8)(s:NSt)(h:u≠[]):(JbN (⟨0,0,u⟩,noP)).foldl addP s=tPut u s:=by simp[JbN,Jag,noP,h,tPut]
theorem Jkk(v:List UInt8)(s:NSt)(h:v≠[]):(JbN (noP,⟨0,0,v⟩)).foldl addP s=JiM v s:=by simp[JbN,Jag,h,JiM]
theorem Jkj(d e:Bool)(k:Nat)(s:NSt):(JbN (Jan d (k+1),Jan e (k+1))).foldl addP s=JgN (JjW d e) (k+1) s:=by
 cases e with
 | true =>
  rw[Jkh];have h1:Jag (Jan true (k+1))=false:=Jbu true (k+1);have h2:Jag (Jan d (k+1))=false:=Jbu d (k+1);have h3:JbZ (Jan true (k+1))=false:=by simp[JbZ,Jan]
  simp[JbN,h1,h2,h3]
 | false =>
  rw[Jm9];have h1:Jag (Jan false (k+1))=false:=Jbu false (k+1);have h3:JbZ (Jan false (k+1))=true:=by simp[JbZ,Jan]
  simp[JbN,h1,h3]
theorem Jn7:∀(x:List (List UInt8×Bool))(xl:List UInt8)(y:List (List UInt8×Bool))(yl:List UInt8)(s:NSt),(docT true x xl y yl).foldl addP s=docG tPut JiM JjW x xl y yl s
 | [],xl,[],yl,s=>rfl
 | [],xl,_ :: _,yl,s=>rfl
 | _ :: _,xl,[],yl,s=>rfl
 | (u,d) :: x,xl,(v,e) :: y,yl,s=>by
   rw[docT,docG,List.foldl_append,Jn7 x xl y yl]
   cases e<;>rfl
theorem JkN:∀(x:List (List UInt8×Bool))(xl:List UInt8)(y:List (List UInt8×Bool))(yl:List UInt8)(s:NSt),(docT false x xl y yl).foldl addP s=docG JiM tPut (λe d=>JjW d e) y yl x xl s
 | [],xl,[],yl,s=>rfl
 | [],xl,_ :: _,yl,s=>rfl
 | _ :: _,xl,[],yl,s=>rfl
 | (u,d) :: x,xl,(v,e) :: y,yl,s=>by
   rw[docT,docG,List.foldl_append,JkN x xl y yl]
   cases e<;>rfl
theorem Jq2(f:Nat)(a b:List Pt)(s:NSt)(ha:∀p∈a,oneP p)(hb:∀p∈b,oneP p)(hl:Jfo a=Jfo b)(hw:Jam a+Jam b<=f) :
    runS JbN (Ja7 Jag Jag f a b) s=(docT true (Jbd [] a).1 (Jbd [] a).2 (Jbd [] b).1 (Jbd [] b).2).foldl addP s:=by
 rw[Jn7];exact JmO JbN tPut JiM JjW Jp7 JmK JmJ Jks JmC Jkk Jkj f a b s ha hb hl hw
theorem Jol(f:Nat)(a b:List Pt)(s:NSt)(ha:∀p∈a,oneP p)(hb:∀p∈b,oneP p)(hl:Jfo a=Jfo b)(hw:Jam a+Jam b<=f) :
    runS (λx=>JbN (x.2,x.1)) (Ja7 Jag Jag f b a) s=(docT false (Jbd [] a).1 (Jbd [] a).2 (Jbd [] b).1 (Jbd [] b).2).foldl addP s:=by
 rw[JkN];exact JmO (λx=>JbN (x.2,x.1)) JiM tPut (λe d=>JjW d e) JmK Jp7 Jks JmJ (λv s h=>Jkk v s h) (λu s h=>JmC u s h) (λe d k s=>Jkj d e k s) f b a s hb ha hl.symm (by omega)
variable {s : NSt}
structure OneS (s:NSt):Prop where
 out:∀p∈s.out,oneP p
 drop:0<=s.drop
theorem Jiv(h:OneS s):∀p∈JaG s,oneP p:=by
 intro p hp;unfold JaG at hp
 rcases List.mem_append.1 hp with hp|hp
 . exact h.out p hp
 . rcases List.mem_append.1 hp with hp | hp
   . split at hp
     . simp at hp
     . rename_i hne
       rw[List.mem_singleton.1 hp];exact .inr (.inr ⟨rfl,rfl,hne⟩)
   . split at hp
     . simp at hp
     . rename_i hne
       rw[List.mem_singleton.1 hp];have:=h.drop;exact .inr (.inl ⟨rfl,by show 0<s.drop;omega,rfl⟩)
theorem Ju5{l:List Pt}(h:∀p∈l,oneP p){k:Int}(hk:0<k):∀p∈Jbo l k,oneP p:=by
 intro p hp;unfold Jbo at hp;have hnew:oneP (⟨k,0,[]⟩:Pt):=.inl ⟨hk,rfl,rfl⟩
 cases hq:l.getLast? with
 | none =>
  rw[hq]at hp;simp only[List.mem_append,List.mem_singleton]at hp
  rcases hp with hp|rfl
  . exact h p hp
  . exact hnew
 | some q =>
  rw[hq]at hp;have hql:q∈l:=List.mem_of_getLast? hq;simp only at hp
  split at hp
  . rename_i h0
    simp only[List.mem_append,List.mem_singleton]at hp
    rcases hp with hp|rfl
    . exact h p (List.dropLast_subset l hp)
    . rcases h q hql with ⟨h1,h2,h3⟩|⟨h1,_,_⟩|⟨h1,_,_⟩
      . exact .inl ⟨by show 0<q.keep+k;omega,h2,h3⟩
      . omega
      . omega
  . simp only[List.mem_append,List.mem_singleton]at hp
    rcases hp with hp|rfl
    . exact h p hp
    . exact hnew
theorem Jpw(h:OneS s)(p:Pt)(hk:0<=p.keep)(hd:0<=p.drop):OneS (addP s p):=by
 unfold addP;have h':OneS ⟨s.out,s.put++p.put,s.drop+p.drop⟩:=⟨h.out,by have:=h.drop;show 0<=s.drop+p.drop;omega⟩
 split
 . exact h'
 . rename_i hk0
   exact⟨Ju5 (Jiv h') (by omega),by show(0:Int)<=0;omega⟩
theorem Jvr(ps:List Pt)(h:∀p∈ps,0<=p.keep/\0<=p.drop):∀s,OneS s->OneS (ps.foldl addP s):=by
 induction ps with
 | nil=>exact λs hs=>hs
 | cons p ps ih=>exact λs hs=>ih (λq hq=>h q (by simp[hq])) _ (Jpw hs p (h p (by simp)).1 (h p (by simp)).2)
theorem Jgd(ps:List Pt)(h:∀p∈ps,0<=p.keep/\0<=p.drop):∀p∈Jap ps,oneP p :=
 Jiv (Jvr ps h nst0 ⟨by simp[nst0],by simp[nst0]⟩)
def Jav (ps:List Pt):Int:=(ps.map lenP).sum
def Jgr (s:NSt):Int:=Jav s.out+s.drop
theorem Jc3(a b:List Pt):Jav (a++b)=Jav a+Jav b:=by simp[Jav]
theorem JgK(s:NSt):Jav (JaG s)=Jgr s:=by
 unfold JaG Jgr;rw[Jc3,Jc3]
 by_cases hp:s.put=[]<;>by_cases hd:s.drop=0<;>simp[Jav,lenP,hp,hd]
theorem Js9(l:List Pt)(k:Int):Jav (Jbo l k)=Jav l+k:=by
 unfold Jbo
 cases hq:l.getLast? with
 | none=>simp[Jav,lenP]
 | some q =>
  simp only
  split
  . have e:l=l.dropLast++[q]:=by
      have hne:l≠[]:=by rintro rfl;simp at hq
      have:=List.dropLast_concat_getLast hne;rw[List.getLast?_eq_some_getLast hne]at hq;rw[osi hq]at this;exact this.symm
    conv=>rhs;rw[e]
    rw[Jc3,Jc3];simp[Jav,lenP];omega
  . rw[Jc3];simp[Jav,lenP]
theorem Jgm(s:NSt)(p:Pt):Jgr (addP s p)=Jgr s+lenP p:=by
 unfold addP
 split
 . rename_i h
   simp[Jgr,lenP,h];omega
 . show Jav (Jbo _ _)+0=_
   rw[Js9,JgK];simp[Jgr,lenP];omega
theorem Jny(ps:List Pt):∀s,Jgr (ps.foldl addP s)=Jgr s+Jav ps:=by
 induction ps with
 | nil=>intro s;simp[Jav]
 | cons p ps ih =>
  intro s;rw[List.foldl_cons,ih,Jgm];simp[Jav];omega
theorem Jjn(ps:List Pt):Jav (Jap ps)=Jav ps:=by
 unfold Jap;rw[JgK,Jny];simp[Jgr,nst0,Jav]
theorem Jge(ps:List Pt)(h:∀p∈ps,0<=p.keep/\0<=p.drop):(Jfo ps:Int)=Jav ps:=by
 unfold Jfo
 have key:∀(ps:List Pt),(∀p∈ps,0<=p.keep/\0<=p.drop)->∀acc,((Jbd acc ps).1.length:Int)=Jav ps:=by
  intro ps
  induction ps with
  | nil=>intro _ acc;simp[Jbd,Jav]
  | cons p ps ih =>
   intro h acc;have h1:=Jow ([],acc) p (h p (by simp)).1 (h p (by simp)).2;have h2:=ih (λq hq=>h q (by simp[hq])) (Jcp ([],acc) p).2;simp only[Jbd,List.length_append,Jav,List.map_cons,List.sum_cons]at h2 ⊢
   push_cast
   simp only[List.length_nil]at h1;omega
 exact key ps h []
end
section
attribute [local go_sem] Oper.semAt_some
def pk (a m:Int):Int:=IntKind.u64.wrap a % m
theorem JkZ(w:World)(n:Nat)(hn:w.heap.size=n)(l:List Value)(t:TypeId):∀j u,l[j]?=some u->(w.alloc (Oc l.toArray t)).cell? (((Ad n 0):Addr).add j)=some u:=by
 subst hn;exact Jer w l t
end
end Go.Proofs.YtbkeomcicobohaaGreatDoor
namespace Go.Proofs
open Go.Shelf
def Tryz.laysM316_ren:Go.Shelf.Ren:=⟨λ| 316=>89 | n=>n,λ| 9=>9 | 3=>3 | 4=>4 | 37=>29 | 0=>0 | 127=>61 | 5=>5 | n=>n,λ| n=>n⟩
theorem Tryz.laysM316:Go.Proofs.LaysM.n316 Tryz.prog Tryz.laysM316_ren:={
 mixed:=by kernel_rfl
 f316:=Tryz.func89.trans (congrArg some (by kernel_rfl))
 t0:=Tryz.underlying0
 a0:=Tryz.isAgg0
 z0:=Tryz.sizeOf0
 v0:=Tryz.zeroValue0
 t3:=Tryz.underlying3
 a3:=Tryz.isAgg3
 z3:=Tryz.sizeOf3
 v3:=Tryz.zeroValue3
 t4:=Tryz.underlying4
 a4:=Tryz.isAgg4
 z4:=Tryz.sizeOf4
 v4:=Tryz.zeroValue4
 t9:=Tryz.underlying9
 a9:=Tryz.isAgg9
 z9:=Tryz.sizeOf9
 v9:=Tryz.zeroValue9
 t37:=Tryz.underlying29
 a37:=Tryz.isAgg29
 z37:=Tryz.sizeOf29
 v37:=Tryz.zeroValue29
 t127:=Tryz.underlying61
 a127:=Tryz.isAgg61
 z127:=Tryz.sizeOf61
 v127:=Tryz.zeroValue61
 t5:=Tryz.underlying5
 a5:=Tryz.isAgg5
 z5:=Tryz.sizeOf5
 v5:=Tryz.zeroValue5
 i0:=by kernel_rfl
 i3:=by kernel_rfl
 i4:=by kernel_rfl
 i5:=by kernel_rfl
 i9:=by kernel_rfl
 i37:=by kernel_rfl
 i127:=by kernel_rfl }
open Go.RowKit in
theorem Tryz.stringslite_Clone(s:ByteArray)(w:World)(hlim:s.size<=281474976710656) :
    Calls Tryz.prog 89 #[.string s] w λe w'=>e=.returned (.string s)/\Below w.heap.size w w':=Any.stringslite_Clone Tryz.laysM316 s w hlim
end Go.Proofs
namespace Go.Proofs.YtbkeomcicobohaaGreatDoor
open Go.Proofs.Tryz Go.RowKit Go.Maps
section
attribute [local go_sem] Oper.semAt_some
theorem JlB{l:List Pt}(hl:∀q∈l,0<=lenP q):0<=Jav l:=by
 induction l with
 | nil=>simp[Jav]
 | cons p l ih =>
  have:=hl p (by simp);have:=ih λx hx=>hl x (by simp[hx]);simp only[Jav,List.map_cons,List.sum_cons]at this ⊢;omega
theorem JnN:∀{ps:List Pt}{N:Int},(∀q∈ps,0<=lenP q)->chk2 ps N=0->Jav ps=N
 | [],N,_,h=>by
  unfold chk2 at h
  split at h
  . rename_i e;simp[Jav,e]
  . cases h
 | p :: ps,N,hl,h=>by
  unfold chk2 at h
  split at h
  . cases h
  . have:=JnN (λq hq=>hl q (by simp[hq])) h
    have e:Jav (p :: ps)=lenP p+Jav ps:=by simp[Jav]
    rw[e,this];unfold lenP;omega
theorem Jgk{ps:List Pt}{N:Int}(h:chkE ps N=0):(∀p∈ps,oneB p=true/\(scan p.put).2=true)/\Jav ps=N/\∀q∈ps,0<=lenP q:=by
 unfold chkE at h
 split at h
 . rename_i h1
   have h2:=Jhp h1;have h3:∀q∈ps,0<=lenP q:=λq hq=>by
    have:=(Jej (h2 q hq).1).1;unfold Jce at this;unfold lenP;omega
   exact⟨h2,JnN h3 h,h3⟩
 . rename_i h1;exact absurd h h1
theorem Jfm{q:Pt}(h:oneB q=true):(0<q.keep/\q.drop=0/\q.put=[])\/(q.keep=0/\0<q.drop/\q.put=[])\/(q.keep=0/\q.drop=0/\q.put≠[]):=by
 unfold oneB at h
 split at h
 . rename_i h1;exact .inl ⟨of_decide_eq_true h,h1.1,h1.2⟩
 . split at h
   . rename_i h1 h2;exact .inr (.inl ⟨h2.1,of_decide_eq_true h,h2.2⟩)
   . rename_i h1 h2
     have h3:=of_decide_eq_true h;exact .inr (.inr ⟨h3.1,h3.2,λe=>h1 ⟨h3.2,e⟩⟩)
def JaH (u:Int):Prop:=u=1\/u=2\/u=3
theorem Jrh(u:Int)(hu:¬JaH u)(w:World):Cg 170 #[I6 u] w λe w'=>e=.returned (.bool false)/\w'=w:=by
 have k1:(u==1)=false:=beq_eq_false_iff_ne.2 λe=>hu (.inl e);have k2:(u==2)=false:=beq_eq_false_iff_ne.2 λe=>hu (.inr (.inl e));have k3:(u==3)=false:=beq_eq_false_iff_ne.2 λe=>hu (.inr (.inr e));clear hu
 go_enter func170,ntmps170
 go_wp2;go_ret;exact⟨rfl,rfl⟩
theorem JnX(b:Nat)(u at_:Int)(hu:¬JaH u)(w:World) :
    Cg 117 #[Pd b 0,I6 u,I6 at_] w (Rt w (.tuple #[cntV [],errV 1])):=by
 have cN:=λwx=>Jrh u hu wx;have hb2:Bw w (((w.alloc (Oc #[I6 u] 3)).alloc (Oc #[I6 at_] 3)).alloc (Oc #[I6 0,I6 0,I6 0,I6 0] 78)):=(((brf _ w).alloc (nlr _) _).alloc (by simp) _).alloc (by simp;omega) _;have HB2:=hdz hb2;have hV:errV 1=.iface 25 (I6 1):=rfl;have hC:cntV []=.agg #[I6 0,I6 0,I6 0,I6 0]:=rfl;rw[hV,hC];clear hu hb2 hV hC
 go_enter func117,ntmps117
 go_wp2_with (go_at_call 170;refine(cN _).mono ?_;rintro e w1 ⟨rfl,hw1⟩;obtain rfl:=hw1.symm)
 refine bodyPost_ret (v:=.tuple #[.agg #[I6 0,I6 0,I6 0,I6 0],.iface 25 (I6 1)]) (by simp[results,results117,go_sem]) rfl ⟨rfl,HB2.out⟩
theorem Jl2(b:Nat)(u:Int)(hu:¬JaH u)(w:World) :
    Cg 121 #[Pd b 0,I6 u] w (Rt w (errV 1)):=by
 have cA:Hid _:=JnX b u 0 hu w;have hV:errV 1=.iface 25 (I6 1):=rfl;have hC:cntV []=.agg #[I6 0,I6 0,I6 0,I6 0]:=rfl;rw[hV]at cA ⊢;rw[hC]at cA;clear hu hV hC
 go_enter func121,ntmps121
 go_wp2_with (go_at_call 117;refine Calls.mono cA.out ?_;rintro e w1 ⟨rfl,hb1⟩)
 go_ret;exact⟨rfl,hb1.alloc hb1.size _⟩
end
section
variable {u : Int}
def Jfc (n:Int) (q:Pt):Pt:=if 0<q.keep then ⟨n,0,[]⟩ else if 0<q.drop then ⟨0,n,[]⟩ else ⟨0,0,q.put⟩
def upTo (rs:List Nat) (u a:Int):List Nat:=find (JaY u a) [] rs
def JbL (rs:List Nat) (u a:Int):Bool:=decide (by_ u (upTo rs u a)=a)
def JjV (rs:List Nat) (u v:Int):Int->List Pt->List Pt×Bool
 | _,[]=>([],true)
 | a, q :: qs=>if JbL rs u (a+lenP q) then
     (Jfc (by_ v (upTo rs u (a+lenP q)) - by_ v (upTo rs u a)) q :: (JjV rs u v (a+lenP q) qs).1,(JjV rs u v (a+lenP q) qs).2)
  else ([],false)
theorem C2_one(r:Nat):1<=C2 [r]:=by
 unfold C2 sum2 wide;simp only[List.map_cons,List.map_nil,List.sum_cons,List.sum_nil,Int.add_zero];unfold cH
 split<;>omega
theorem JtM(hu:JaH u)(r:Nat):1<=by_ u [r]:=by
 unfold by_
 rcases hu with rfl|rfl|rfl
 . rw[if_pos rfl,Jcb]
   have:=List.length_pos_iff.2 (Jqc r);have e:encs [r]=enc r:=by simp[encs]
   rw[e];omega
 . rw[if_neg (by decide),if_pos rfl]
   exact C2_one r
 . rw[if_neg (by decide),if_neg (by decide),if_pos rfl]
   show(1:Int)<=((1:Nat):Int);omega
theorem Jmt(hu:JaH u):∀(rs:List Nat)(i j:Nat),i<j->j<=rs.length->by_ u (rs.take i)<by_ u (rs.take j)
 | rs,i,j,h,hj=>by
  have e:rs.take j=rs.take i++(rs.drop i).take (j - i):=by rw[←List.take_add];congr 1;omega
  rw[e,Jb9];have hne:(rs.drop i).take (j - i)≠[]:=λe=>by
   have:=congrArg List.length e;rw[List.length_take,List.length_drop,List.length_nil]at this;omega
  cases hx:(rs.drop i).take (j - i) with
  | nil=>exact absurd hx hne
  | cons r x =>
   have e2:r :: x=[r]++x:=rfl;rw[e2,Jb9];have:=JtM hu r;have:=Jdd u x;omega
theorem JhF(u a:Int):∀(rs pre:List Nat),a<=by_ u (pre++rs)->∃k,k<=rs.length/\find (JaY u a) pre rs=pre++rs.take k/\a<=by_ u (pre++rs.take k)/\∀i,i<k->by_ u (pre++rs.take i)<a
 | [],pre,h=>by
  refine⟨0,nlr _,?_,by simpa using h,λi hi=>absurd hi (Nat.not_lt_zero _)⟩;have:JaY u a pre=true:=decide_eq_true (by simpa using h);unfold find;rw[if_pos this];simp
 | r :: rs,pre,h=>by
  by_cases h0:a<=by_ u pre
  . refine⟨0,Nat.zero_le _,?_,by simpa using h0,λi hi=>absurd hi (Nat.not_lt_zero _)⟩
    have:JaY u a pre=true:=decide_eq_true h0;unfold find;rw[if_pos this];simp
  . obtain ⟨k,k1,k2,k3,k4⟩:=JhF u a rs (pre++[r]) (by simpa using h)
    have e:∀i,pre++(r :: rs).take (i+1)=(pre++[r])++rs.take i:=λi=>by simp
    refine⟨k+1,by simp;omega,?_,by rw[e];exact k3,λi hi=>?_⟩
    . rw[e,←k2]
      have hf:JaY u a pre=false:=decide_eq_false h0
      conv=>lhs;unfold find
      rw[hf,if_neg (by decide),seek]
      conv=>rhs;unfold find
      split
      . rfl
      . simp
    . cases i with
      | zero=>rw[List.take_zero,List.append_nil];omega
      | succ i=>rw[e];exact k4 i (by omega)
theorem Jh4(rs:List Nat)(u a:Int)(h:a<=by_ u rs):∃k,k<=rs.length/\upTo rs u a=rs.take k/\a<=by_ u (rs.take k)/\∀i,i<k->by_ u (rs.take i)<a:=by
 obtain⟨k,h1,h2,h3,h4⟩:=JhF u a rs [] (by simpa using h);exact⟨k,h1,by unfold upTo;simpa using h2,by simpa using h3,λi hi=>by simpa using h4 i hi⟩
theorem JeP(hu:JaH u){rs:List Nat}{a:Int}(h:a<=by_ u rs) :
    (JbL rs u a=true->∃k,k<=rs.length/\upTo rs u a=rs.take k/\by_ u (rs.take k)=a/\∀i,i<k->by_ u (rs.take i)≠a) /\
    (JbL rs u a=false->∀i,i<=rs.length->by_ u (rs.take i)≠a):=by
 obtain⟨k,h1,h2,h3,h4⟩:=Jh4 rs u a h;unfold JbL;rw[h2];refine⟨λe=>⟨k,h1,h2 ▸ rfl,of_decide_eq_true e,λi hi=>by have:=h4 i hi;omega⟩,λe i hi e2=>?_⟩;have hne:by_ u (rs.take k)≠a:=of_decide_eq_false e
 by_cases hik:i<k
 . have:=h4 i hik;omega
 . by_cases hke:k=i
   . subst hke;exact hne e2
   . have:=Jmt hu rs k i (by omega) hi
     omega
theorem Jsc(rs:List Nat)(u:Int):upTo rs u 0=[]:=Jn1 u rs
end
section
attribute [local go_sem] Oper.semAt_some
def turnO (rs:List Nat) (u v:Int) (qs:List Pt):List Pt:=if (JjV rs u v 0 qs).2 then (JjV rs u v 0 qs).1 else []
def turnX (rs:List Nat) (u v:Int) (qs:List Pt):Int:=if (JjV rs u v 0 qs).2 then 0 else 10
end
theorem JaV{w w':World}{v:Value}{ps:List Pt}(h:opAt w v ps)(hb:Bw w w'):opAt w' v ps:=JaJ h hb (nlr _)
theorem Jjs(ps:List Pt): -9223372036854775808<=(JaS ps).1/\(JaS ps).1<9223372036854775808:=by
 unfold JaS
 rcases List.eq_nil_or_concat ps with rfl|⟨l,p,rfl⟩
 . simp
 . rw[List.concat_eq_append,List.foldl_append]
   show -9223372036854775808<=IntKind.i64.wrap _/\IntKind.i64.wrap _<_;rw[IntKind.wrap_i64];omega
section
attribute [local go_sem] Oper.semAt_some
def Jcw (a b:List Pt):Int:=if chkE a (JaS a).1=0 then chkE b (JaS b).1 else chkE a (JaS a).1
theorem JdB(p:Pt)(w:World):Cg 209 #[JaX p] w (Rt w (.bool (decide (p.put≠[])))):=by
 obtain⟨K,D,U⟩:=p;have hz:(ByteArray.mk U.toArray).size=U.length:=by simp[ByteArray.size]
 unfold JaX
 go_enter func209,ntmps209
 go_wp2;go_ret;exact⟨by cases U<;>simp,zA _ _⟩
theorem JdT(p:Pt)(w:World)(h0:0<=p.keep/\0<=p.drop)(h1:p.keep+p.drop+p.put.length<4611686018427387904):Cg 250 #[JaX p] w (Rt w (I6 (p.keep+p.drop+p.put.length))):=by
 obtain⟨K,D,U⟩:=p;simp only at h0 h1;obtain⟨h2,h3⟩:=h0;have hz:(ByteArray.mk U.toArray).size=U.length:=by simp[ByteArray.size]
 unfold JaX
 go_enter func250,ntmps250
 go_wp2;go_ret;exact⟨rfl,zA _ _⟩
theorem Jcj(v1 v2:Value)(a b:List Pt)(w:World)(hT:Lib.Utf8Tabs 3 4 w)(h1:opAt w v1 a)(h2:opAt w v2 b)(w1:∀p∈a,wfP p)(w2:∀p∈b,wfP p)(l1:a.length<10000000)(l2:b.length<10000000) :
    Cg 204 #[v1,v2] w (Rt w (errV (Jcw a b))):=by
 have cL1:=hdz λwx (hb:Bw w wx)=>Jct v1 a wx (JaV h1 hb) l1;have cL2:=hdz λwx (hb:Bw w wx)=>Jct v2 b wx (JaV h2 hb) l2;have cC1:=hdz λwx (hb:Bw w wx)=>Jdl v1 a _ wx (Go.Proofs.Utf8Tabs_below hT hb) (JaV h1 hb) w1 (Jjs a) l1;have cC2:=hdz λwx (hb:Bw w wx)=>Jdl v2 b _ wx (Go.Proofs.Utf8Tabs_below hT hb) (JaV h2 hb) w2 (Jjs b) l2;obtain⟨R,hR⟩:∃R,R=Jcw a b:=⟨_,rfl⟩;rw[←hR];unfold Jcw at hR;generalize chkE a (JaS a).1=E1 at cC1 hR;generalize chkE b (JaS b).1=E2 at cC2 hR;generalize (JaS a).1=A1 at cL1 cC1;generalize (JaS a).2=A2 at cL1;generalize (JaS b).1=B1 at cL2 cC2;generalize (JaS b).2=B2 at cL2;obtain⟨p1,c1,rfl,_⟩:=h1;obtain⟨p2,c2,rfl,_⟩:=h2;clear hT w1 w2
 by_cases he:E1=0
 . rw [if_pos he]at hR
   have hV:errV E1=.nilIface:=by unfold errV;rw[if_pos he]
   rw[hV]at cC1;obtain⟨V,hV2⟩:∃V,errV R=V:=⟨_,rfl⟩;rw[←hR,hV2]at cC2;rw[hV2];clear hV hV2 hR he
   go_enter func204,ntmps204
   go_wp2_with (first
    | (have _:=hB3;go_at_call 137;refine(cC2.out _ hB3.out).mono ?_;rintro e w4 ⟨rfl,hb4⟩;have hB4:=hdz (hB3.out.trans (hb4.mono hB3.out.size)))
    | (have _:=hB2;go_at_call 100;refine(cL2.out _ hB2.out).mono ?_;rintro e w3 ⟨rfl,hb3⟩;have hB3:=hdz (hB2.out.trans (hb3.mono hB2.out.size)))
    | (have _:=hB1;go_at_call 137;refine(cC1.out _ hB1.out).mono ?_;rintro e w2 ⟨rfl,hb2⟩;have hB2:=hdz (hB1.out.trans (hb2.mono hB1.out.size)))
    | (go_at_call 100;refine(cL1.out _ (brf _ _)).mono ?_;rintro e w1 ⟨rfl,hb1⟩;have hB1:=hdz hb1))
   go_ret;exact⟨rfl,hB4.out⟩
 . rw [if_neg he]at hR
   have hV:errV E1=.iface 25 (I6 E1):=by unfold errV;rw[if_neg he]
   rw[hV]at cC1;have hV2:errV R=.iface 25 (I6 E1):=by rw[hR];exact hV
   rw[hV2];clear hV hV2 hR he cC2 cL2
   go_enter func204,ntmps204
   go_wp2_with (first
    | (have _:=hB1;go_at_call 137;refine(cC1.out _ hB1.out).mono ?_;rintro e w2 ⟨rfl,hb2⟩;have hB2:=hdz (hB1.out.trans (hb2.mono hB1.out.size)))
    | (go_at_call 100;refine(cL1.out _ (brf _ _)).mono ?_;rintro e w1 ⟨rfl,hb1⟩;have hB1:=hdz hb1))
   go_ret;exact⟨rfl,hB2.out⟩
theorem JpK(p:Option Addr)(n c:Nat)(s:ByteArray)(w:World):Cg 158 #[.slice p n c,.string s] w λe w'=>e=.returned (.func (.func 203) #[] #[.pointer (some (Ad (w.heap.size+1) 0)),Pd w.heap.size 0])/\w'=(w.alloc (Oc #[.slice p n c] 94)).alloc (Oc #[.string s] 9):=by
 go_enter func158,ntmps158
 go_wp2;go_ret;exact⟨rfl,rfl⟩
def pcs:List Pt->List UInt8->List (Pt×List UInt8)
 | [],_=>[]
 | p :: ps,s=>(p,s.take (lenP p).toNat) :: pcs ps (s.drop (lenP p).toNat)
def JfF:List Pt->List UInt8->List UInt8
 | [],s=>s
 | p :: ps,s=>JfF ps (s.drop (lenP p).toNat)
theorem Jrg(ps:List Pt)(p:Pt)(s:List UInt8):JfF (ps++[p]) s=(JfF ps s).drop (lenP p).toNat:=by
 induction ps generalizing s with
 | nil=>rfl
 | cons q ps ih=>exact ih _
theorem Jk3(a b:List Pt)(s:List UInt8):pcs (a++b) s=pcs a s++pcs b (JfF a s):=by
 induction a generalizing s with
 | nil=>rfl
 | cons q a ih=>simp[pcs,JfF,ih]
def Jpc:List Pt->List UInt8->Prop
 | [],_=>True
 | p :: ps,s=>0<=p.keep/\0<=p.drop/\lenP p<=s.length/\Jpc ps (s.drop (lenP p).toNat)
theorem Jvt(ps:List Pt)(s:List UInt8)(h:Jpc ps s)(k:Nat)(hk:k<ps.length):0<=ps[k].keep/\0<=ps[k].drop/\lenP ps[k]<=(JfF (ps.take k) s).length:=by
 induction ps generalizing s k with
 | nil=>simp at hk
 | cons p ps ih =>
  obtain⟨h1,h2,h3,h4⟩:=h
  cases k with
  | zero=>exact⟨h1,h2,h3⟩
  | succ k=>exact ih _ h4 k (by simpa using hk)
theorem JuY(ps:List Pt)(s:List UInt8):(JfF ps s).length<=s.length:=by
 induction ps generalizing s with
 | nil=>exact nlr _
 | cons p ps ih =>
  have:=ih (s.drop (lenP p).toNat);rw[List.length_drop]at this;show(JfF ps _).length<=_;omega
theorem Jho(l:List UInt8)(n:Nat):(ByteArray.mk l.toArray).extract 0 n=⟨(l.take n).toArray⟩:=by
 apply ByteArray.ext;simp
theorem Jhn(l:List UInt8)(n:Nat):(ByteArray.mk l.toArray).extract n l.length=⟨(l.drop n).toArray⟩:=by
 apply ByteArray.ext;have:List.take (l.length - n) (l.drop n)=l.drop n:=List.take_of_length_le (by rw[List.length_drop];exact nlr _);simp[this]
theorem JpJ(v:Value)(ps:List Pt)(s:List UInt8)(hs:s.length<1000000000)(hl:ps.length<10000000)(hf:Jpc ps s)(R:Nat->Prop)(sb:Nat)(W:World)
    (h0:W.cell? (Ad sb 0)=some v) (h1:W.cell? (Ad (sb+1) 0)=some (Sx s)) (hop:opAt W v ps) (hR0:R sb) (hR1:R (sb+1)) (hRv:∀b o n c,v=.slice (some (Ad b o)) n c->ps≠[]->R b) (hRl:∀x,R x->x<W.heap.size) (Z:World->Prop) :
    Jlv prog 203 #[.pointer (some (Ad (sb+1) 0)),Pd sb 0] (λ_ (x:Pt×List UInt8)=>#[JaX x.1,Sx x.2]) (λA B=>Bw A B/\W.heap.size<=A.heap.size) (λA B=>A.heap.size<=B.heap.size/\∀x,R x->B.heap[x]?=A.heap[x]?) Z
     (λxs=>xs=pcs ps s) (λpre=>∃rest,pcs ps s=pre++rest) W:=by
 intro l J Jx hZ hZx hJ hJx hR hj0;have hlt0:=blt W _ h0;have hlt1:=blt W _ h1;obtain⟨p,c,rfl,r1,r2,r3⟩:=hop;obtain⟨n,hn⟩:∃n,n=ps.length:=⟨_,rfl⟩;rw[←hn]at r1 hl h0 hRv;have HN:=hdz hn
 have R3:Hid (ps≠[]->∃b o,p=some (Ad b o)/\b<W.heap.size/\∀i q,ps[i]?=some q ->
  W.cell? (Ad b (o+i*3))=some (I6 q.keep)/\W.cell? (Ad b (o+i*3+1))=some (I6 q.drop)/\W.cell? (Ad b (o+i*3+2))=some (Sx q.put)):=r3
 have HF:=hdz hf;have HSL:=hdz hs;have HRV:Hid (∀b o,p=some (Ad b o)->ps≠[]->R b):=λb o e=>hRv b o n c (by rw[e]);have HRL:=hdz hRl;clear r3 hf hn hs hRv hRl;refine callsIn_of_wp func203 rfl trivial ?_ rfl;simp only[ntmps203,List.size_toArray,List.length_cons,List.length_nil,Nat.reduceAdd,Nat.reduceSub,Array.replicate_succ,Array.replicate_zero,List.push_toArray,List.append_toArray,List.nil_append,List.cons_append]
 gi_wp2
 gi_loopw [4,11] (λrest i wr=>∃(k:Nat),k<=n/\i=I6 k/\rest=Sx (JfF (ps.take k) s)/\W.heap.size<=wr.heap.size/\(∀x,R x->wr.heap[x]?=W.heap[x]?)/\J (pcs (ps.take k) s) wr) (λ_ i _=>n - (intOf i).toNat)
 case atStart=>exact⟨0,Nat.zero_le _,rfl,rfl,nlr _,λ_ _=>rfl,hj0⟩
 case round =>
  obtain⟨k,hk,rfl,rfl,hsz,hkeep,hjp⟩:=hrel
  by_cases hlt:k<n
  . have hkr : k<ps.length:=by rw[←HN.out];exact hlt
    have hne:ps≠[]:=by intro e;rw[e]at hkr;exact absurd hkr (Nat.not_lt_zero _)
    obtain⟨b,o,rfl,hbw,hcell⟩:=R3.out hne;obtain⟨c0,c1,c2⟩:=hcell k ps[k] (lgg hkr);have hkb:=hkeep b (HRV.out b o rfl hne);have g0:=(World.cell?_of_block (w:=W) (w':=wr) (a:=(Ad b (o+k*3))) hkb).trans c0;have g1:=(World.cell?_of_block (w:=W) (w':=wr) (a:=(Ad b (o+k*3+1))) hkb).trans c1;have g2:=(World.cell?_of_block (w:=W) (w':=wr) (a:=(Ad b (o+k*3+2))) hkb).trans c2;obtain⟨f1,f2,f3⟩:=Jvt ps s HF.out k hkr;have hll:=JuY (ps.take k) s;have hs9:=HSL.out;have hts:ps.take (k+1)=ps.take k++[ps[k]]:=List.take_succ_eq_append_getElem hkr;have hpn:pcs (ps.take (k+1)) s=pcs (ps.take k) s++[(ps[k],(JfF (ps.take k) s).take (lenP ps[k]).toNat)]:=by rw[hts,Jk3];rfl
    have hln:JfF (ps.take (k+1)) s=(JfF (ps.take k) s).drop (lenP ps[k]).toNat:=by rw[hts,Jrg]
    have hSp:∃rest,pcs ps s=(pcs (ps.take k) s++[(ps[k],(JfF (ps.take k) s).take (lenP ps[k]).toNat)])++rest:=by
     rw[←hpn];refine⟨pcs (ps.drop (k+1)) (JfF (ps.take (k+1)) s),?_⟩;rw[←Jk3,List.take_append_drop]
    generalize ps[k]=q at *;generalize JfF (ps.take k) s=T at *;obtain⟨K,D,U⟩:=q;have hlen:lenP ⟨K,D,U⟩=K+D:=rfl;rw[hlen]at f3 hpn hln hSp;simp only at f1 f2 g0 g1 g2;obtain⟨m,hm⟩:∃m:Nat,K+D=m:=⟨(K+D).toNat,by omega⟩;have hm':(K+D).toNat=m:=by omega
    rw[hm']at hpn hln hSp;rw[hm]at f3;have hwm:IntKind.i64.wrap (K+D)=(m:Int):=by rw[IntKind.wrap_i64];omega
    have hmT:m<=T.length:=by omega
    have hmi:(m:Int)<=(T.length:Int):=by omega
    have hm0:(0:Int)<=(m:Int):=by omega
    have e1:=Jho T m;have e2:=Jhn T m;have HJP:=hdz hjp;have HSP:=hdz hSp;have HPN:=hdz hpn;have HLN:=hdz hln;have HKEEP:=hdz hkeep;clear hcell c0 c1 c2 hts hpn hln hSp hjp hlen hkb hkeep hm' f3 hll hs9 hm;have hbA:Bw wr (wr.alloc (Oc #[I6 K,I6 D,Sx U] 96)).drew:=(zA _ _).drew;obtain⟨fn,tmps,assign,body,hyy,hRd⟩:=hR (pcs (ps.take k) s) (⟨K,D,U⟩,T.take m) _ (hJ _ _ _ HJP.out ⟨hbA,hsz⟩) HSP.out;unfold JaX at hyy
    gi_wp2
    have hRd2:=hRd.mono (λe A' HH=>(⟨HH,by rcases HH with ⟨rfl,_⟩|⟨rfl,_⟩;exact⟨true,rfl⟩;exact⟨false,rfl⟩⟩:_/\∃bb:Bool,e=.returned (.bool bb)))
    gi_region_with (refine⟨rfl,hRd2.mono ?_⟩;rintro e A' ⟨HH,bb,rfl⟩)
    all_goals
     have hcase:(bb=true/\J (pcs (ps.take k) s++[(⟨K,D,U⟩,T.take m)]) A'/\wr.heap.size<=A'.heap.size/\∀x,R x->A'.heap[x]?=wr.heap[x]?)\/(bb=false/\Jx (pcs (ps.take k) s++[(⟨K,D,U⟩,T.take m)]) A'):=by
      rcases HH with ⟨e1,e2,e3,e4⟩|⟨e1,e2,_⟩
      . simp only[Ending.returned.injEq,Value.bool.injEq]at e1
        refine .inl ⟨e1,e2,Nat.le_trans hbA.size e3,λx hx=>(e4 x hx).trans ?_⟩;have hxl:x<wr.heap.size:=by
         rcases Nat.lt_or_ge x wr.heap.size with h|h
         . exact h
         . exact absurd (HRL.out x hx) (by have:=hsz;omega)
        exact hbA.block x hxl
      . simp only[Ending.returned.injEq,Value.bool.injEq]at e1
        exact .inr ⟨e1,e2⟩
     clear HH hRd hRd2 hyy
     rcases hcase with ⟨rfl,hj2,hs2,hk2⟩|⟨rfl,hjx⟩
     . have HJ2:Hid (J (pcs (ps.take (k+1)) s) A'):=by show J _ _;rw[HPN.out];exact hj2
       have HK2:Hid (∀x,R x->A'.heap[x]?=W.heap[x]?):=λx hx=>(hk2 x hx).trans (HKEEP.out x hx);have hs3:W.heap.size<=A'.heap.size:=Nat.le_trans hsz hs2;clear hj2 hk2 g0 g1 g2 hbA
       gi_wp2
       go_roundw
       case rel=>exact⟨k+1,by omega,by go_num,by rw[HLN.out],hs3,HK2.out,HJ2.out⟩
       case measure=>simp[intOf];omega
     . have HJX:=hdz hjx
       clear hjx g0 g1 g2 hbA
       gi_wp2
       refine bodyPost_ret (results_none rfl _ _ _) rfl ?_;exact⟨⟨_,rfl⟩,.inr ⟨_,HSP.out,HJX.out⟩⟩
  . have e:ps.take k=ps:=List.take_of_length_le (by rw[←HN.out];omega)
    rw[e]at hjp;have HJ:=hdz hjp;clear e hjp R3 HF
    gi_wp2
    go_end0;exact⟨⟨_,rfl⟩,.inl ⟨_,rfl,HJ.out⟩⟩
variable {ps : List Pt}{s : List UInt8}
def Jku (b:UInt8):Bool:=Lib.runeStart (b.toNat:Int)
def JcQ (l:List UInt8):Bool:=match l with
 | []=>false
 | b :: _=>!Jku b
def badO:List Pt->List UInt8->Bool
 | [],_=>false
 | p :: ps,s=>JcQ (s.take (lenP p).toNat) || badO ps (s.drop (lenP p).toNat)
theorem JvG(ps:List Pt)(s:List UInt8):badO ps s=(pcs ps s).any λx=>JcQ x.2:=by
 induction ps generalizing s with
 | nil=>rfl
 | cons p ps ih=>simp[badO,pcs,ih]
theorem chkE_ok{n:Int}(h:chkE ps n=0):∀p∈ps,Jce p:=by
 unfold chkE at h
 split at h
 . rename_i h1
   exact λp hp=>(Jej (Jhp h1 p hp).1).1
 . rename_i h1
   exact absurd h h1
theorem JtJ(hs:∀p∈ps,Jce p)(h:chk2 ps (s.length:Int)=0):Jpc ps s/\JfF ps s=[]:=by
 induction ps generalizing s with
 | nil =>
  unfold chk2 at h;refine⟨trivial,?_⟩
  split at h
  . exact List.eq_nil_of_length_eq_zero (by show s.length=0;omega)
  . cases h
 | cons p ps ih =>
  unfold chk2 at h;have hp:=hs p (List.mem_cons_self ..);obtain⟨h1,h2⟩:=hp
  split at h
  . cases h
  . rename_i h3
    have hl:lenP p=p.keep+p.drop:=rfl;have e:((s.drop (lenP p).toNat).length:Int)=(s.length:Int) - (p.keep+p.drop):=by rw[List.length_drop];omega
    rw[←e]at h;obtain⟨i1,i2⟩:=ih (λq hq=>hs q (List.mem_cons_of_mem _ hq)) h;exact⟨⟨h1,h2,by omega,i1⟩,i2⟩
theorem JnM(h:chkE ps (s.length:Int)=0):Jpc ps s/\JfF ps s=[]:=by
 have hs:=chkE_ok h;unfold chkE at h
 split at h
 . exact JtJ hs h
 . rename_i h1;exact absurd h h1
def ordE (ps:List Pt) (s:List UInt8):Int:=if chkE ps (s.length:Int)=0 then (if badO ps s then 10 else 0) else chkE ps (s.length:Int)
theorem Jmo(v:Value)(ps:List Pt)(s:List UInt8)(w:World)(hT:Lib.Utf8Tabs 3 4 w)(hr:opAt w v ps)(hwf:∀p∈ps,wfP p)(hs:s.length<1000000000)(hl:ps.length<10000000)(he:chkE ps (s.length:Int)≠0) :
    Cg 157 #[v,Sx s] w (Rt w (errV (ordE ps s))):=by
 have cC:Hid (∀wx,Bw w wx->Cg 137 #[v,I6 (s.length:Int)] wx (Rt wx (errV (chkE ps (s.length:Int))))):=λwx hb=>Jdl v ps _ wx (Go.Proofs.Utf8Tabs_below hT hb) (JaJ hr hb (nlr _)) hwf (by omega) hl;unfold ordE;rw[if_neg he];have hV:errV (chkE ps (s.length:Int))=.iface 25 (I6 (chkE ps (s.length:Int))):=by unfold errV;rw[if_neg he]
 rw[hV]at cC ⊢;generalize chkE ps (s.length:Int)=E at *;obtain⟨p,c,rfl,_⟩:=hr;clear hT hwf hV
 go_enter func157,ntmps157
 go_wp2_with (go_at_call 137;refine(cC.out _ (zA _ _)).mono ?_;rintro e w1 ⟨rfl,hb1⟩;have c0:w1.cell? (Ad w.heap.size 0)=some .nilIface:=(zC hb1 w.heap.size 0 (by simp)).trans (by simp[go_sem]);have c1:w1.frozen? (Ad w.heap.size 0)=false:=(hb1.frozen (p:=(Ad w.heap.size 0)) (by simp)).trans (by simp[go_sem]))
 refine bodyPost_ret (v:=.iface 25 (I6 E)) (by simp[results,results157,go_sem,c0]) rfl ?_;exact⟨rfl,((zA _ _).trans (hb1.mono (by simp))).setCell (p:=(Ad w.heap.size 0)) (nlr _) _⟩
theorem Jkc(v:Value)(ps:List Pt)(s:List UInt8)(w:World)(hT:Lib.Utf8Tabs 3 4 w)(hr:opAt w v ps)(hwf:∀p∈ps,wfP p)(hs:s.length<1000000000)(hl:ps.length<10000000)(he:chkE ps (s.length:Int)=0) :
    Cg 157 #[v,Sx s] w (Rt w (errV (ordE ps s))):=by
 have cC:Hid (∀wx,Bw w wx->Cg 137 #[v,I6 (s.length:Int)] wx (Rt wx (errV (chkE ps (s.length:Int))))):=λwx hb=>Jdl v ps _ wx (Go.Proofs.Utf8Tabs_below hT hb) (JaJ hr hb (nlr _)) hwf (by omega) hl;obtain⟨hfit,hleft⟩:=JnM he;unfold ordE;rw[if_pos he];have hV:errV (chkE ps (s.length:Int))=.nilIface:=by unfold errV;rw[if_pos he]
 rw[hV]at cC;have HF:=hdz hfit;have HR:=hdz hr;have HSL:=hdz hs;have HLP:=hdz hl;have HBO:=hdz (JvG ps s);obtain⟨BB,hBB⟩:∃BB,badO ps s=BB:=⟨_,rfl⟩;have HBB:=hdz hBB;rw[hBB];obtain⟨V,hV0⟩:∃V,errV (if BB=true then 10 else 0)=V:=⟨_,rfl⟩;have HV:=hdz hV0;rw[hV0];clear hV0;have hrow:∀x o n c,v=.slice (some (Ad x o)) n c->ps≠[]->x<w.heap.size:=by
  intro x o n c e hne;obtain⟨p,c',rfl,_,_,h3⟩:=hr;obtain⟨b,o',e1,e2,_⟩:=h3 hne;simp only[Value.slice.injEq]at e;rw[e.1]at e1;simp only[Option.some.injEq,Addr.mk.injEq]at e1;rw[e1.1];exact e2
 have HROW:=hdz hrow;obtain⟨p,c,rfl,_⟩:=hr;clear hT hwf hV hfit hleft hrow he hBB;have cO:=λ(wx:World)=>JpK p ps.length c ⟨s.toArray⟩ wx;refine(callsIn_wide (n:=3)).1 ?_;refine callsIn_of_wp_marks func157 rfl trivial ?_ rfl;simp only[ntmps157,List.size_toArray,List.length_cons,List.length_nil,Nat.reduceAdd,Nat.reduceSub,Array.replicate_succ,Array.replicate_zero,List.push_toArray,List.append_toArray,List.nil_append,List.cons_append]
 gi_wp2_with (first
  | (refine⟨trivial,?_⟩;gi_at_call 137;refine(callsIn_wide.2 (cC.out _ (zA _ _))).mono ?_;rintro e w1 ⟨rfl,hb1⟩;have c0:w1.cell? (Ad w.heap.size 0)=some .nilIface:=(zC hb1 w.heap.size 0 (by simp)).trans (by simp[go_sem]);have c1:w1.frozen? (Ad w.heap.size 0)=false:=(hb1.frozen (p:=(Ad w.heap.size 0)) (by simp)).trans (by simp[go_sem]))
  | (refine⟨trivial,?_⟩;gi_at_call 158;refine(callsIn_wide.2 (cO _)).mono ?_;rintro e w13 ⟨rfl,rfl⟩))
 have hb0:Bw w w1:=(zA _ _).trans (hb1.mono (by simp));have hlt1:w.heap.size<w1.heap.size:=blt w1 _ c0;obtain⟨sb,hsb⟩:∃sb,w1.heap.size=sb:=⟨_,rfl⟩;obtain⟨W4,hW4⟩:∃W4,W4=(w1.alloc (Oc #[.slice p ps.length c] 94)).alloc (Oc #[Sx s] 9):=⟨_,rfl⟩;have hb4:Bw w W4:=by rw[hW4];exact(hb0.alloc hb0.size _).alloc (by simp;omega) _
 have hs4:W4.heap.size=sb+2:=by rw[hW4,←hsb];simp
 have k0:W4.cell? (Ad sb 0)=some (.slice p ps.length c):=by rw[hW4,←hsb];simp[go_sem]
 have k1:W4.cell? (Ad (sb+1) 0)=some (Sx s):=by rw[hW4,←hsb];simp[go_sem]
 have c0':W4.cell? (Ad w.heap.size 0)=some .nilIface:=by
  have hB:Bw w1 W4:=by rw[hW4];exact(zA _ _).alloc (by simp) _
  exact(zC hB w.heap.size 0 hlt1).trans c0
 have c1':W4.frozen? (Ad w.heap.size 0)=false:=by
  have hB:Bw w1 W4:=by rw[hW4];exact(zA _ _).alloc (by simp) _
  exact(hB.frozen (p:=(Ad w.heap.size 0)) hlt1).trans c1
 rw[←hW4,hsb];rw[hsb]at hlt1;clear hW4 cC cO c0 c1 hb0 hb1 hsb
 refine Jey (gf:=203) (lb:=#[.pointer (some (Ad (sb+1) 0)),Pd sb 0]) rfl (enters_of func203 (by kernel_rfl) rfl) (encs:=λ_ (x:Pt×List UInt8)=>#[JaX x.1,Sx x.2]) (λ_ _=>rfl)
  (It:=λA B=>Bw A B/\sb+4<=A.heap.size) (Kp:=λA B=>A.heap.size<=B.heap.size/\∀x,(x=sb\/x=sb+1\/x<w.heap.size)->B.heap[x]?=A.heap[x]?) (Z:=λ_=>True) (S:=λxs=>xs=pcs ps s) (Sp:=λpre=>∃rest,pcs ps s=pre++rest)
  ?seq ?its (λh k=>⟨Nat.le_trans h.1 k.1,λx hx=>(k.2 x hx).trans (h.2 x hx)⟩) ?hkb
  (λpre W=>Bw w W/\sb+4<=W.heap.size/\W.cell? (Ad w.heap.size 0)=some .nilIface/\W.frozen? (Ad w.heap.size 0)=false/\(pre.any λx=>JcQ x.2)=false)
  (λk pre W=>k=.ret/\Bw w W/\sb+4<=W.heap.size/\W.cell? (Ad w.heap.size 0)=some (.iface 25 (I6 10))/\(pre.any λx=>JcQ x.2)=true) (λ_ _ _=>trivial) (λ_ _ _ _=>trivial) ?ii ?ib ?ix ?ixb ?h0 ?round ?done ?stop
 case seq =>
  intro W hs1 hb1;rw[hs4]at hs1 hb1;have hb9:Bw w W:=hb4.trans (hb1.mono (by omega));have:=JpJ (.slice p ps.length c) ps s HSL.out HLP.out HF.out (λx=>(x=sb\/x=sb+1\/x<w.heap.size)) sb W ((zC hb1 sb 0 (by show sb<_;omega)).trans k0) ((zC hb1 (sb+1) 0 (by show sb+1<_;omega)).trans k1) (JaJ HR.out hb9 (nlr _)) (.inl rfl) (.inr (.inl rfl)) (λb o n c' e hne=>.inr (.inr (HROW.out b o n c' e hne))) (by rintro x (rfl|rfl|hx)<;>omega) (λ_=>True);rw[hs1]at this;exact this
 case its=>exact λA B h=>Same2.of_below h.1 (by rw[hs4];omega)
 case hkb =>
  intro A r;rw[hs4];exact⟨by simp,λx hx=>World.putObj_heap_other (by omega)⟩
 case ii =>
  rintro pre A B ⟨h1,h2,h3,h4,h5⟩ ⟨hb,hA⟩;exact⟨h1.trans (hb.mono h1.size),Nat.le_trans h2 hb.size,(zC hb w.heap.size 0 (by show w.heap.size<_;omega)).trans h3,(hb.frozen (p:=(Ad w.heap.size 0)) (by show w.heap.size<_;omega)).trans h4,h5⟩
 case ib =>
  rintro pre A r ⟨h1,h2,h3,h4,h5⟩;rw[hs4];have hp:=Put1.putObj (sb+2+1) A (.loop r);exact⟨h1.trans (hp.below (by omega)),by rw[hp.size];exact h2,(hp.cell (by omega)).trans h3,(hp.frozen (by omega)).trans h4,h5⟩
 case ix =>
  rintro k pre A B ⟨h0,h1,h2,h3,h5⟩ ⟨hb,hA⟩;exact⟨h0,h1.trans (hb.mono h1.size),Nat.le_trans h2 hb.size,(zC hb w.heap.size 0 (by show w.heap.size<_;omega)).trans h3,h5⟩
 case ixb =>
  rintro k pre A r ⟨h0,h1,h2,h3,h5⟩;rw[hs4];have hp:=Put1.putObj (sb+2+1) A (.loop r);exact⟨h0,h1.trans (hp.below (by omega)),by rw[hp.size];exact h2,(hp.cell (by omega)).trans h3,h5⟩
 case h0 =>
  rintro W hs hb _;rw[hs4]at hs hb;exact⟨hb4.trans (hb.mono (by omega)),by omega,(zC hb w.heap.size 0 (by show w.heap.size<_;omega)).trans c0',(hb.frozen (p:=(Ad w.heap.size 0)) (by show w.heap.size<_;omega)).trans c1',rfl⟩
 case round =>
  rintro l pre x W ⟨h1,h2,h3,h4,h5⟩ hlW hSp;rw[hs4]at hlW ⊢;obtain⟨q,T⟩:=x;have HP5:=hdz h5;have HB:=hdz h1;clear h5 hSp h1 k0 k1 c0' c1' hb4;unfold JaX
  gi_wp2
  refine⟨Same2.refl _ W,⟨nlr _,λ_ _=>trivial⟩,?_⟩;intro w2 hp _;have hs2:sb+4<=w2.heap.size:=by rw[hp.size];exact h2
  have y3:=(hp.cell (b:=w.heap.size) (o:=0) (by omega)).trans h3;have y4:=(hp.frozen (b:=w.heap.size) (o:=0) (by omega)).trans h4;have HB2:Hid (Bw w w2):=HB.out.trans (hp.below (by omega));clear h3 h4 hp hlW
  cases T with
  | nil =>
   gi_wp2_with (refine⟨trivial,?_⟩)
   exact⟨Same2.refl _ _,⟨nlr _,λ_ _=>rfl⟩,HB2.out,hs2,y3,y4,by rw[List.any_append,HP5.out];rfl⟩
  | cons b T =>
   have cR:∀wx,Cg 202 #[.int .u8 (((ByteArray.mk (b :: T).toArray)[0]'(by simp[ByteArray.size])).toNat:Int)] wx λe w'=>e=.returned (.bool (Jku b))/\w'=wx:=λwx=>utf8_RuneStart (b.toNat:Int) wx (by omega) (by have:=b.toNat_lt;omega)
   by_cases hst:Jku b=true
   . rw [hst]at cR
     have HB5:Hid (((pre++[(q,b :: T)]).any λx=>JcQ x.2)=false):=by
      show _=_;rw[List.any_append,HP5.out];simp[JcQ,hst]
     clear hst
     gi_wp2_with (refine⟨trivial,rfl,?_⟩;refine(CallsIn.inRound l (callsIn_wide.2 (cR _))).mono ?_;rintro e wx ⟨rfl,hwx⟩;obtain rfl:=hwx.symm)
     exact⟨Same2.refl _ _,⟨nlr _,λ_ _=>rfl⟩,HB2.out,hs2,y3,y4,HB5.out⟩
   . have hst:Jku b=false:=Bool.eq_false_iff.2 hst
     rw[hst]at cR;have HB5:Hid (((pre++[(q,b :: T)]).any λx=>JcQ x.2)=true):=by
      show _=_;rw[List.any_append];simp[JcQ,hst]
     clear hst
     gi_wp2_with (refine⟨trivial,rfl,?_⟩;refine(CallsIn.inRound l (callsIn_wide.2 (cR _))).mono ?_;rintro e wx ⟨rfl,hwx⟩;obtain rfl:=hwx.symm)
     refine⟨(Same2.refl _ _).setCell (by show w.heap.size≠_;omega) (by show w.heap.size≠_;omega) _,⟨by simp,λx hx=>?_⟩,rfl,HB2.out.setCell (p:=(Ad w.heap.size 0)) (nlr _) _,by simpa using hs2,World.cell?_setCell_same _ _ _ y3,HB5.out⟩;exact Below.heap_setCell _ _ _ _ (by show x≠w.heap.size;omega)
 case done =>
  rintro xs W rfl ⟨h1,h2,h3,h4,h5⟩ hDef;rw[hs4]at hDef ⊢;have HB:=hdz h1;have HE:Hid (BB=false):=by
   show _=_;rw[←HBB.out,HBO.out];exact h5
  clear h1 h5 k0 k1 c0' c1' hb4
  gi_wp2
  have hDef':(W.setCell (Ad w.heap.size 0) .nilIface).heap[sb+2]?=some (.deferred (some [])):=(Below.heap_setCell _ _ _ _ (by show sb+2≠w.heap.size;omega)).trans hDef;have hP:=Put1.putObj (sb+2) (W.setCell (Ad w.heap.size 0) .nilIface) (.deferred none);have p0:=(hP.cell (b:=w.heap.size) (o:=0) (by omega)).trans (World.cell?_setCell_same _ _ .nilIface h3);refine⟨by simp,.inl ⟨_,_,rfl,run_takeDeferred hDef',?_⟩⟩;refine⟨.nilIface,by simp[results,results157,go_sem,p0],?_,(HB.out.setCell (p:=(Ad w.heap.size 0)) (nlr _) _).trans (hP.below (by omega))⟩;rw[←HV.out,HE.out];rfl
 case stop =>
  rintro k pre W ⟨rest,hsp⟩ ⟨rfl,h1,h2,h3,h5⟩ hDef;rw[hs4]at hDef ⊢;have HB:=hdz h1;have HE:Hid (BB=true):=by
   show _=_;rw[←HBB.out,HBO.out,hsp,List.any_append,h5];rfl
  clear h1 h5 k0 k1 c0' c1' hb4
  gi_wp2
  have hP:=Put1.putObj (sb+2) W (.deferred none);have p0:=(hP.cell (b:=w.heap.size) (o:=0) (by omega)).trans h3;refine⟨by simp,.inl ⟨_,_,rfl,run_takeDeferred hDef,?_⟩⟩;refine⟨.iface 25 (I6 10),by simp[results,results157,go_sem,p0],?_,HB.out.trans (hP.below (by omega))⟩;rw[←HV.out,HE.out];rfl
theorem Jhq(v:Value)(ps:List Pt)(s:List UInt8)(w:World)(hT:Lib.Utf8Tabs 3 4 w)(hr:opAt w v ps)(hwf:∀p∈ps,wfP p)(hs:s.length<1000000000)(hl:ps.length<10000000) :
    Cg 157 #[v,Sx s] w (Rt w (errV (ordE ps s))):=by
 by_cases he:chkE ps (s.length:Int)=0
 . exact Jkc v ps s w hT hr hwf hs hl he
 . exact Jmo v ps s w hT hr hwf hs hl he
end
end Go.Proofs.YtbkeomcicobohaaGreatDoor
namespace Go.Proofs
open Go.Shelf
def Tryz.lays169_ren:Go.Shelf.Ren:=⟨λ| 169=>11 | n=>n,λ| 70=>28 | 9=>9 | 0=>0 | 72=>31 | 37=>29 | 127=>61 | 3=>3 | 5=>5 | n=>n,λ| n=>n⟩
theorem Tryz.lays169:Go.Proofs.Lays.n169 Tryz.prog Tryz.lays169_ren:={
 mixed:=by kernel_rfl
 f169:=Tryz.func11.trans (congrArg some (by kernel_rfl))
 t0:=Tryz.underlying0
 a0:=Tryz.isAgg0
 z0:=Tryz.sizeOf0
 v0:=Tryz.zeroValue0
 t3:=Tryz.underlying3
 a3:=Tryz.isAgg3
 z3:=Tryz.sizeOf3
 v3:=Tryz.zeroValue3
 t9:=Tryz.underlying9
 a9:=Tryz.isAgg9
 z9:=Tryz.sizeOf9
 v9:=Tryz.zeroValue9
 t37:=Tryz.underlying29
 a37:=Tryz.isAgg29
 z37:=Tryz.sizeOf29
 v37:=Tryz.zeroValue29
 t70:=Tryz.underlying28
 a70:=Tryz.isAgg28
 z70:=Tryz.sizeOf28
 v70:=Tryz.zeroValue28
 t72:=Tryz.underlying31
 a72:=Tryz.isAgg31
 z72:=Tryz.sizeOf31
 v72:=Tryz.zeroValue31
 t127:=Tryz.underlying61
 a127:=Tryz.isAgg61
 z127:=Tryz.sizeOf61
 v127:=Tryz.zeroValue61 }
theorem Tryz.Builder_Extra_169:Builder.Extra Tryz.prog Tryz.lays169_ren:={
 sizeBuilder:=by kernel_rfl
 liesBuilder:=by kernel_rfl
 t5:=Tryz.underlying5
 a5:=Tryz.isAgg5
 z5:=Tryz.sizeOf5
 v5:=Tryz.zeroValue5
 infoByte:=by kernel_rfl
 cellsByte:=by kernel_rfl
 sizeByte:=by kernel_rfl
 neB5:=by decide }
end Go.Proofs
namespace Go.Proofs.YtbkeomcicobohaaGreatDoor
open Go.Proofs.Tryz Go.RowKit Go.Maps
theorem JhX:(prog.info? 31).map (·.size)=some 2:=by kernel_rfl
theorem Jnq:liesAt prog prog.depth 31 (2 / prog.cellsOf 31) 0 31 1=true:=by kernel_rfl
theorem Jj6(b:Nat)(w:World)(h0:w.cell? (Ad b 0)=some (.pointer none))(hsh:w.shape? b=some (31,2))(hfz:w.frozen? (Ad b 0)=false) :
    Cg 18 #[Pd b 0] w λe w'=>e=.returned (.tuple #[])/\w'=w.setCell (Ad b 0) (Pd b 0):=by
 obtain⟨j,hj,hjs⟩:=Option.map_eq_some_iff.1 JhX;have h1:=λw=>Lib.run_to_unsafe (P:=prog) w (Ad b 0) underlying28 underlying72 hj (by rw[hjs];decide) (e:=31) (cells:=2);have h3:=Lib.run_from_unsafe (P:=prog) w (Ad b 0) underlying72 underlying28 hj hsh Jnq;have h1':=h1 w hsh (Nat.zero_lt_succ 1);have hNE:=@run_callFunc_extern prog 43 _ Extern.AbiNoEscape.same func43 (by kernel_rfl) (by kernel_rfl) (by kernel_rfl) (by kernel_rfl);have hNR:=λ(x:Value) (w:World)=>Lib.run_noEscape (P:=prog) w x;clear h1
 go_enter func18,ntmps18
 go_wp2;go_end0;exact⟨rfl,rfl⟩
theorem Jkb(b:Nat)(w:World)(h0:w.cell? (Ad b 0)=some (Pd b 0)) :
    Cg 18 #[Pd b 0] w λe w'=>e=.returned (.tuple #[])/\w'=w:=by
 obtain⟨j,hj,_⟩:=Option.map_eq_some_iff.1 JhX;have hne:=Lib.run_neq_ptr_same (P:=prog) w (Ad b 0) underlying28 hj
 go_enter func18,ntmps18
 go_wp2;go_end0;exact⟨rfl,rfl⟩
theorem Jfw(B b:Nat)(bs:List Value)(w:World)(h:Lib.IsBuilder 31 5 B b bs w) :
    Cg 18 #[Pd b 0] w λe w'=>e=.returned (.tuple #[])/\(Lib.BuilderAt 31 5 B b (Pd b 0) bs w'/\Below B w w'/\Lib.OthersKept 5 (some b) w w'):=by
 rcases h with h|h
 . refine(Jj6 b w h.cell0 h.shape h.frozen0).mono ?_
   rintro e w' ⟨rfl,rfl⟩;exact⟨rfl,h.used _,(brf B w).setCell (p:=(Ad b 0)) h.1 _,(Lib.OthersKept.refl _ _ w).setCell (Ad b 0) rfl _⟩
 . refine(Jkb b w h.cell0).mono ?_
   rintro e w' ⟨rfl,rfl⟩;exact⟨rfl,h,brf B _,Lib.OthersKept.refl _ _ _⟩
theorem Jc7(B b:Nat)(bs:List Value)(s:ByteArray)(w:World)(h:Lib.IsBuilder 31 5 B b bs w)(hlen:bs.length+s.size<=1000000000000)(hBw:B<=w.heap.size) :
    Cg 8 #[Pd b 0,.string s] w λe w'=>(∃v,e=.returned v)/\(Lib.IsBuilder 31 5 B b (bs++Lib.strCells s) w'/\Below B w w'/\Lib.OthersKept 5 (some b) w w'):=by
 obtain⟨i0,hi,hz0,hz1,hz2⟩:=info_parts JhB;have cC:=Jfw B b bs w h;clear h
 go_enter func8,ntmps8
 go_wp2_with (first | (go_at_call 18;refine cC.mono ?_;rintro e w1 ⟨rfl,⟨hB,v,hbk,hown,hne⟩,hb1,hk1⟩;have c0:w1.cell? (Ad b 0)=some (Pd b 0):=(by rw[chp hbk];rfl);have c1:w1.cell? (Ad b 1)=some v:=(by rw[chp hbk];rfl)) | (at_builtin;refine Lib.wpList_append_own_string _ rfl _ _ 29 9 rfl B 5 i0 underlying29 underlying9 hi hz0 hz1 hz2 _ _ _ rfl hown s rfl (by unfold maxLen;omega) (by omega) (by have:=hb1.size;omega) ?_))
 intro v' w2 hown' hgrow _;have hlt:b<w1.heap.size:=blt w1 _ c0;have hb2:w2.heap[b]?=some (Oc #[Pd b 0,v] 31):=by
  rw[hgrow.block b hlt (λe=>hne e.symm)];exact hbk
 have d0:w2.cell? (Ad b 0)=some (Pd b 0):=by rw[chp hb2];rfl
 have d1:w2.cell? (Ad b 1)=some v:=by rw[chp hb2];rfl
 have f1:w2.frozen? (Ad b 1)=false:=Lib.frozen_of_heap hb2 1;obtain⟨ao,cap,rfl⟩:=Jak hown';have HP:Hid (Lib.IsBuilder 31 5 B b (bs++Lib.strCells s) (w2.setCell (Ad b 1) (.slice ao (bs.length+s.size) cap))/\Below B w (w2.setCell (Ad b 1) (.slice ao (bs.length+s.size) cap))/\Lib.OthersKept 5 (some b) w (w2.setCell (Ad b 1) (.slice ao (bs.length+s.size) cap))):=by
  refine⟨.inr ?_,?_,(hk1.grown hgrow (Lib.ownsRowF_kind (World.ownsRowF_of hown))).setCell (Ad b 1) rfl _⟩
  . exact Lib.BuilderAt.put (T:=31) (e:=5) hB hb2 (bs':=bs++Lib.strCells s) (by simpa[Lib.strCells_length] using hown') (by decide)
  . exact(hb1.grown hgrow (by have:=hb1.size;omega) (λk hk=>(hown.lt k hk).1)).setCell (p:=(Ad b 1)) hB _
 clear hown hown' hgrow hb2 hbk hb1 hk1 c0 c1;go_wp2
 go_ret2
 exact⟨⟨_,rfl⟩,HP.out⟩
theorem JgH{α:Type}{P:Program}{g:Operand}{ps:Array Tmp}{assign body:Code}{Q:Exit->Act->World->Prop}{a:Act}{w:World}{n:Nat}
    {gf:Nat} {lb:Array Value} (hg:a.eval g=.func (.func gf) #[] lb) (eg:∀args w,(callFunc gf args).run P w=.ok (.enter gf args) w)
    {encs:List α->α->Array Value} (hps:∀pre x,(encs pre x).size=ps.size)
    {It Kp:World->World->Prop} {Z:World->Prop} {S Sp:List α->Prop}
    (hseq:∀W,W.heap.size=w.heap.size+2->Below w.heap.size w W->Jlv P gf lb encs It Kp Z S Sp W)
    (hIt:∀A B,It A B->Same2 w.heap.size A B)
    (hKt:∀{A B C:World},Kp A B->Kp B C->Kp A C) (hKb:∀(A:World) (r:Loop),Kp A (A.putObj (w.heap.size+1) (.loop r)))
    (I:List α->World->Prop) (Ix:Code->List α->World->Prop)
    (hIz:∀pre A,I pre A->Z A) (hIxz:∀c pre A,Ix c pre A->Z A)
    (hI:∀pre A B,I pre A->It A B->I pre B) (hIb:∀pre A (r:Loop),I pre A->I pre (A.putObj (w.heap.size+1) (.loop r)))
    (hIx:∀c pre A B,Ix c pre A->It A B->Ix c pre B) (hIxb:∀c pre A (r:Loop),Ix c pre A->Ix c pre (A.putObj (w.heap.size+1) (.loop r)))
    (h0:∀W,W.heap.size=w.heap.size+2->Below w.heap.size w W->(∃r,W.heap[w.heap.size+1]?=some (.loop r))->W.heap[w.heap.size]?=some (.deferred (some []))->I [] W)
    (hround:∀(l:Nat) (pre:List α) (x:α) (W:World),I pre W->w.heap.size+2<=W.heap.size->Sp (pre++[x]) ->
      assign.wpIn (Fence.wide.inRound l) 0 P (Exit.then (λa₁ w₁=>Same2 w.heap.size W w₁/\Kp W w₁/\∀w₂,Put1 (w.heap.size+1) w₁ w₂->(∃r,w₂.heap[w.heap.size+1]?=some (.loop r))->body.wpIn (Fence.wide.inRound l) 0 P (JpI w.heap.size Kp I Ix (pre++[x]) w₂) a₁ w₂) (λ_ _ _=>False))
       { tmps:=(ps.zip (encs pre x)).foldl (λt (p,v)=>t.setIfInBounds p v) a.tmps,defers:=[] } W)
    (hdone:∀(xs:List α) (W:World),S xs->I xs W->W.heap[w.heap.size]?=some (.deferred (some []))->Q .normal { a with defers:={ target:=.collected w.heap.size,args:=#[] } :: a.defers } W)
    (hstop:∀(c:Code) (pre:List α) (W:World),Sp pre->Ix c pre W->W.heap[w.heap.size]?=some (.deferred (some []))->c.wpIn Fence.wide n P Q { a with defers:={ target:=.collected w.heap.size,args:=#[] } :: a.defers } W) :
    (Code.rangeFunc g ps assign body).wpIn Fence.wide n P Q a w:=by
 refine wpIn_rangeFunc ?_;intro fn hfn;obtain⟨rec,hrec⟩:∃rec:LoopState->Option Code->Loop,rec=λst pe=>{ state:=st,pending:=pe,fn,tmps:=a.tmps,params:=ps,assign,body,defers:=w.heap.size }:=⟨_,rfl⟩;obtain⟨W1,hW1⟩:∃W1,(w.alloc (.deferred (some []))).alloc (.loop (rec .ready none))=W1:=⟨_,rfl⟩;have hL1:W1.heap[w.heap.size+1]?=some (.loop (rec .ready none)):=by
  rw[←hW1];have:=World.alloc_heap_new (w.alloc (.deferred (some []))) (.loop (rec .ready none));rwa[World.size_alloc]at this
 have hK1:W1.heap[w.heap.size]?=some (.deferred (some [])):=by
  rw[←hW1];exact(Below.heap_alloc _ _ _ (by simp)).trans (World.alloc_heap_new w _)
 have hs1:W1.heap.size=w.heap.size+2:=by rw[←hW1,World.size_alloc,World.size_alloc]
 have hb1:Below w.heap.size w W1:=by
  rw[←hW1];exact((brf _ w).alloc (nlr _) _).alloc (by simp) _
 have hI1:I [] W1:=h0 W1 hs1 hb1 ⟨_,hL1⟩ hK1
 refine ⟨w.heap.size+1,[{ target:=.collected w.heap.size,args:=#[] }],W1,{ target:=.fn (.func gf) lb,args:=#[.func (.yield (w.heap.size+1)) #[] #[]] },W1,gf,
  #[.func (.yield (w.heap.size+1)) #[] #[]]++lb,W1,?_,?_,?_,?_,λh=>(by cases h),?_⟩
 . rw[←hW1,hrec];exact run_enterLoop_outer _ _ _ _ _
 . simp only[resolve,hg]
   simp[go_sem]
 . intro f' hf';trivial
 . simp[invoke,go_sem,eg]
 . refine CallsIn.more ((hseq W1 hs1 hb1 (w.heap.size+1)
     (λpre W=>I pre W/\W.heap[w.heap.size+1]?=some (.loop (rec .ready none))/\W.heap[w.heap.size]?=some (.deferred (some [])))
     (λpre W=>∃c,Ix c pre W/\W.heap[w.heap.size+1]?=some (.loop (rec .done (some c)))/\W.heap[w.heap.size]?=some (.deferred (some [])))
     (λs A hs=>hIz s A hs.1) (λs A hs=>(by obtain⟨c,hc,_⟩:=hs;exact hIxz c s A hc))
     (λs A B hs hg'=>⟨hI s A B hs.1 hg',(hIt A B hg').b.trans hs.2.1,(hIt A B hg').a.trans hs.2.2⟩)
     (λs A B hs hg'=>by
       obtain⟨c,hc,hl,hk⟩:=hs
       exact⟨c,hIx c s A B hc hg',(hIt A B hg').b.trans hl,(hIt A B hg').a.trans hk⟩)
     ?_ ⟨hI1,hL1,hK1⟩).mono ?_) (Nat.zero_le _)
   . -- one round
     rintro pre x W ⟨hi,hl,hk⟩ hSp;have hlt:w.heap.size+1<W.heap.size:=(alt hl);have hy:=run_yield (P:=P) (args:=encs pre x) hl (by rw[hrec];exact hps pre x);rw[hrec]at hy;refine⟨fn,_,assign,body,hy,roundIn_of_wpIn hfn (wpIn_mono (hround _ pre x W hi (by omega) hSp) ?_)⟩;clear hy;rintro ea a' Wa hq
     cases ea with
     | normal=>?_
     | ret=>exact hq.elim
     | exit id=>exact hq.elim
     | goto t=>exact hq.elim
     | panic c=>exact hq.elim
     | outgrown=>exact hq.elim
     obtain⟨h2a,hkpa,hbody⟩:=hq
     replace hl:=h2a.b.trans hl
     replace hk:=h2a.a.trans hk
     replace hlt:w.heap.size+1<Wa.heap.size:=(alt hl)
     refine⟨_,run_beginRound hl (by rw[hrec]),?_⟩;have hl2:(Wa.putObj (w.heap.size+1) (.loop { rec .ready none with state:=.busy })).heap[w.heap.size+1]?=some (.loop { rec .ready none with state:=.busy }):=World.putObj_heap_same hlt;have hk2:(Wa.putObj (w.heap.size+1) (.loop { rec .ready none with state:=.busy })).heap[w.heap.size]?=some (.deferred (some [])):=(World.putObj_heap_other (by omega)).trans hk;have hw2:Kp Wa (Wa.putObj (w.heap.size+1) (.loop { rec .ready none with state:=.busy })):=hKb _ _;refine wpIn_mono (hbody _ (Put1.putObj _ _ _) ⟨_,hl2⟩) ?_
     have fin:∀(jump:Option Code) (W3:World),Same2 w.heap.size (Wa.putObj (w.heap.size+1) (.loop { rec .ready none with state:=.busy })) W3 ->
         (Instr.endRound (w.heap.size+1) jump).run P W3=.ok (.bool jump.isNone) (W3.putObj (w.heap.size+1) (.loop (rec (if jump.isNone then .ready else .done) jump))) /\
         (W3.putObj (w.heap.size+1) (.loop (rec (if jump.isNone then .ready else .done) jump))).heap[w.heap.size+1]?=some (.loop (rec (if jump.isNone then .ready else .done) jump)) /\
         (W3.putObj (w.heap.size+1) (.loop (rec (if jump.isNone then .ready else .done) jump))).heap[w.heap.size]?=some (.deferred (some [])):=λjump W3 hk3=>by
      have hl3:=hk3.b.trans hl2;have:=run_endRound (P:=P) jump hl3;rw[hrec]at this ⊢;exact⟨this,World.putObj_heap_same (alt hl3),(World.putObj_heap_other (by omega)).trans (hk3.a.trans hk2)⟩
     rintro e a3 W3 hp
     cases e with
     | normal =>
      obtain⟨hk3,hkp3,hi3⟩:=hp;obtain⟨hr,hl4,hk4⟩:=fin none W3 hk3;exact⟨_,_,hr,.inl ⟨rfl,⟨hIb _ _ _ hi3,hl4,hk4⟩,hKt hkpa (hKt (hKt hw2 hkp3) (hKb _ _))⟩⟩
     | ret =>
      obtain⟨hk3,hkp3,hi3⟩:=hp;obtain⟨hr,hl4,hk4⟩:=fin (some .ret) W3 hk3;exact⟨_,_,hr,.inr ⟨rfl,⟨.ret,hIxb _ _ _ _ hi3,hl4,hk4⟩,hKt hkpa (hKt (hKt hw2 hkp3) (hKb _ _))⟩⟩
     | exit id =>
      obtain⟨hk3,hkp3,hi3⟩:=hp;obtain⟨hr,hl4,hk4⟩:=fin (some (.exit id)) W3 hk3;exact⟨_,_,hr,.inr ⟨rfl,⟨.exit id,hIxb _ _ _ _ hi3,hl4,hk4⟩,hKt hkpa (hKt (hKt hw2 hkp3) (hKb _ _))⟩⟩
     | goto t =>
      obtain⟨hk3,hkp3,hi3⟩:=hp;obtain⟨hr,hl4,hk4⟩:=fin (some (.goto t)) W3 hk3;exact⟨_,_,hr,.inr ⟨rfl,⟨.goto t,hIxb _ _ _ _ hi3,hl4,hk4⟩,hKt hkpa (hKt (hKt hw2 hkp3) (hKb _ _))⟩⟩
     | panic ch=>exact hp.elim
     | outgrown=>exact hp.elim
   . -- behind the iterator
     rintro e W2 ⟨⟨v,rfl⟩,(⟨xs,hS,hi,hl,hk⟩|⟨pre,hSp,c,hi,hl,hk⟩)⟩
     . exact⟨none,_,by have:=run_endLoop (P:=P) hl (by rw[hrec];simp);rw[hrec]at this;exact this,hdone xs _ hS (hIb _ _ _ hi) ((World.putObj_heap_other (by omega)).trans hk)⟩
     . exact⟨some c,_,by have:=run_endLoop (P:=P) hl (by rw[hrec];simp);rw[hrec]at this;exact this,hstop c pre _ hSp (hIxb _ _ _ _ hi) ((World.putObj_heap_other (by omega)).trans hk)⟩
section
attribute [local go_sem] Oper.semAt_some
variable {A B w w' : World}{e T b β : Nat}{r : Loop}{bs : List UInt8}{v1 v2 : Value}
theorem JhQ(B b:Nat)(l:List UInt8)(w:World)(h:Lib.IsBuilder 31 5 B b (Lib.byteCells l) w)(hBw:B<=w.heap.size) :
    Cg 11 #[Pd b 0] w λe w'=>e=.returned (.string ⟨l.toArray⟩)/\(Below B w w'/\Lib.OthersKept 5 (some b) w w'):=by
 have c:Cg 11 #[Pd b 0] w λe w'=>e=.returned (.string ⟨l.toArray⟩)/\(Lib.IsBuilderF 31 5 B b (Lib.byteCells l) w'/\Below B w w'/\Lib.OthersKept 5 (some b) w w'):=Any.Builder_String_any_k lays169 Tryz.Builder_Extra_169 B b l w (.of h) hBw;exact c.mono λe w' h=>⟨h.1,h.2.2⟩
def Jd9 (x:Pt×List UInt8):List UInt8:=(if 0<x.1.keep then x.2 else [])++x.1.put
def Jae (ps:List Pt) (s:List UInt8):List UInt8:=(pcs ps s).flatMap Jd9
theorem JsG(ps:List Pt)(s:List UInt8)(h:Jpc ps s):(((pcs ps s).map λx=>x.2.length).sum:Nat)<=s.length:=by
 induction ps generalizing s with
 | nil=>simp[pcs]
 | cons p ps ih =>
  obtain⟨h1,h2,h3,h4⟩:=h;have:=ih _ h4;simp only[pcs,List.map_cons,List.sum_cons];rw[List.length_take];rw[List.length_drop]at this;omega
theorem JpG(ps:List Pt)(s:List UInt8):(pcs ps s).map (λx=>x.1.put.length)=ps.map λp=>p.put.length:=by
 induction ps generalizing s with
 | nil=>rfl
 | cons p ps ih=>simp[pcs,ih]
def Jaq (ps:List Pt):Nat:=(ps.map λp=>p.put.length).sum
theorem JpR(l:List (Pt×List UInt8)):(l.flatMap Jd9).length<=(l.map λx=>x.2.length).sum+(l.map λx=>x.1.put.length).sum:=by
 induction l with
 | nil=>simp
 | cons x l ih =>
  simp only[List.flatMap_cons,List.length_append,List.map_cons,List.sum_cons];have:(Jd9 x).length<=x.2.length+x.1.put.length:=by
   unfold Jd9;rw[List.length_append]
   split<;>simp
  omega
theorem JuT{ps:List Pt}{s:List UInt8}(h:Jpc ps s){pre rest:List (Pt×List UInt8)}(e:pcs ps s=pre++rest):(pre.flatMap Jd9).length<=s.length+Jaq ps:=by
 have h1:=JpR pre;have h2:=JsG ps s h;have h3:=congrArg List.sum (JpG ps s);rw[e]at h2 h3;rw[List.map_append,List.sum_append]at h2 h3;unfold Jaq;omega
theorem JsI{n N size k:Nat}{v:Value}{xs:List Value}(h:A.ownsRow N e size v k xs)(hn:A.heap[n]?=some (.loop r))(hp:Put1 n A B):B.ownsRow N e size v k xs:=by
 obtain⟨h0,hrow⟩:=h;refine⟨h0,?_⟩
 rcases hrow with hx|⟨g,cap,cur,rfl,hg,hgg,rest⟩
 . exact .inl hx
 . refine .inr ⟨g,cap,cur,rfl,hg,(hp.block g ?_).trans hgg,rest⟩
   rintro rfl;rw[hn]at hgg
   cases hgg
theorem Jwk{B:Nat}{p:Value}{bs:List Value}(h:Lib.BuilderAt T e B b p bs w)(hb:w'.heap[b]?=w.heap[b]?)(ho:∀v,w.ownsRow B e 1 v bs.length bs->w'.ownsRow B e 1 v bs.length bs):Lib.BuilderAt T e B b p bs w':=by
 obtain⟨h1,v,h2,h3,h4⟩:=h;exact⟨h1,v,hb.trans h2,ho v h3,h4⟩
theorem JnR{B:Nat}{bs:List Value}(h:Lib.IsBuilder T e B b bs w)(hb:w'.heap[b]?=w.heap[b]?)(ho:∀v,w.ownsRow B e 1 v bs.length bs->w'.ownsRow B e 1 v bs.length bs):Lib.IsBuilder T e B b bs w' :=
 h.elim (λh=>.inl (Jwk h hb ho)) (λh=>.inr (Jwk h hb ho))
structure apI (w:World) (β:Nat) (v1 v2:Value) (r:Loop) (bs:List UInt8) (A:World):Prop where
 below:Bw w A
 size:β+5<=A.heap.size
 bld:Lib.IsBuilder 31 5 β β (Lib.byteCells bs) A
 h1:A.heap[β+1]?=some (Oc #[v1] 94)
 h2:A.heap[β+2]?=some (Oc #[v2] 9)
 h3:A.heap[β+3]?=some (.deferred (some []))
 h4:A.heap[β+4]?=some (.loop r)
theorem apI.grow(h:apI w β v1 v2 r bs A)(hb:Bw A B):apI w β v1 v2 r bs B:=by
 have hs:=h.size;exact⟨h.below.trans (hb.mono h.below.size),Nat.le_trans hs hb.size,JnR h.bld (hb.block β (by omega)) (λv hv=>Jbl hv hb),(hb.block (β+1) (by omega)).trans h.h1,(hb.block (β+2) (by omega)).trans h.h2,(hb.block (β+3) (by omega)).trans h.h3,(hb.block (β+4) (by omega)).trans h.h4⟩
theorem apI.put{r':Loop}(h:apI w β v1 v2 r bs A)(hw:w.heap.size<=β)(hp:Put1 (β+4) A B)(hl:B.heap[β+4]?=some (.loop r')):apI w β v1 v2 r' bs B :=
 ⟨h.below.trans (hp.below (by omega)),by rw[hp.size];exact h.size,JnR h.bld (hp.block β (by omega)) (λv hv=>JsI hv h.h4 hp),(hp.block (β+1) (by omega)).trans h.h1,(hp.block (β+2) (by omega)).trans h.h2,(hp.block (β+3) (by omega)).trans h.h3,hl⟩
theorem apI.wrote{u:List UInt8}(h:apI w β v1 v2 r bs A)(hw:w.heap.size<=β)(h1:Lib.IsBuilder 31 5 β β (Lib.byteCells bs++Lib.strCells ⟨u.toArray⟩) B)(h2:Below β A B)(h3:Lib.OthersKept 5 (some β) A B):apI w β v1 v2 r (bs++u) B:=by
 refine⟨h.below.trans (h2.mono hw),Nat.le_trans h.size h2.size,?_,h3 _ _ h.h1 (by simp) (by intro c fz e;cases e),h3 _ _ h.h2 (by simp) (by intro c fz e;cases e),h3 _ _ h.h3 (by simp) (by intro c fz e;cases e),h3 _ _ h.h4 (by simp) (by intro c fz e;cases e)⟩;rw[Lib.byteCells_append];exact h1
theorem apI.kept{bs':List UInt8}(h:apI w β v1 v2 r bs A)(h':apI w β v1 v2 r bs' B)(hs:A.heap.size<=B.heap.size) :
    Same2 (β+3) A B/\A.heap.size<=B.heap.size/\∀(x:Nat),x=β+1\/x=β+1+1\/x<w.heap.size->B.heap[x]?=A.heap[x]?:=by
 refine⟨⟨h'.h3.trans h.h3.symm,h'.h4.trans h.h4.symm⟩,hs,?_⟩;rintro x (rfl|rfl|hx)
 . exact h'.h1.trans h.h1.symm
 . exact h'.h2.trans h.h2.symm
 . exact(h'.below.block x hx).trans (h.below.block x hx).symm
theorem Jui(v:Value)(ps:List Pt)(s:List UInt8)(w:World)(hT:Lib.Utf8Tabs 3 4 w)(hr:opAt w v ps)(hwf:∀p∈ps,wfP p)(hs:s.length<1000000000)(hl:ps.length<10000000)(he:ordE ps s≠0) :
    Cg 101 #[v,Sx s] w (Rt w (.tuple #[.string ⟨#[]⟩,errV (ordE ps s)])):=by
 have cC:Hid _:=Jhq v ps s w hT hr hwf hs hl;have hV:errV (ordE ps s)=.iface 25 (I6 (ordE ps s)):=by unfold errV;rw[if_neg he]
 rw[hV]at cC ⊢;generalize ordE ps s=E at *;obtain⟨p,c,rfl,_⟩:=hr;clear hT hwf hV
 go_enter func101,ntmps101
 go_wp2_with (go_at_call 157;refine Calls.mono cC.out ?_;rintro e w1 ⟨rfl,hb1⟩)
 go_ret2
 exact⟨rfl,hb1⟩
theorem JrN(v:Value)(ps:List Pt)(s:List UInt8)(w:World)(hT:Lib.Utf8Tabs 3 4 w)(hr:opAt w v ps)(hwf:∀p∈ps,wfP p)(hs:s.length<1000000000)(hl:ps.length<10000000)(hpu:Jaq ps<100000000000)(he:chkE ps (s.length:Int)=0)(hbad:badO ps s=false) :
    Cg 101 #[v,.string ⟨s.toArray⟩] w (Rt w (.tuple #[.string ⟨(Jae ps s).toArray⟩,.nilIface])):=by
 have cC:Hid _:=Jhq v ps s w hT hr hwf hs hl;obtain⟨hfit,hleft⟩:=JnM he;have hV:errV (ordE ps s)=.nilIface:=by unfold ordE;rw[if_pos he,hbad];rfl
 rw[hV]at cC;have HF:=hdz hfit;have HR:=hdz hr;have HSL:=hdz hs;have HLP:=hdz hl;have HPU:=hdz hpu;have hrow:∀x o n c,v=.slice (some (Ad x o)) n c->ps≠[]->x<w.heap.size:=by
  intro x o n c e hne;obtain⟨p,c',rfl,_,_,h3⟩:=hr;obtain⟨b,o',e1,e2,_⟩:=h3 hne;simp only[Value.slice.injEq]at e;rw[e.1]at e1;simp only[Option.some.injEq,Addr.mk.injEq]at e1;rw[e1.1];exact e2
 have HROW:=hdz hrow;obtain⟨p,c,rfl,_⟩:=hr;obtain⟨S,hS⟩:∃S:ByteArray,(ByteArray.mk (Jae ps s).toArray)=S:=⟨_,rfl⟩;have HS:=hdz hS;rw[hS];clear hT hwf hV hfit hleft hrow he hbad hS hpu;have cO:=λ(wx:World)=>JpK p ps.length c ⟨s.toArray⟩ wx;refine(callsIn_wide (n:=3)).1 ?_;refine callsIn_of_wp_marks func101 rfl trivial ?_ rfl;simp only[ntmps101,List.size_toArray,List.length_cons,List.length_nil,Nat.reduceAdd,Nat.reduceSub,Array.replicate_succ,Array.replicate_zero,List.push_toArray,List.append_toArray,List.nil_append,List.cons_append]
 gi_wp2_with (first
  | (refine⟨trivial,?_⟩;gi_at_call 157;refine(callsIn_wide.2 cC.out).mono ?_;rintro e w1 ⟨rfl,hb1⟩)
  | (refine⟨trivial,?_⟩;gi_at_call 158;refine(callsIn_wide.2 (cO _)).mono ?_;rintro e w13 ⟨rfl,rfl⟩))
 have hlt1:w.heap.size<=w1.heap.size:=hb1.size;obtain⟨β,hβ⟩:∃β,w1.heap.size=β:=⟨_,rfl⟩;obtain⟨W4,hW4⟩:∃W4,W4=((w1.alloc (Oc #[.pointer none,.slice none 0 0] 31)).alloc (Oc #[.slice p ps.length c] 94)).alloc (Oc #[.string ⟨s.toArray⟩] 9):=⟨_,rfl⟩;have hb4:Below w.heap.size w W4:=by rw[hW4];exact((hb1.alloc hb1.size _).alloc (by simp;omega) _).alloc (by simp;omega) _
 have hs4:W4.heap.size=β+3:=by rw[hW4,←hβ];simp
 have q0:W4.heap[β]?=some (Oc #[.pointer none,.slice none 0 0] 31):=by rw[hW4,←hβ];exact(heap_alloc_old _ _ (by rw[wsa,World.size_alloc];omega)).trans ((heap_alloc_old _ _ (by rw[wsa];omega)).trans (heap_alloc_new _ _))
 have q1:W4.heap[β+1]?=some (Oc #[.slice p ps.length c] 94):=by rw[hW4,←hβ];exact(heap_alloc_old _ _ (by simp)).trans (by have:=heap_alloc_new (w1.alloc (Oc #[.pointer none,.slice none 0 0] 31)) (Oc #[.slice p ps.length c] 94);rwa[World.size_alloc]at this)
 have q2:W4.heap[β+2]?=some (Oc #[.string ⟨s.toArray⟩] 9):=by rw[hW4,←hβ];have:=heap_alloc_new ((w1.alloc (Oc #[.pointer none,.slice none 0 0] 31)).alloc (Oc #[.slice p ps.length c] 94)) (Oc #[.string ⟨s.toArray⟩] 9);rwa[World.size_alloc,World.size_alloc]at this
 rw[←hW4,hβ];rw[hβ]at hlt1;clear hW4 cC cO hb1 hβ
 refine JgH (gf:=203) (lb:=#[.pointer (some (Ad (β+1+1) 0)),.pointer (some (Ad (β+1) 0))]) rfl (enters_of func203 (by kernel_rfl) rfl) (encs:=λ_ (x:Pt×List UInt8)=>#[JaX x.1,.string ⟨x.2.toArray⟩]) (λ_ _=>rfl)
  (It:=λA B=>Below A.heap.size A B/\β+5<=A.heap.size) (Kp:=λA B=>A.heap.size<=B.heap.size/\∀x,(x=β+1\/x=β+1+1\/x<w.heap.size)->B.heap[x]?=A.heap[x]?) (Z:=λ_=>True) (S:=λxs=>xs=pcs ps s) (Sp:=λpre=>∃rest,pcs ps s=pre++rest)
  ?seq ?its (λh k=>⟨Nat.le_trans h.1 k.1,λx hx=>(k.2 x hx).trans (h.2 x hx)⟩) ?hkb
  (λpre W=>∃r,apI w β (.slice p ps.length c) (.string ⟨s.toArray⟩) r (pre.flatMap Jd9) W)
  (λ_ _ _=>False) (λ_ _ _=>trivial) (λ_ _ _ h=>h.elim) ?ii ?ib (λ_ _ _ _ h _=>h) (λ_ _ _ _ h=>h) ?h0 ?round ?done (λ_ _ _ _ h=>h.elim)
 case seq =>
  intro W hs1 hb1;rw[hs4]at hs1 hb1;have hb9:Below w.heap.size w W:=hb4.trans (hb1.mono (by omega));have:=JpJ (.slice p ps.length c) ps s HSL.out HLP.out HF.out (λx=>(x=β+1\/x=β+1+1\/x<w.heap.size)) (β+1) W (chp ((hb1.block (β+1) (by omega)).trans q1) 0) (chp ((hb1.block (β+2) (by omega)).trans q2) 0) (JaJ HR.out hb9 (nlr _)) (.inl rfl) (.inr (.inl rfl)) (λb o n c' e hne=>.inr (.inr (HROW.out b o n c' e hne))) (by rintro x (rfl|rfl|hx)<;>omega) (λ_=>True);rw[hs1]at this;exact this
 case its=>exact λA B h=>Same2.of_below h.1 (by rw[hs4];omega)
 case hkb =>
  intro A r;rw[hs4];exact⟨by simp,λx hx=>World.putObj_heap_other (by omega)⟩
 case ii=>exact λpre A B h hb=>by obtain⟨r,h⟩:=h;exact⟨r,h.grow hb.1⟩
 case ib =>
  rintro pre A r ⟨r0,h⟩;rw[hs4];exact⟨r,h.put hlt1 (Put1.putObj _ _ _) (World.putObj_heap_same (by have:=h.size;omega))⟩
 case h0 =>
  rintro W hs hb ⟨r,hr⟩ hd;rw[hs4]at hs hb hr hd;exact⟨r,hb4.trans (hb.mono (by omega)),by omega,.inl ⟨nlr _,.slice none 0 0,(hb.block β (by omega)).trans q0,World.ownsRow_nil _ _ _ _,by simp[Value.ownBlock]⟩,(hb.block (β+1) (by omega)).trans q1,(hb.block (β+2) (by omega)).trans q2,hd,hr⟩
 case round =>
  rintro l pre ⟨q,T⟩ W ⟨r0,hI⟩ hlW ⟨rest,hSp⟩;rw[hs4]at hlW ⊢;have hml:=JuT HF.out hSp;have hpp:=HPU.out;have hss:=HSL.out;have HML:Hid ((pre.flatMap Jd9).length+T.length+q.put.length<=1000000000000):=by
   show _<=_;have h1:=JsG ps s HF.out;have h2:=congrArg List.sum (JpG ps s);have h3:=JpR pre;rw[hSp]at h1 h2;simp only[List.map_append,List.sum_append,List.map_cons,List.map_nil,List.sum_cons,List.sum_nil]at h1 h2;unfold Jaq at hpp;omega
  have HI:Hid (apI w β (.slice p ps.length c) (.string ⟨s.toArray⟩) r0 (pre.flatMap Jd9) W):=hI;have HNX:Hid ((pre++[(q,T)]).flatMap Jd9=pre.flatMap Jd9++Jd9 (q,T)):=by show _=_;simp
  have HWB:Hid (¬β=W.heap.size):=by show ¬_;omega
  have cK:=Jco q;unfold JaX at cK ⊢;clear hI hSp q0 q1 q2 hb4 hml hpp hss
  gi_wp2
  refine⟨(Same2.refl _ W).alloc (by omega) _,⟨by simp,λx hx=>heap_alloc_old _ _ (by omega)⟩,?_⟩;intro w2 hp ⟨r,hr⟩;have hI1:=HI.out.grow (B:=W.alloc (Oc #[I6 q.keep,I6 q.drop,.string ⟨q.put.toArray⟩] 96)) (zA _ _);have HI2:=hdz (hI1.put hlt1 hp hr);have hbx:w2.heap[W.heap.size]?=some (Oc #[I6 q.keep,I6 q.drop,.string ⟨q.put.toArray⟩] 96):=(hp.block W.heap.size (by omega)).trans (heap_alloc_new _ _);have HBX:=hdz hbx;have x0:=cQ hbx 0 rfl;have x1:=cQ hbx 1 rfl;have x2:=cQ hbx 2 rfl;clear hp hr hbx hI1
  by_cases hk:0<q.keep
  . have hkd:decide (0<q.keep)=true:=decide_eq_true hk
    rw[hkd]at cK;have HMK:Hid (Jd9 (q,T)=T++q.put):=by show _=_;unfold Jd9;rw[if_pos hk]
    clear hk hkd
    gi_wp2_with (first
     | (refine⟨trivial,rfl,?_⟩;gi_at_call 159;refine(CallsIn.inRound l (callsIn_wide.2 (cK _))).mono ?_;rintro e w3 ⟨rfl,hb3⟩;have hI3:=HI2.out.grow hb3;have hL3:(Lib.byteCells (pre.flatMap Jd9)).length+(ByteArray.mk T.toArray).size<=1000000000000:=(by have:=HML.out;rw[Lib.byteCells_length];show _+T.toArray.size<=_;simp only[List.size_toArray];omega);have hB3:β<=w3.heap.size:=(by have:=hI3.size;omega);have hx3:=(hb3.block W.heap.size (blt w2 _ x0)).trans HBX.out)
     | (refine⟨trivial,rfl,?_⟩;gi_at_call 8;refine(CallsIn.inRound l (callsIn_wide.2 (Jc7 β β _ _ _ hI4.bld hL4 hB4))).mono ?_;rintro e w5 ⟨⟨v5,rfl⟩,hw5,hb5,hk5⟩;have hI5:=hI4.wrote hlt1 hw5 hb5 hk5)
     | (refine⟨trivial,rfl,?_⟩;gi_at_call 8;refine(CallsIn.inRound l (callsIn_wide.2 (Jc7 β β _ _ _ hI3.bld hL3 hB3))).mono ?_;rintro e w4 ⟨⟨v4,rfl⟩,hw4,hb4,hk4⟩;have hI4:=hI3.wrote hlt1 hw4 hb4 hk4;have hx4:=hk4 _ _ hx3 (λe=>HWB.out (osi e).symm) (by intro c fz e;cases e);have hy4:=cQ hx4 2 rfl;have hL4:(Lib.byteCells (pre.flatMap Jd9++T)).length+(ByteArray.mk q.put.toArray).size<=1000000000000:=(by have:=HML.out;rw[Lib.byteCells_length,List.length_append];show _+q.put.toArray.size<=_;simp only[List.size_toArray];omega);have hB4:β<=w4.heap.size:=(by have:=hI4.size;omega)))
    have hK:=HI2.out.kept hI5 (Nat.le_trans hb3.size (Nat.le_trans hb4.size hb5.size));refine⟨hK.1,hK.2,r,?_⟩;rw[HNX.out,HMK.out,←List.append_assoc];exact hI5
  . have hkd:decide (0<q.keep)=false:=decide_eq_false hk
    rw[hkd]at cK;have HMK:Hid (Jd9 (q,T)=q.put):=by show _=_;unfold Jd9;rw[if_neg hk,List.nil_append]
    clear hk hkd
    gi_wp2_with (first
     | (refine⟨trivial,rfl,?_⟩;gi_at_call 159;refine(CallsIn.inRound l (callsIn_wide.2 (cK _))).mono ?_;rintro e w3 ⟨rfl,hb3⟩;have hI3:=HI2.out.grow hb3;have hL3:(Lib.byteCells (pre.flatMap Jd9)).length+(ByteArray.mk q.put.toArray).size<=1000000000000:=(by have:=HML.out;rw[Lib.byteCells_length];show _+q.put.toArray.size<=_;simp only[List.size_toArray];omega);have hB3:β<=w3.heap.size:=(by have:=hI3.size;omega);have y3:w3.cell? (Ad W.heap.size 2)=some (.string ⟨q.put.toArray⟩):=chp ((hb3.block W.heap.size (blt w2 _ x0)).trans HBX.out) 2)
     | (refine⟨trivial,rfl,?_⟩;gi_at_call 8;refine(CallsIn.inRound l (callsIn_wide.2 (Jc7 β β _ _ _ hI3.bld hL3 hB3))).mono ?_;rintro e w4 ⟨⟨v4,rfl⟩,hw4,hb4,hk4⟩;have hI4:=hI3.wrote hlt1 hw4 hb4 hk4)
     | (refine⟨trivial,?_⟩))
    have hK:=HI2.out.kept hI4 (Nat.le_trans hb3.size hb4.size);refine⟨hK.1,hK.2,r,?_⟩;rw[HNX.out,HMK.out];exact hI4
 case done =>
  rintro xs W rfl ⟨r,hI⟩ hDef;rw[hs4]at hDef ⊢;have HI:Hid (apI w β (.slice p ps.length c) (.string ⟨s.toArray⟩) r (Jae ps s) W):=hI;have cS:=JhQ β β (Jae ps s) W HI.out.bld (by have:=HI.out.size;omega);rw[HS.out]at cS;clear hI q0 q1 q2 hb4
  gi_wp2_with (refine⟨trivial,?_⟩;gi_at_call 11;refine(callsIn_wide.2 cS).mono ?_;rintro e w6 ⟨rfl,hb6,hk6⟩)
  have hDef6:=hk6 _ _ hDef (λe=>by have:=osi e;omega) (by intro c fz e;cases e);have hP:=Put1.putObj (β+3) w6 (.deferred none);refine⟨by simp,.inl ⟨_,_,rfl,run_takeDeferred hDef6,?_⟩⟩;exact⟨.tuple #[.string S,.nilIface],by simp[results,results101,go_sem],rfl,(HI.out.below.trans (hb6.mono hlt1)).trans (hP.below (by omega))⟩
theorem JjT(v:Value)(ps:List Pt)(s:List UInt8)(w:World)(hT:Lib.Utf8Tabs 3 4 w)(hr:opAt w v ps)(hwf:∀p∈ps,wfP p)(hs:s.length<1000000000)(hl:ps.length<10000000)(hpu:Jaq ps<100000000000) :
    Cg 101 #[v,Sx s] w (Rt w (.tuple #[Sx (if ordE ps s=0 then Jae ps s else []),errV (ordE ps s)])):=by
 by_cases he:ordE ps s=0
 . rw [if_pos he,he]
   have hc:chkE ps (s.length:Int)=0/\badO ps s=false:=by
    unfold ordE at he
    split at he
    . rename_i h
      refine⟨h,?_⟩
      cases hb:badO ps s with
      | false=>rfl
      | true=>rw[hb]at he;simp at he
    . rename_i h;exact absurd he h
   exact JrN v ps s w hT hr hwf hs hl hpu hc.1 hc.2
 . rw[if_neg he]
   exact Jui v ps s w hT hr hwf hs hl he
end
section
attribute [local go_sem] Oper.semAt_some
theorem add_bd{M:Nat}(a:Nat)(s:NSt)(p:Pt)(w:World)(h:gath M w a s){T:Int}{n:Nat}(hB:Bd s T n)(hp:Jce p)(hT:T+wtP p<1000000000)(hn:n<10000000) :
    Cg 248 #[JaX p,.pointer (some (Ad (a+1) 0)),.pointer (some (Ad (a+2) 0)),.pointer (some (Ad (a+3) 0)),Pd a 0] w λe w'=>(∃v,e=.returned v)/\gath M w' a (addP s p)/\BelowG M a w w':=by
 have h1:=hB.put;have h2:=hB.d0;have h3:=hB.dT;have h4:=hB.len;obtain⟨p1,p2⟩:=hp;unfold wtP at hT;exact Jqp a s p w h (by omega) h2 (by omega) p2 p1 (by omega) (λq hq=>by have:=hB.keep q hq;omega) (by omega)
variable {g o c : Nat}{w w' : World}{v : Value}{ps : List Pt}{p : Pt}
structure ButO (g:Nat) (w w':World):Prop where
 os:w'.os=w.os
 tape:w'.tape=w.tape
 output:w'.output=w.output
 size:w.heap.size<=w'.heap.size
 block:∀k,k<w.heap.size->k≠g->w'.heap[k]?=w.heap[k]?
theorem ButO.of(h:Bw w w'):ButO g w w':=⟨h.os,h.tape,h.output,h.size,λk hk _=>h.block k hk⟩
theorem ButO.trans{g:Nat}{a b c:World}(h:ButO g a b)(k:ButO g b c):ButO g a c :=
 ⟨k.os.trans h.os,k.tape.trans h.tape,k.output.trans h.output,Nat.le_trans h.size k.size,λi hi hg=>(k.block i (Nat.lt_of_lt_of_le hi h.size) hg).trans (h.block i hi hg)⟩
theorem ButO.set{a:World}(h:ButO g a w)(o:Nat)(u:Value):ButO g a (w.setCell (Ad g o) u) :=
 h.trans ⟨rfl,rfl,rfl,by simp[World.setCell],λk _ hk=>Below.heap_setCell _ _ _ _ (by show k≠g;exact hk)⟩
def winP (w:World) (g:Nat) (v:Value) (ps:List Pt):Prop :=
 ∃ p c,v=.slice p ps.length c/\ps.length<=c/\c<=maxLen/\(ps≠[]->∃o,p=some (Ad g o)/\g<w.heap.size/\(∀j,w.frozen? (Ad g j)=false)/\∀i q,ps[i]?=some q ->
  w.cell? (Ad g (o+i*3))=some (I6 q.keep)/\w.cell? (Ad g (o+i*3+1))=some (I6 q.drop)/\w.cell? (Ad g (o+i*3+2))=some (Sx q.put))
theorem Jcy(h:winP w g v ps)(hs:w.heap.size<=w'.heap.size)(hb:g<w.heap.size->w'.heap[g]?=w.heap[g]?):winP w' g v ps:=by
 obtain⟨p,c,rfl,h1,h2,h3⟩:=h;refine⟨p,c,rfl,h1,h2,λhne=>?_⟩;obtain⟨o,e1,e2,e4,e3⟩:=h3 hne;have hg:=hb e2;refine⟨o,e1,by omega,λj=>(World.frozen?_of_block (w:=w) (a:=(Ad g j)) hg).trans (e4 j),λi q hi=>?_⟩;obtain⟨f1,f2,f3⟩:=e3 i q hi;exact⟨(World.cell?_of_block (w:=w) (a:=(Ad g (o+i*3))) hg).trans f1,(World.cell?_of_block (w:=w) (a:=(Ad g (o+i*3+1))) hg).trans f2,(World.cell?_of_block (w:=w) (a:=(Ad g (o+i*3+2))) hg).trans f3⟩
theorem Jhz(h:winP w g v ps)(hb:Bw w w'):winP w' g v ps:=Jcy h hb.size λhg=>hb.block g hg
theorem Jul{k:Nat}(h:winP w g v ps)(hb:ButO k w w')(hne:g≠k):winP w' g v ps:=Jcy h hb.size λhg=>hb.block g hg hne
theorem Jpy{B:Nat}(h:w.ownsRow B 96 3 v ps.length (JaM ps)):∃g,(g=B\/(B<=g/\g<w.heap.size))/\winP w g v ps:=by
 have h':=h
 rcases h.2 with ⟨rfl,h2⟩|⟨g,cap,cur,rfl,h2,h3,h4,h5,h6,h7⟩
 . obtain rfl:ps=[]:=List.eq_nil_of_length_eq_zero h2
   exact⟨B,.inl rfl,none,0,rfl,nlr _,Nat.zero_le _,λh=>absurd rfl h⟩
 . have hlt:=(alt h3)
   refine⟨g,.inr ⟨h2,hlt⟩,_,cap,rfl,h4,h5,λ_=>⟨0,rfl,hlt,λj=>h'.frozenAt j,λi q hi=>?_⟩⟩;have hlt:=(llt hi);have hc:=Jgl ps i q hi;refine⟨?_,?_,?_⟩
   . rw[Nat.zero_add,h'.cellAt _ (by omega)];exact hc 0 (by omega)
   . rw[Nat.zero_add,h'.cellAt _ (by omega)];exact hc 1 (by omega)
   . rw[Nat.zero_add,h'.cellAt _ (by omega)];exact hc 2 (by omega)
theorem Jcz(h:winP w g v (p :: ps)):∃o c,v=.slice (some (Ad g o)) (ps.length+1) c/\ps.length+1<=c/\c<=maxLen/\g<w.heap.size/\(∀j,w.frozen? (Ad g j)=false) /\
    w.cell? (Ad g o)=some (I6 p.keep)/\w.cell? (Ad g (o+1))=some (I6 p.drop)/\w.cell? (Ad g (o+2))=some (Sx p.put):=by
 obtain⟨q,c,rfl,h1,h2,h3⟩:=h;obtain⟨o,rfl,e2,e4,e3⟩:=h3 (by simp);obtain⟨f1,f2,f3⟩:=e3 0 p rfl;simp only[Nat.zero_mul,Nat.add_zero]at f1 f2 f3;exact⟨o,c,rfl,h1,h2,e2,e4,f1,f2,f3⟩
theorem JrQ(h:winP w g (.slice (some (Ad g o)) (ps.length+1) c) (p :: ps))(hs:w.heap.size<=w'.heap.size)(hf:∀j,w'.frozen? (Ad g j)=w.frozen? (Ad g j))(hc:∀j,o+3<=j->w'.cell? (Ad g j)=w.cell? (Ad g j)) :
    winP w' g (.slice (some (Ad g (o+3))) ps.length (c - 1)) ps:=by
 obtain⟨q,c',e,h1,h2,h3⟩:=h;obtain⟨o',rfl,e2,e4,e3⟩:=h3 (by simp);simp only[Value.slice.injEq,Option.some.injEq,Addr.mk.injEq,true_and,and_true]at e;obtain⟨e5,_,e6⟩:=e;subst e5 e6;simp only[List.length_cons]at h1;refine⟨_,c - 1,rfl,by omega,by omega,λhne=>⟨o+3,rfl,by omega,λj=>(hf j).trans (e4 j),λi q hi=>?_⟩⟩;obtain⟨f1,f2,f3⟩:=e3 (i+1) q (by simpa using hi);rw[show o+(i+1)*3=o+3+i*3 by omega]at f1 f2 f3;exact⟨(hc _ (by omega)).trans f1,(hc _ (by omega)).trans f2,(hc _ (by omega)).trans f3⟩
theorem Jhy{p':Pt}(h:winP w g (.slice (some (Ad g o)) (ps.length+1) c) (p :: ps))(hs:w.heap.size<=w'.heap.size)(hf:∀j,w'.frozen? (Ad g j)=w.frozen? (Ad g j))(hc:∀j,o+3<=j->w'.cell? (Ad g j)=w.cell? (Ad g j))
    (c0:w'.cell? (Ad g o)=some (I6 p'.keep)) (c1:w'.cell? (Ad g (o+1))=some (I6 p'.drop)) (c2:w'.cell? (Ad g (o+2))=some (Sx p'.put)) :
    winP w' g (.slice (some (Ad g o)) (ps.length+1) c) (p' :: ps):=by
 obtain⟨q,c',e,h1,h2,h3⟩:=h;obtain⟨o',rfl,e2,e4,e3⟩:=h3 (by simp);simp only[Value.slice.injEq,Option.some.injEq,Addr.mk.injEq,true_and,and_true]at e;obtain⟨e5,_,e6⟩:=e;subst e5 e6;refine⟨_,c,rfl,h1,h2,λ_=>⟨o,rfl,by omega,λj=>(hf j).trans (e4 j),λi q hi=>?_⟩⟩
 cases i with
 | zero =>
  obtain rfl:p'=q:=by simpa using hi
  simp only[Nat.zero_mul,Nat.add_zero];exact⟨c0,c1,c2⟩
 | succ i =>
  obtain⟨f1,f2,f3⟩:=e3 (i+1) q (by simpa using hi);exact⟨(hc _ (by omega)).trans f1,(hc _ (by omega)).trans f2,(hc _ (by omega)).trans f3⟩
theorem frozen_of_heap{w:World}{b:Nat}{xs:Array Value}{t:TypeId}(h:w.heap[b]?=some (Oc xs t))(j:Nat):w.frozen? (Ad b j)=false:=by
 simp[World.frozen?,h]
theorem Jb3{w w1:World}{R P:Array Value}{T S:TypeId}(hb:Below ((w.alloc (Oc R T)).alloc (Oc P S)).heap.size ((w.alloc (Oc R T)).alloc (Oc P S)) w1) :
    w1.heap[w.heap.size]?=some (Oc R T)/\w1.heap[w.heap.size+1]?=some (Oc P S)/\Bw w w1:=by
 refine⟨(hb.block _ (by simp only[World.size_alloc];omega)).trans ((heap_alloc_old _ _ (by rw[wsa];omega)).trans (heap_alloc_new _ _)),(hb.block _ (by simp only[World.size_alloc];omega)).trans (by have:=heap_alloc_new (w.alloc (Oc R T)) (Oc P S);rwa[World.size_alloc]at this),?_⟩;exact(((brf _ w).alloc (nlr _) _).alloc (by rw[wsa];omega) _).trans (hb.mono (by simp only[World.size_alloc];omega))
theorem Ji8(h:winP w g (.slice (some (Ad g o)) (ps.length+1) c) (p :: ps))(hb:Bw w w') :
    winP w' g (.slice (some (Ad g (o+3))) ps.length (c - 1)) ps/\(c=1->winP w' g (.slice (some (Ad g o)) ps.length 0) ps):=by
 have hg:g<w.heap.size:=by obtain⟨_,_,_,_,_,hg,_⟩:=Jcz h;exact hg
 refine⟨JrQ h hb.size (λj=>hb.frozen (p:=(Ad g j)) hg) λj _=>zC hb g j hg,λhc=>?_⟩;obtain⟨_,_,e,h1,_⟩:=h;simp only[Value.slice.injEq,List.length_cons]at e h1;obtain rfl:ps=[]:=List.eq_nil_of_length_eq_zero (by omega);exact⟨_,0,rfl,nlr _,Nat.zero_le _,λh=>absurd rfl h⟩
theorem cut_all(g:Nat)(v:Value)(p:Pt)(ps:List Pt)(n:Nat)(w:World)(h:winP w g v (p :: ps))(hp:0<=p.keep/\0<=p.drop)(hn:Jaf p=n)(hb:n<1000000000) :
    Cg 251 #[v,I6 n] w λe w'=>∃v',e=.returned (.tuple #[JaX p,v'])/\winP w' g v' ps/\ButO g w w':=by
 have H:=hdz h;obtain⟨o,c,rfl,h1,h2,h3,h4,c0,c1,c2⟩:=Jcz h;have cL:Hid (∀wx,Cg 250 #[JaX p] wx (Rt wx (I6 n))):=λwx=>by
  have:=JdT p wx hp (by unfold Jaf at hn;omega);rw[show p.keep+p.drop+(p.put.length:Int)=n from hn]at this;exact this
 obtain⟨K,D,U⟩:=p;simp only at c0 c1 c2;have c0':w.cell? (Ad g (o+0))=some (I6 K):=c0;have h4':=h4 o;have hi1:(1:Int)<=(ps.length:Int)+1:=by omega
 unfold JaX at cL;clear h hn hp h4
 go_enter func251,ntmps251
 go_wp2_with (go_at_call 250;refine(cL.out _).mono ?_;rintro e w1 ⟨rfl,hb1⟩;obtain⟨b1,b2,b3⟩:=Jb3 hb1;have HB:=hdz b3;have r0:=cQ b1 0 rfl;have r1:=cQ b1 1 rfl;have r2:=cQ b1 2 rfl;have p0:=cQ b2 0 rfl;have p1:=cQ b2 1 rfl;have p2:=cQ b2 2 rfl;have rF:=fZ b1 0;have rF1:=fZ b1 1;have rF2:=fZ b1 2;clear b1 b2 b3 hb1)
 have s0:(w1.setCell (Ad w.heap.size 0) (I6 K)).cell? (Ad w.heap.size 0)=some (I6 K):=World.cell?_setCell_same _ _ _ r0;have s1:((w1.setCell (Ad w.heap.size 0) (I6 K)).setCell (Ad w.heap.size 1) (I6 D)).cell? (Ad w.heap.size 1)=some (I6 D):=by
  have:(w1.setCell (Ad w.heap.size 0) (I6 K)).cell? (Ad w.heap.size 1)=some (I6 0):=by simp[go_sem,r1]
  exact World.cell?_setCell_same _ _ _ this
 have s2:(((w1.setCell (Ad w.heap.size 0) (I6 K)).setCell (Ad w.heap.size 1) (I6 D)).setCell (Ad w.heap.size 2) (Sx U)).cell? (Ad w.heap.size 2)=some (Sx U):=by
  have:((w1.setCell (Ad w.heap.size 0) (I6 K)).setCell (Ad w.heap.size 1) (I6 D)).cell? (Ad w.heap.size 2)=some (.string ⟨#[]⟩):=by simp[go_sem,r2]
  exact World.cell?_setCell_same _ _ _ this
 go_region
 all_goals go_wp2
 . have hc1:c=1:=by assumption
   subst hc1;refine bodyPost_ret (v:=.tuple #[.agg #[I6 K,I6 D,Sx U],.slice (some (Ad g o)) ps.length 0]) (by simp[results,results251,go_sem,s0,s1,s2]) rfl ?_;have hbw:=((((HB.out.setCell (p:=(Ad w.heap.size 0)) (nlr _) (I6 K)).setCell (p:=(Ad w.heap.size 1)) (nlr _) (I6 D)).setCell (p:=(Ad w.heap.size 2)) (nlr _) (Sx U)).drew);exact⟨_,rfl,(Ji8 H.out hbw).2 rfl,.of hbw⟩
 . refine bodyPost_ret (v:=.tuple #[.agg #[I6 K,I6 D,Sx U],.slice (some (Ad g (o+3))) ps.length (c - 1)]) (by simp[results,results251,go_sem,s0,s1,s2]) rfl ?_
   have hbw:=((((HB.out.setCell (p:=(Ad w.heap.size 0)) (nlr _) (I6 K)).setCell (p:=(Ad w.heap.size 1)) (nlr _) (I6 D)).setCell (p:=(Ad w.heap.size 2)) (nlr _) (Sx U)).drew);exact⟨_,rfl,(Ji8 H.out hbw).1,.of hbw⟩
end
section
attribute [local go_sem] Oper.semAt_some
variable {w : World}{b : Nat}
theorem Jbv{o o':Nat}{x:Value}(h:o≠o'):(w.setCell (Ad b o) x).cell? (Ad b o')=w.cell? (Ad b o'):=World.cell?_setCell_other _ _ _ _ (by intro e;simp only[Addr.mk.injEq]at e;omega)
theorem JeE{y0 y1 y2:Value}(r0:w.cell? (Ad b 0)=some y0)(r1:w.cell? (Ad b 1)=some y1)(r2:w.cell? (Ad b 2)=some y2)(x0 x1 x2:Value) :
    (w.setCell (Ad b 0) x0).cell? (Ad b 0)=some x0/\((w.setCell (Ad b 0) x0).setCell (Ad b 1) x1).cell? (Ad b 1)=some x1/\(((w.setCell (Ad b 0) x0).setCell (Ad b 1) x1).setCell (Ad b 2) x2).cell? (Ad b 2)=some x2 /\
    (((w.setCell (Ad b 0) x0).setCell (Ad b 1) x1).setCell (Ad b 2) x2).heap.size=w.heap.size/\∀k,k≠b->(((w.setCell (Ad b 0) x0).setCell (Ad b 1) x1).setCell (Ad b 2) x2).heap[k]?=w.heap[k]?:=by
 have h1:(w.setCell (Ad b 0) x0).cell? (Ad b 1)=some y1:=by rw[Jbv (by omega)];exact r1
 have h2:((w.setCell (Ad b 0) x0).setCell (Ad b 1) x1).cell? (Ad b 2)=some y2:=by rw[Jbv (by omega),Jbv (by omega)];exact r2
 refine⟨World.cell?_setCell_same _ _ _ r0,World.cell?_setCell_same _ _ _ h1,World.cell?_setCell_same _ _ _ h2,by simp,λk hk=>?_⟩;rw[Below.heap_setCell _ _ _ _ (by show k≠b;exact hk),Below.heap_setCell _ _ _ _ (by show k≠b;exact hk),Below.heap_setCell _ _ _ _ (by show k≠b;exact hk)]
theorem ButO.trans'{g:Nat}{A Z:World}(h:ButO g w A)(hs:Z.heap.size=A.heap.size)(hk:∀k,k<w.heap.size->Z.heap[k]?=A.heap[k]?)(ho:Z.os=A.os/\Z.tape=A.tape/\Z.output=A.output):ButO g w Z :=
 ⟨ho.1.trans h.os,ho.2.1.trans h.tape,ho.2.2.trans h.output,by rw[hs];exact h.size,λk hk1 hk2=>(hk k hk1).trans (h.block k hk1 hk2)⟩
theorem Jv2(g:Nat)(v:Value)(K:Int)(ps:List Pt)(n:Nat)(w:World)(h:winP w g v (⟨K,0,[]⟩ :: ps))(h0:0<n)(hn:(n:Int)<K)(hb:K<1000000000) :
    Cg 251 #[v,I6 n] w λe w'=>∃v',e=.returned (.tuple #[JaX ⟨n,0,[]⟩,v'])/\winP w' g v' (⟨K - n,0,[]⟩ :: ps)/\ButO g w w':=by
 have H:=hdz h;obtain⟨o,c,rfl,h1,h2,h3,h4,c0,c1,c2⟩:=Jcz h;have cL:Hid (∀wx,Cg 250 #[JaX ⟨K,0,[]⟩] wx (Rt wx (I6 K))):=λwx=>by
  have:=JdT ⟨K,0,[]⟩ wx ⟨by simp<;>omega,by simp<;>omega⟩ (by simp<;>omega);simpa using this
 have cK:=Jco ⟨K,0,[]⟩;have cD:=JdV ⟨K,0,[]⟩;have hkd:decide (0<(⟨K,0,[]⟩:Pt).keep)=true:=decide_eq_true (show 0<K by omega);rw[hkd]at cK;have hne:¬K=(n:Int):=by omega
 have hw1: -9223372036854775808<=K - (n:Int):=by omega
 have hw2:K - (n:Int)<9223372036854775808:=by omega
 simp only at c0 c1 c2;have H4:=hdz h4;have hgw:¬g=w.heap.size:=by omega
 have hwg:¬w.heap.size=g:=by omega
 have C0:=hdz c0;have C1:=hdz c1;have C2:=hdz c2;have c0':w.cell? (Ad g (o+0))=some (I6 K):=c0;have H3:=hdz h3;unfold JaX at cL cK cD;clear h hb h4
 go_enter func251,ntmps251
 go_wp2_with (first
  | (go_at_call 250;refine(cL.out _).mono ?_;rintro e w1 ⟨rfl,hb1⟩;obtain⟨b1,b2,b3⟩:=Jb3 hb1;have HR1:=hdz b1;have HP1:=hdz b2;have HB1:=hdz b3;have p0:=cQ b2 0 rfl;have p1:=cQ b2 1 rfl;have p2:=cQ b2 2 rfl;clear b1 b2 b3 hb1)
  | (go_at_call 159;refine(cK _).mono ?_;rintro e w2 ⟨rfl,hb2⟩;have HR2:Hid (w2.heap[w.heap.size]?=some (Oc #[I6 0,I6 0,.string ⟨#[]⟩] 96)):=(hb2.block _ (Jaw HR1.out)).trans HR1.out;have HP2:Hid (w2.heap[w.heap.size+1]?=some (Oc #[I6 K,I6 0,Sx []] 96)):=(hb2.block _ (Jaw HP1.out)).trans HP1.out;have HB2:=hdz (HB1.out.trans (hb2.mono HB1.out.size));have r0:=cQ HR2.out 0 rfl;have r1:=cQ HR2.out 1 rfl;have r2:=cQ HR2.out 2 rfl;have rF:=fZ HR2.out 0;have rF1:=fZ HR2.out 1;have rF2:=fZ HR2.out 2;have g0:w2.cell? (Ad g o)=some (I6 K):=(HB2.out.cell H3.out).trans C0.out;have g1:w2.cell? (Ad g (o+1))=some (I6 0):=(HB2.out.cell H3.out).trans C1.out;have g2:w2.cell? (Ad g (o+2))=some (Sx []):=(HB2.out.cell H3.out).trans C2.out;have gF:w2.frozen? (Ad g o)=false:=(HB2.out.frozen H3.out).trans (H4.out o);have gF1:w2.frozen? (Ad g (o+1))=false:=(HB2.out.frozen H3.out).trans (H4.out _);have gF2:w2.frozen? (Ad g (o+2))=false:=(HB2.out.frozen H3.out).trans (H4.out _);clear hb2))
 obtain⟨A,hA⟩:∃A,w2.setCell (Ad g (o+0)) (I6 (K - n))=A:=⟨_,rfl⟩;have hA':w2.setCell (Ad g o) (I6 (K - n))=A:=hA;rw[hA'];have hkeep:A.heap[w.heap.size]?=w2.heap[w.heap.size]?:=by rw[←hA];exact Below.heap_setCell _ _ _ _ (by show w.heap.size≠g;omega)
 have e0:A.cell? (Ad w.heap.size 0)=some (I6 0):=(World.cell?_of_block (w:=w2) (a:=(Ad w.heap.size 0)) hkeep).trans r0;have e1:A.cell? (Ad w.heap.size 1)=some (I6 0):=(World.cell?_of_block (w:=w2) (a:=(Ad w.heap.size 1)) hkeep).trans r1;have e2:A.cell? (Ad w.heap.size 2)=some (.string ⟨#[]⟩):=(World.cell?_of_block (w:=w2) (a:=(Ad w.heap.size 2)) hkeep).trans r2;obtain⟨s0,s1,s2,hs,hk⟩:=JeE e0 e1 e2 (I6 n) (I6 0) (.string ⟨#[]⟩);refine bodyPost_ret (v:=.tuple #[.agg #[(I6 n),(I6 0),(.string ⟨#[]⟩)],.slice (some (Ad g o)) (ps.length+1) c]) (by simp[results,results251,go_sem,s0,s1,s2]) rfl ?_
 have hfirst:winP A g (.slice (some (Ad g o)) (ps.length+1) c) (⟨K - n,0,[]⟩ :: ps):=by
  rw[←hA]
  exact Jhy H.out (by rw[World.size_setCell];exact HB2.out.size) (λj=>by rw[World.frozen?_setCell];exact HB2.out.frozen H3.out) (λj hj=>by rw[Jbv (by omega)];exact HB2.out.cell H3.out)
   (World.cell?_setCell_same _ _ _ g0) (by rw[Jbv (by omega)];exact g1) (by rw[Jbv (by omega)];exact g2)
 have hbut:ButO g w A:=by rw[←hA];exact(ButO.of HB2.out).set _ _
 generalize hZ:((A.setCell (Ad w.heap.size 0) (I6 n)).setCell (Ad w.heap.size 1) (I6 0)).setCell (Ad w.heap.size 2) (.string ⟨#[]⟩)=Z at *;exact⟨_,rfl,Jcy hfirst (Nat.le_of_eq hs.symm) λ_=>hk g (by omega),hbut.trans' hs (λk hk'=>hk k (by omega)) (by rw[←hZ];exact⟨rfl,rfl,rfl⟩)⟩
theorem Jv3(g:Nat)(v:Value)(K:Int)(ps:List Pt)(n:Nat)(w:World)(h:winP w g v (⟨0,K,[]⟩ :: ps))(h0:0<n)(hn:(n:Int)<K)(hb:K<1000000000) :
    Cg 251 #[v,I6 n] w λe w'=>∃v',e=.returned (.tuple #[JaX ⟨0,n,[]⟩,v'])/\winP w' g v' (⟨0,K - n,[]⟩ :: ps)/\ButO g w w':=by
 have H:=hdz h;obtain⟨o,c,rfl,h1,h2,h3,h4,c0,c1,c2⟩:=Jcz h;have cL:Hid (∀wx,Cg 250 #[JaX ⟨0,K,[]⟩] wx (Rt wx (I6 K))):=λwx=>by
  have:=JdT ⟨0,K,[]⟩ wx ⟨by simp<;>omega,by simp<;>omega⟩ (by simp<;>omega);simpa using this
 have cK:=Jco ⟨0,K,[]⟩;have cD:=JdV ⟨0,K,[]⟩;have hkd:decide (0<(⟨0,K,[]⟩:Pt).keep)=false:=rfl;have hdd:decide (0<(⟨0,K,[]⟩:Pt).drop)=true:=decide_eq_true (show 0<K by omega);rw[hkd]at cK;rw[hdd]at cD;have hne:¬K=(n:Int):=by omega
 have hw1: -9223372036854775808<=K - (n:Int):=by omega
 have hw2:K - (n:Int)<9223372036854775808:=by omega
 simp only at c0 c1 c2;have H4:=hdz h4;have hgw:¬g=w.heap.size:=by omega
 have hwg:¬w.heap.size=g:=by omega
 have C0:=hdz c0;have C1:=hdz c1;have C2:=hdz c2;have c0':w.cell? (Ad g (o+0))=some (I6 0):=c0;have H3:=hdz h3;unfold JaX at cL cK cD;clear h hb h4
 go_enter func251,ntmps251
 go_wp2_with (first
  | (go_at_call 250;refine(cL.out _).mono ?_;rintro e w1 ⟨rfl,hb1⟩;obtain⟨b1,b2,b3⟩:=Jb3 hb1;have HR1:=hdz b1;have HP1:=hdz b2;have HB1:=hdz b3;have p0:=cQ b2 0 rfl;have p1:=cQ b2 1 rfl;have p2:=cQ b2 2 rfl;clear b1 b2 b3 hb1)
  | (go_at_call 159;refine(cK _).mono ?_;rintro e w2 ⟨rfl,hb2⟩;have HR2:Hid (w2.heap[w.heap.size]?=some (Oc #[I6 0,I6 0,.string ⟨#[]⟩] 96)):=(hb2.block _ (Jaw HR1.out)).trans HR1.out;have HP2:Hid (w2.heap[w.heap.size+1]?=some (Oc #[I6 0,I6 K,Sx []] 96)):=(hb2.block _ (Jaw HP1.out)).trans HP1.out;have HB2:=hdz (HB1.out.trans (hb2.mono HB1.out.size));have p0:=cQ HP2.out 0 rfl;have p1:=cQ HP2.out 1 rfl;have p2:=cQ HP2.out 2 rfl;clear hb2)
  | (go_at_call 208;refine(cD _).mono ?_;rintro e w3 ⟨rfl,hb3⟩;have HR3:Hid (w3.heap[w.heap.size]?=some (Oc #[I6 0,I6 0,.string ⟨#[]⟩] 96)):=(hb3.block _ (Jaw HR2.out)).trans HR2.out;have HP3:Hid (w3.heap[w.heap.size+1]?=some (Oc #[I6 0,I6 K,Sx []] 96)):=(hb3.block _ (Jaw HP2.out)).trans HP2.out;have HB3:=hdz (HB2.out.trans (hb3.mono HB2.out.size));have r0:=cQ HR3.out 0 rfl;have r1:=cQ HR3.out 1 rfl;have r2:=cQ HR3.out 2 rfl;have rF:=fZ HR3.out 0;have rF1:=fZ HR3.out 1;have rF2:=fZ HR3.out 2;have g0:w3.cell? (Ad g o)=some (I6 0):=(HB3.out.cell H3.out).trans C0.out;have g1:w3.cell? (Ad g (o+1))=some (I6 K):=(HB3.out.cell H3.out).trans C1.out;have g2:w3.cell? (Ad g (o+2))=some (Sx []):=(HB3.out.cell H3.out).trans C2.out;have gF:w3.frozen? (Ad g o)=false:=(HB3.out.frozen H3.out).trans (H4.out o);have gF1:w3.frozen? (Ad g (o+1))=false:=(HB3.out.frozen H3.out).trans (H4.out _);have gF2:w3.frozen? (Ad g (o+2))=false:=(HB3.out.frozen H3.out).trans (H4.out _);clear hb3))
 obtain⟨A,hA⟩:∃A,w3.setCell (Ad g (o+1)) (I6 (K - n))=A:=⟨_,rfl⟩;have hA':=hA;rw[hA'];have hkeep:A.heap[w.heap.size]?=w3.heap[w.heap.size]?:=by rw[←hA];exact Below.heap_setCell _ _ _ _ (by show w.heap.size≠g;omega)
 have e0:A.cell? (Ad w.heap.size 0)=some (I6 0):=(World.cell?_of_block (w:=w3) (a:=(Ad w.heap.size 0)) hkeep).trans r0;have e1:A.cell? (Ad w.heap.size 1)=some (I6 0):=(World.cell?_of_block (w:=w3) (a:=(Ad w.heap.size 1)) hkeep).trans r1;have e2:A.cell? (Ad w.heap.size 2)=some (.string ⟨#[]⟩):=(World.cell?_of_block (w:=w3) (a:=(Ad w.heap.size 2)) hkeep).trans r2;obtain⟨s0,s1,s2,hs,hk⟩:=JeE e0 e1 e2 (I6 0) (I6 n) (.string ⟨#[]⟩);refine bodyPost_ret (v:=.tuple #[.agg #[(I6 0),(I6 n),(.string ⟨#[]⟩)],.slice (some (Ad g o)) (ps.length+1) c]) (by simp[results,results251,go_sem,s0,s1,s2]) rfl ?_
 have hfirst:winP A g (.slice (some (Ad g o)) (ps.length+1) c) (⟨0,K - n,[]⟩ :: ps):=by
  rw[←hA]
  exact Jhy H.out (by rw[World.size_setCell];exact HB3.out.size) (λj=>by rw[World.frozen?_setCell];exact HB3.out.frozen H3.out) (λj hj=>by rw[Jbv (by omega)];exact HB3.out.cell H3.out)
   (by rw[Jbv (by omega)];exact g0) (World.cell?_setCell_same _ _ _ g1) (by rw[Jbv (by omega)];exact g2)
 have hbut:ButO g w A:=by rw[←hA];exact(ButO.of HB3.out).set _ _
 generalize hZ:((A.setCell (Ad w.heap.size 0) (I6 0)).setCell (Ad w.heap.size 1) (I6 n)).setCell (Ad w.heap.size 2) (.string ⟨#[]⟩)=Z at *;exact⟨_,rfl,Jcy hfirst (Nat.le_of_eq hs.symm) λ_=>hk g (by omega),hbut.trans' hs (λk hk'=>hk k (by omega)) (by rw[←hZ];exact⟨rfl,rfl,rfl⟩)⟩
theorem cut_put(g:Nat)(v:Value)(U:List UInt8)(ps:List Pt)(n:Nat)(w:World)(h:winP w g v (⟨0,0,U⟩ :: ps))(h0:0<n)(hn:n<U.length)(hb:U.length<1000000000) :
    Cg 251 #[v,I6 n] w λe w'=>∃v',e=.returned (.tuple #[JaX ⟨0,0,U.take n⟩,v'])/\winP w' g v' (⟨0,0,U.drop n⟩ :: ps)/\ButO g w w':=by
 have H:=hdz h;obtain⟨o,c,rfl,h1,h2,h3,h4,c0,c1,c2⟩:=Jcz h;have cL:Hid (∀wx,Cg 250 #[JaX ⟨0,0,U⟩] wx (Rt wx (I6 (U.length:Int)))):=λwx=>by
  have:=JdT ⟨0,0,U⟩ wx ⟨by simp<;>omega,by simp<;>omega⟩ (by simp<;>omega);simpa using this
 have cK:=Jco ⟨0,0,U⟩;have cD:=JdV ⟨0,0,U⟩;have hkd:decide (0<(⟨0,0,U⟩:Pt).keep)=false:=rfl;have hdd:decide (0<(⟨0,0,U⟩:Pt).drop)=false:=rfl;rw[hkd]at cK;rw[hdd]at cD;have hne:¬(U.length:Int)=(n:Int):=by omega
 have hz:(ByteArray.mk U.toArray).size=U.length:=by simp[ByteArray.size]
 have hle:n<=U.length:=by omega
 simp only at c0 c1 c2;have H4:=hdz h4;have hgw:¬g=w.heap.size:=by omega
 have hwg:¬w.heap.size=g:=by omega
 have C0:=hdz c0;have C1:=hdz c1;have C2:=hdz c2;have c0':w.cell? (Ad g (o+0))=some (I6 0):=c0;have H3:=hdz h3;unfold JaX at cL cK cD;clear h hb h4
 go_enter func251,ntmps251
 go_wp2_with (first
  | (go_at_call 250;refine(cL.out _).mono ?_;rintro e w1 ⟨rfl,hb1⟩;obtain⟨b1,b2,b3⟩:=Jb3 hb1;have HR1:=hdz b1;have HP1:=hdz b2;have HB1:=hdz b3;have p0:=cQ b2 0 rfl;have p1:=cQ b2 1 rfl;have p2:=cQ b2 2 rfl;clear b1 b2 b3 hb1)
  | (go_at_call 159;refine(cK _).mono ?_;rintro e w2 ⟨rfl,hb2⟩;have HR2:Hid (w2.heap[w.heap.size]?=some (Oc #[I6 0,I6 0,.string ⟨#[]⟩] 96)):=(hb2.block _ (Jaw HR1.out)).trans HR1.out;have HP2:Hid (w2.heap[w.heap.size+1]?=some (Oc #[I6 0,I6 0,Sx U] 96)):=(hb2.block _ (Jaw HP1.out)).trans HP1.out;have HB2:=hdz (HB1.out.trans (hb2.mono HB1.out.size));have p0:=cQ HP2.out 0 rfl;have p1:=cQ HP2.out 1 rfl;have p2:=cQ HP2.out 2 rfl;clear hb2)
  | (go_at_call 208;refine(cD _).mono ?_;rintro e w3 ⟨rfl,hb3⟩;have HR3:Hid (w3.heap[w.heap.size]?=some (Oc #[I6 0,I6 0,.string ⟨#[]⟩] 96)):=(hb3.block _ (Jaw HR2.out)).trans HR2.out;have HP3:Hid (w3.heap[w.heap.size+1]?=some (Oc #[I6 0,I6 0,Sx U] 96)):=(hb3.block _ (Jaw HP2.out)).trans HP2.out;have HB3:=hdz (HB2.out.trans (hb3.mono HB2.out.size));have r0:=cQ HR3.out 0 rfl;have r1:=cQ HR3.out 1 rfl;have r2:=cQ HR3.out 2 rfl;have rF:=fZ HR3.out 0;have rF1:=fZ HR3.out 1;have rF2:=fZ HR3.out 2;have g0:w3.cell? (Ad g o)=some (I6 0):=(HB3.out.cell H3.out).trans C0.out;have g1:w3.cell? (Ad g (o+1))=some (I6 0):=(HB3.out.cell H3.out).trans C1.out;have g2:w3.cell? (Ad g (o+2))=some (Sx U):=(HB3.out.cell H3.out).trans C2.out;have gF:w3.frozen? (Ad g o)=false:=(HB3.out.frozen H3.out).trans (H4.out o);have gF1:w3.frozen? (Ad g (o+1))=false:=(HB3.out.frozen H3.out).trans (H4.out _);have gF2:w3.frozen? (Ad g (o+2))=false:=(HB3.out.frozen H3.out).trans (H4.out _);have p0:=cQ HP3.out 0 rfl;have p1:=cQ HP3.out 1 rfl;have p2:=cQ HP3.out 2 rfl;clear hb3))
 obtain⟨A,hA⟩:∃A,w3.setCell (Ad g (o+2)) (.string ((ByteArray.mk U.toArray).extract n U.length))=A:=⟨_,rfl⟩;have hA':=hA;rw[hA'];have hkeep:A.heap[w.heap.size]?=w3.heap[w.heap.size]?:=by rw[←hA];exact Below.heap_setCell _ _ _ _ (by show w.heap.size≠g;omega)
 have e0:A.cell? (Ad w.heap.size 0)=some (I6 0):=(World.cell?_of_block (w:=w3) (a:=(Ad w.heap.size 0)) hkeep).trans r0;have e1:A.cell? (Ad w.heap.size 1)=some (I6 0):=(World.cell?_of_block (w:=w3) (a:=(Ad w.heap.size 1)) hkeep).trans r1;have e2:A.cell? (Ad w.heap.size 2)=some (.string ⟨#[]⟩):=(World.cell?_of_block (w:=w3) (a:=(Ad w.heap.size 2)) hkeep).trans r2;obtain⟨s0,s1,s2,hs,hk⟩:=JeE e0 e1 e2 (I6 0) (I6 0) (.string ((ByteArray.mk U.toArray).extract 0 n));refine bodyPost_ret (v:=.tuple #[.agg #[(I6 0),(I6 0),(.string ((ByteArray.mk U.toArray).extract 0 n))],.slice (some (Ad g o)) (ps.length+1) c]) (by simp[results,results251,go_sem,s0,s1,s2]) rfl ?_
 have hfirst:winP A g (.slice (some (Ad g o)) (ps.length+1) c) (⟨0,0,U.drop n⟩ :: ps):=by
  rw[←hA]
  exact Jhy H.out (by rw[World.size_setCell];exact HB3.out.size) (λj=>by rw[World.frozen?_setCell];exact HB3.out.frozen H3.out) (λj hj=>by rw[Jbv (by omega)];exact HB3.out.cell H3.out)
   (by rw[Jbv (by omega)];exact g0) (by rw[Jbv (by omega)];exact g1) ((World.cell?_setCell_same _ _ _ g2).trans (by rw[Jhn]))
 have hbut:ButO g w A:=by rw[←hA];exact(ButO.of HB3.out).set _ _
 generalize hZ:((A.setCell (Ad w.heap.size 0) (I6 0)).setCell (Ad w.heap.size 1) (I6 0)).setCell (Ad w.heap.size 2) (.string ((ByteArray.mk U.toArray).extract 0 n))=Z at *;exact⟨_,by rw[Jho];rfl,Jcy hfirst (Nat.le_of_eq hs.symm) λ_=>hk g (by omega),hbut.trans' hs (λk hk'=>hk k (by omega)) (by rw[←hZ];exact⟨rfl,rfl,rfl⟩)⟩
end
end Go.Proofs.YtbkeomcicobohaaGreatDoor
