/-
  A part of the texts that the proof uses.
-/
import Derived.Test.YtkcpjanmemdjlaaGreatDoorPartA
set_option maxRecDepth 100000
set_option maxHeartbeats 40000000
set_option linter.all false
namespace Go.Proofs.YtkcpjanmemdjlaaGreatDoor
open Go.Proofs.Tryz Go.RowKit Go.Maps
section
structure KeepUp (lo:Nat) (A B:World):Prop where
 size:A.heap.size<=B.heap.size
 same:∀k,lo<=k->k<A.heap.size->B.heap[k]?=A.heap[k]?
theorem KeepUp.refl(lo:Nat)(A:World):KeepUp lo A A:=⟨Ai _,λ_ _ _=>rfl⟩
theorem KeepUp.trans{lo:Nat}{A B C:World}(h:KeepUp lo A B)(k:KeepUp lo B C):KeepUp lo A C :=
 ⟨AF h.size k.size,λi a b=>(k.same i a (AK b h.size)).trans (h.same i a b)⟩
theorem KeepUp.of_below{lo:Nat}{A B:World}(h:Bw A B):KeepUp lo A B:=⟨h.size,λk _ a=>h.block k a⟩
theorem KeepUp.setCell{lo:Nat}{A W:World}(h:KeepUp lo A W){p:Addr}(b:p.block<lo)(v:Value):KeepUp lo A (W.setCell p v) :=
 h.trans ⟨by simp[World.setCell],λk a _=>BF W p v k (by omega)⟩
theorem KeepUp.alloc{lo:Nat}{A W:World}(h:KeepUp lo A W)(o:Obj):KeepUp lo A (W.alloc o) :=
 h.trans ⟨by simp,λk _ a=>FS W o k a⟩
theorem KeepUp.putObj{lo r:Nat}(A:World)(o:Obj)(h:r<lo):KeepUp lo A (A.putObj r o) :=
 ⟨by simp,λk a _=>CJ (by omega)⟩
theorem KeepUp.counted{lo:Nat}{A B:World}(h:KeepUp lo A B){a:Nat}{g j f d:Int}(ha:lo<=a)(k:counted A a g j f d):counted B a g j f d:=by
 have e:=h.same a ha (OD k);have c:∀i,B.cell? (Ad a i)=A.cell? (Ad a i):=λi=>AE (w:=A) (a:=(Ad a i)) e;have b:∀i,B.frozen? (Ad a i)=A.frozen? (Ad a i):=λi=>EF (w:=A) (a:=(Ad a i)) e;unfold Go.Proofs.YtkcpjanmemdjlaaGreatDoor.counted;rw[c,c,c,c,b,b,b,b];exact k
theorem KeepUp.cell{lo:Nat}{A B:World}(h:KeepUp lo A B){a i:Nat}{v:Value}(ha:lo<=a)(b:A.cell? (Ad a i)=some v):B.cell? (Ad a i)=some v:=by
 have c:=h.same a ha (Ca A _ b);exact(AE (w:=A) (a:=(Ad a i)) c).trans b
def Qp (pre:List (Nat×Nat)) (p:Nat×Nat):Array Value :=
 #[Ia (sum1 pre) (sum2 pre) pre.length (sum4 pre),Ia p.2 (cH p.1) 1 (cL p.1)]
attribute [local go_sem] Oper.semAt_some
theorem gV(l:Nat)(c h lo:Nat)(h0:lo<=c)(D:lo<=h)(hne:c≠h)(r:Nat)(n z B Y P:Int)(w:World)(W:lo<=w.heap.size)(N:counted w h z B Y P)(K:w.cell? ⟨c,0,none⟩=some (.func (.yield l) #[] #[]))
    (R1 R0:World->Prop)
    (U:∀A,Bw w A->YieldAt Fence.wide 0 prog l #[Ia z B Y P,Ia n (cH r) 1 (cL r)] A λe b =>
      (e=.returned (.bool true)/\R1 b/\KeepUp lo A b)\/(e=.returned (.bool false)/\R0 b/\KeepUp lo A b)) :
    Cg 151 #[.int .i32 r,.int .i64 n,.pointer (some ⟨c,0,none⟩),.pointer (some ⟨h,0,none⟩)] w λe w' =>
     (e = .returned (.bool true)/\counted w' h (wrap64 (z+n)) (wrap64 (B+cH r)) (wrap64 (Y+1)) (wrap64 (P+cL r))/\w'.cell? ⟨c,0,none⟩=some (.func (.yield l) #[] #[]) /\
       ∃b,R1 b/\Below lo b w')\/(e=.returned (.bool false)/\R0 w'):=by
 have t:=OD N;have i:c<w.heap.size:=Ca w _ K;have Z:=Aa N;have C:=λ(w:World)=>ZZ r n w;generalize cH r=x2 at *;generalize cL r=x4 at *;generalize (r:Int)=R at C ⊢;unfold Ia at U;refine(callsIn_wide (n:=1)).1 ?_;refine callsIn_of_wp func151 rfl trivial ?_ rfl;simp only[ntmps151,EL,AJ,AR,Nat.reduceAdd,Nat.reduceSub,Array.replicate_succ,FD,FP,ET,BA,BR]
 gi_wp2_with (refine⟨trivial,?_⟩;gi_at_call 97;refine(callsIn_wide.2 (C _)).mono ?_;rintro e y ⟨rfl,f⟩;have a:Bw w (y.alloc (.cells #[.int .i64 n,.int .i64 x2,.int .i64 1,.int .i64 x4] 118)):=f.alloc f.size _;have I:=JR Z.out a t;have HB:=Aa a;obtain⟨⟨a0,a1,a2,a3⟩,b0',X,H,L⟩:=I;have v:=(a.cell (p:=⟨c,0,none⟩) i).trans K;obtain⟨fn,tmps,assign,body,S,u⟩:=U _ a;clear a)
 refine u.mono ?_;rintro e b (⟨rfl,F,x⟩|⟨rfl,J,x⟩)
 . have m:=x.counted D (JR Z.out HB.out t)
   have k:counted (y.alloc (.cells #[.int .i64 n,.int .i64 x2,.int .i64 1,.int .i64 x4] 118)) y.heap.size n x2 1 x4:=by
    refine⟨⟨?_,?_,?_,?_⟩,?_,?_,?_,?_⟩<;>simp[go_sem]
   have Q:=x.counted (AF W f.size) k;have g:=x.cell h0 v;have d:=Aa m;have q:=Aa g;obtain⟨⟨c0,c1,c2,c3⟩,d0,d1,d2,d3⟩:=m;obtain⟨⟨e0,e1,e2,e3⟩,f0,f1,f2,f3⟩:=Q;have E:h<b.heap.size:=OD d.out;have o:c<b.heap.size:=Ca b _ g;clear a0 a1 a2 a3 b0' X H L v S u K Z N C U k g
   gi_wp2_with (refine⟨trivial,?_⟩;gi_at_call 96;refine(callsIn_wide.2 (T3 _ _ _ _ _ _ _ _ _)).mono ?_;rintro e w2 ⟨rfl,a⟩;have j:=Hp d.out a;have G:=Aa j;obtain⟨⟨g0,g1,g2,g3⟩,k0,k1,k2,k3⟩:=j;have s:=Aa a;clear a)
   have O:w2.cell? ⟨c,0,none⟩=some (.func (.yield l) #[] #[]):=(s.out.cell (p:=⟨c,0,none⟩) o).trans q.out;go_ret;exact .inl ⟨rfl,QI G.out,by simp[go_sem,O],b,F,R5 (s.out.mono (CW (DV D E))) D _ _ _ _⟩
 . gi_wp2
   go_ret;exact .inr ⟨rfl,J⟩
theorem iI(l:Nat)(h m lo:Nat)(P:lo<=h)(D:lo<=m)(C:h≠m)(y:World)(r:List (Nat×Nat))(X:r.length<1000000000)(k:∀p∈r,p.2<=4)(J s:List (Nat×Nat)->World->Prop)
    (N:∀b A,J b A->Bw y A) (z:∀b A,s b A->Bw y A) (v:∀b A B,J b A->Below lo A B->J b B)
    (O:∀b x A,J b A->(∃rest,r=b++[x]++rest)->YieldAt Fence.wide 0 prog l (Qp b x) A λe j =>
      (e=.returned (.bool true)/\J (b++[x]) j/\KeepUp lo A j)\/(e=.returned (.bool false)/\s (b++[x]) j/\KeepUp lo A j)) :
    JZ y 151 #[Pd h 0,Pd m 0] r
     (λa w=>J a w/\lo<=w.heap.size/\counted w m (sum1 a) (sum2 a) (a.length:Int) (sum4 a)/\w.cell? (Ad h 0)=some (.func (.yield l) #[] #[]))
     (λa w=>s a w) where
 enters:=enters_of func151 (by kernel_rfl) rfl
 stays:=λa w w' f g=>⟨v _ _ _ f.1 (g.mono f.2.1),AF f.2.1 g.size,Hp f.2.2.1 g,(zC g h 0 (Ca w _ f.2.2.2)).trans f.2.2.2⟩
 step := λa p rest e w f hw=>by
  obtain⟨H,n,I,G⟩:=f;have i:=congrArg List.length e;rw[AA]at i;have Z:=Tm a λq S=>k q (by rw[e];simp[S]);have W:=Rh a;have Y:=Ri a;have hp:=k p (by rw[e];simp);have K:=QY p.1;have F:=QZ p.1;refine(gV l h m lo P D C p.1 p.2 _ _ _ _ w n I G (J (a++[p])) (s (a++[p])) λA g=>O a p A (v _ _ _ H (g.mono n)) ⟨rest,by rw[e];simp⟩).mono ?_;rintro U w' (⟨rfl,c,t,j,d,u⟩|⟨rfl,d⟩)
  . rw[E0 (by omega) (by omega),E0 (by omega) (by omega),E0 (by omega) (by omega),E0 (by omega) (by omega)]at c
    have R:sum1 (a++[p])=sum1 a+p.2:=by simp[sum1]
    have E:sum2 (a++[p])=sum2 a+cH p.1:=by simp[sum2]
    have L:(((a++[p]).length:Nat):Int)=a.length+1:=by simp
    have Q:sum4 (a++[p])=sum4 a+cL p.1:=by simp[sum4]
    have o:=v _ _ _ d u;refine⟨N _ _ o,.inl ⟨rfl,o,AF D (CW (OD c)),?_,t⟩⟩;rw[R,E,L,Q];exact c
  . exact⟨z _ _ d,.inr ⟨rfl,d⟩⟩
theorem kP(l:Nat)(w:World):(binOp .eql 250 (.func (.yield l) #[] #[]) .nilFunc).run prog w=.ok (.bool false) w:=by kernel_rfl
theorem dU(s:ByteArray)(y:s.size<400000000)(h:World)(A:Lib.Utf8Tabs 1 2 h)(j:Nat)(W:World)(d:W.cell? (Ad j 0)=some (.string s)) :
    Q4 prog 150 #[Pd j 0] Qp (Below W.heap.size) (KeepUp W.heap.size) (Below h.heap.size h)
     (λu=>u=(scan s.data.toList).1) (λg=>∃rest,(scan s.data.toList).1=g++rest) W:=by
 intro l J C n m k z p b;have c:=Oh s.data.toList;rw[←CZ]at c;have t:=n _ _ b;have i:=Ca W _ d
 have a:Bw W ((W.alloc (Oc #[.func (.yield l) #[] #[]] 250)).alloc (Oc #[I6 0,I6 0,I6 0,I6 0] 118)) :=
  ((A9 _ W).alloc (Ai _) _).alloc (by rw[Bb];exact BX _) _
 have B:=fG s (by unfold maxLen;omega) 151 #[Pd W.heap.size 0,.pointer (some (Ad (W.heap.size+1) 0))] h A _ _
  (iI l W.heap.size (W.heap.size+1) W.heap.size (Ai _) (BX _) (by omega) h (scan s.data.toList).1 (by omega) (VZ _) J C n m k p) _ (n _ _ (k _ _ _ b a))
  ⟨k _ _ _ b a,a.size,(by refine⟨⟨?_,?_,?_,?_⟩,?_,?_,?_,?_⟩<;>simp[go_sem,sum1,sum2,sum4]),(by simp[go_sem])⟩
 have r:=(zC ((A9 _ W).alloc (Ai _) (Oc #[.func (.yield l) #[] #[]] 250)) j 0 i).trans d;have x:=(zC a j 0 i).trans d;clear a p b t c y;have o:∀w,(binOp .eql 250 (.func (.yield l) #[] #[]) .nilFunc).run prog w=.ok (.bool false) w:=λw=>kP l w;refine callsIn_wide.2 ?_;simp only[ET,BR,BA]
 go_enter func150,ntmps150
 go_wp2_with (go_at_call 94;refine B.mono ?_;rintro e E ⟨⟨v,rfl⟩,q,⟨f,_⟩|⟨g,rest,D,f⟩⟩)
 . go_end0
   exact⟨⟨_,rfl⟩,.inl ⟨_,rfl,f⟩⟩
 . go_end0
   exact⟨⟨_,rfl⟩,.inr ⟨g,⟨rest,D⟩,f⟩⟩
end
section
def Nj (rs:List Nat) (i:Nat):Int:=(encs (rs.take i)).length
def PT (rs:List Nat) (i:Nat):Int:=(Fo (rs.take i)).length
def PU (rs:List Nat) (i:Nat):Int:=Lib.countByte (encs (rs.take i)) 10
def Hi (rs:List Nat) (i:Nat):List Value:=[I6 (Nj rs i),I6 (PT rs i),I6 i,I6 (PU rs i)]
def I7 (rs:List Nat) (m:Nat):List Value:=(List.range m).flatMap (Hi rs)
theorem UC(a:List Nat)(m:Nat):I7 a (m+1)=I7 a m++Hi a m:=by simp[I7,List.range_succ]
theorem M9:(prog.info? 118).map (λi=>(i.zero,i.size,i.bytes))=some (some (.agg #[I6 0,I6 0,I6 0,I6 0]),4,32):=by kernel_rfl
theorem kJ(s:ByteArray)(k:Nat):(s.extract 0 k).data.toList=s.data.toList.take k:=by
 rw[GD,DE,GM]
theorem fF(s:ByteArray)(o:s.size<100000000)(a:List Nat)(n:encs a=s.data.toList)(m:∀r∈a,Df r)(i:Nat)(k:i<=a.length)(w:World) :
    Cg 65 #[.string (s.extract 0 (encs (a.take i)).length)] w (Rt w (.tuple #[.agg #[I6 (Nj a i),I6 (PT a i),I6 i,I6 (PU a i)],.agg #[I6 0,I6 (-1)]])):=by
 have f:(s.extract 0 (encs (a.take i)).length).data.toList=encs (a.take i):=by
  rw[kJ,←n];have e:encs a=encs (a.take i)++encs (a.drop i):=by rw[←Mk,AW]
  rw[e,List.take_left]
 have d:∀r∈a.take i,Df r:=λr h=>m r (BZ h);have b:=MN (a.take i) d;have c:Ch (encs (a.take i))=a.take i:=by
  unfold Ch;rw[b];simp[wide,EW,FZ]
 have j:(s.extract 0 (encs (a.take i)).length).size=(encs (a.take i)).length:=by rw[CZ,f]
 have g:(s.extract 0 (encs (a.take i)).length).size<100000000:=by rw[FK];omega
 refine(Vf _ g w (by rw[f,b])).mono ?_;rintro e w' ⟨l,rfl⟩;refine⟨?_,l⟩;rw[j,f,c,AO,FA k];rfl
theorem kA(s:ByteArray)(hs:s.size<100000000)(w:World)(G:(scan s.data.toList).2=true) :
    Cg 117 #[.string s] w λe w'=>∃v,e=.returned v/\w'.ownsRow w.heap.size 118 4 v ((Ch s.data.toList).length+1) (I7 (Ch s.data.toList) ((Ch s.data.toList).length+1))/\Bw w w':=by
 have C:∀r∈Ch s.data.toList,Df r:=λr h=>NV h;have he:=MP G;have hrl:(Ch s.data.toList).length<100000000:=by
  have:=Oh s.data.toList;rw[←CZ]at this;unfold Ch;rw[BS];omega
 have cR:∀w,Cg 100 #[.string s] w λe w'=>Bw w w'/\∃p c,e=.returned (.tuple #[.slice p (Ch s.data.toList).length c,.agg #[I6 0,I6 (-1)]])/\reads w' .i32 (.slice p (Ch s.data.toList).length c) (E6 (Ch s.data.toList)):=λw=>by
  refine(SH s hs w).mono ?_;rintro e w' ⟨hb,⟨_,v,rfl,p,c,rfl,a⟩|⟨h,_⟩⟩
  . have e1:Gw (scan s.data.toList).1=(E6 (Ch s.data.toList)).map (Value.int .i32):=by rw[X7,ZP]
    have e2:(Gw (scan s.data.toList).1).length=(E6 (Ch s.data.toList)).length:=by rw[e1,BS]
    have e3:(E6 (Ch s.data.toList)).length=(Ch s.data.toList).length:=by simp[E6]
    rw[e2]at a;rw[e2,←e3];exact⟨hb,p,c,rfl,Xz e1 a⟩
  . rw[G]at h;cases h
 clear G;generalize Ch s.data.toList=rs at *;have I:∀i,(encs (rs.take i)).length<=s.size:=λi=>by
  have e:encs rs=encs (rs.take i)++encs (rs.drop i):=by rw[←Mk,AW]
  have:=congrArg List.length (he.symm.trans e);rw[AA,←CZ]at this;omega
 have HC:Hid (∀i,i<=rs.length->∀w,_):=λi hi w=>fF s hs rs he C i hi w;have HEL:=Aa I;have HRU:=Aa C;obtain⟨n,hn⟩:∃n,n=rs.length:=⟨_,rfl⟩;rw[←hn]at cR hrl ⊢;have HN:=Aa hn;clear C hn he I;obtain⟨i0,hi,S,Q,Y⟩:=info_parts M9
 go_enter func117,ntmps117
 go_wp2_with (go_at_call 100;refine(cR _).mono ?_;rintro e q ⟨H,p,c,rfl,x⟩;have HRD:=Aa x;clear x)
 go_loopw [5,6,20] (λb t i wr=>∃(k:Nat),k<=n/\i=.int .i64 k/\t=.int .i64 (Nj rs k)/\wr.ownsRow q.heap.size 118 4 b (k+1) (I7 rs (k+1))/\Bw q wr) (λ_ _ i _=>n - (intOf i).toNat)
 case atStart =>
  refine⟨0,AV _,rfl,rfl,⟨by simp[I7,Hi],.inr ⟨q.heap.size+1,1,#[I6 0,I6 0,I6 0,I6 0],rfl,BX _,by rw[←AN q _];exact FC (q.alloc _) _,Ai _,by unfold maxLen;omega,rfl,rfl⟩⟩,((A9 _ q).alloc (Ai _) _).alloc (by rw[Bb];exact BX _) _⟩
 case round =>
  obtain⟨k,hk,rfl,rfl,a,y⟩:=hrel
  by_cases hlt:k<n
  . have d:k<rs.length:=by rw[←HN.out];exact hlt
    have x:=ZE HRD.out y (Ai _);obtain⟨p',c',J,a1,a2,a3⟩:=x;have N:E6 rs≠[]:=by
     intro e;have:=congrArg List.length e;simp[E6]at this;rw[this]at d;exact absurd d (AP _)
    obtain⟨b,o,hp,hbw,m⟩:=a3 N;have B:(E6 rs).length=rs.length:=by simp[E6]
    have hc:=m k (by rw[B];exact d);have R:(E6 rs).getD k 0=(rs[k]:Int):=by
     rw[EK,E6,BD,B7 d];rfl
    rw[R]at hc;obtain⟨hp1,hp2,hp3⟩:=Value.slice.inj J;clear hp2;subst hp3;subst hp1;subst hp;have hr:=HRU.out rs[k] (BE _);have W:rs.take (k+1)=rs.take k++[rs[k]]:=AD d;have Z:(encs (rs.take (k+1))).length=(encs (rs.take k)).length+(⟨(enc rs[k]).toArray⟩:ByteArray).size:=by
     rw[W,Mk,AA,CZ];simp[encs]
    have hE:(encs (rs.take (k+1))).length<=s.size:=HEL.out (k+1);have cB:=Qm rs[k] hr;have cC:=HC.out (k+1) d;have A:I7 rs (k+1+1)=I7 rs (k+1)++Hi rs (k+1):=UC rs (k+1);unfold Hi at A;have U:Hid (Nj rs (k+1)=((encs (rs.take (k+1))).length:Int)):=rfl;have L:Nj rs k=((encs (rs.take k)).length:Int):=rfl;rw[U.out]at cC A;rw[L];clear L a1 a2 a3 m N R W hr B J;generalize (⟨(enc rs[k]).toArray⟩:ByteArray)=u at cB Z;generalize (rs[k]:Int)=z at cB hc;clear d;generalize (encs (rs.take (k+1))).length=N1 at *;generalize (encs (rs.take k)).length=N0 at *;generalize PT rs (k+1)=A2 at *;generalize PU rs (k+1)=A4 at *;have hE2:N0+u.size<=s.size:=by omega
    have P:∀w,Cg 65 #[.string (s.extract 0 (N0+u.size))] w (Rt w (.tuple #[.agg #[I6 (N1:Int),I6 A2,I6 ((k+1:Nat):Int),I6 A4],.agg #[I6 0,I6 (-1)]])):=by
     rw[←Z];exact cC
    have H1:=Aa Z;clear cC Z hE;have O:=y.size
    have NX:Hid (∀w0 D X o,Bw wr w0->D.ownsRow q.heap.size 118 4 X (k+1+1) (I7 rs (k+1)++[I6 N1,I6 A2,I6 ((k+1:Nat):Int),I6 A4])->(w0.alloc o).grownBy D (u5).ownBlock ->
        D.ownsRow q.heap.size 118 4 X (k+1+1) (I7 rs (k+1+1))/\Bw q D):=by
     intro w0 D X o E h3 hg;have hB:Below q.heap.size wr D:=((E.mono O).alloc (AF O E.size) o).grown hg (by rw[Bb];have:=E.size;omega) λk hk=>(a.lt k hk).1;exact⟨by rw[A];exact h3,y.trans hB⟩
    obtain⟨pb,cb,rfl⟩:=Bm a;clear A;generalize I7 rs (k+1)=xs at a NX
    go_wp2_with (first | (go_at_call 158;refine(cB _).mono ?_;rintro e D ⟨rfl,F⟩) | (go_at_call 65;refine(P _).mono ?_;rintro e w3 ⟨rfl,K⟩;have g:Bw wr w3:=F.trans (K.mono F.size)) | (at_builtin;refine wpList_append_own _ rfl _ _ 203 rfl q.heap.size 118 i0 (.agg #[I6 0,I6 0,I6 0,I6 0]) 4 32 underlying203 hi S Q Y rfl (by decide) _ (k+1) xs rfl ((((Fe a g).alloc _).alloc _).alloc _) _ 1 1 [I6 N1,I6 A2,I6 ((k:Int)+1),I6 A4] rfl rfl ?c1 ?c2 ?c3 ?c4 ?c5 ?_))
    case c1 =>
     intro j u l
     match j,l with
     | 0,l=>simp at l;subst l;simp[Addr.add,go_sem]
     | 1,l=>simp at l;subst l;simp[Addr.add,go_sem]
     | 2,l=>simp at l;subst l;simp[Addr.add,go_sem]
     | 3,l=>simp at l;subst l;simp[Addr.add,go_sem]
    case c2=>simp[Value.oneCell']
    case c3=>unfold maxLen;omega
    case c4=>omega
    case c5 =>
     have:=g.size;simp;omega
    intro X w4 f hg _;have hR:=NX.out ((w3.alloc _).alloc _) w4 X _ (g.alloc g.size _ |>.alloc (by rw[Bb];have:=g.size;omega) _) f hg;obtain⟨R1,R2⟩:=hR;obtain⟨p9,c9,hv⟩:=Bm f;clear f hg a hi S Q Y hc cB P g F K;rw[hv]at R1 ⊢;go_wp2
    go_roundw
    case rel=>exact⟨k+1,by omega,by go_num,by rw[U.out,H1.out];go_num,R1,R2⟩
    case measure=>simp[intOf];omega
  . have hkn:k=n:=by omega
    subst hkn;obtain⟨pb,cb,rfl⟩:=Bm a;have HO:=Aa a;clear a;go_wp2;go_ret;exact⟨_,rfl,J8 HO.out H.size,H.trans (y.mono H.size)⟩
variable {w : World}{B : Nat}
theorem Uo(a:List Nat)(m:Nat):(I7 a m).length=m*4:=by
 induction m with
 | zero=>rfl
 | succ m ih=>rw[UC,AA,ih];simp[Hi];omega
theorem dB(a:List Nat)(m i j:Nat)(b:i<m)(c:j<4):(I7 a m)[i*4+j]?=(Hi a i)[j]?:=by
 induction m with
 | zero=>omega
 | succ m ih =>
  rw[UC]
  by_cases h:i<m
  . rw[AX (by rw[Uo];omega)]
    exact ih h
  . have:i=m:=by omega
    subst this;rw[AL (by rw[Uo];omega),Uo]
    congr 1
    omega
theorem RJ{m g c:Nat}{e:List Nat}(h:w.ownsRow B 118 4 (Sl g m c) m (I7 e m))(i j:Nat)(k:i<m)(q:j<4){v:Value}(p:(Hi e i)[j]?=some v) :
    w.cell? (Ad g (i*4+j))=some v:=by
 obtain⟨y,a⟩:=h
 rcases a with ⟨f,s⟩|⟨x,o,d,f,s,l,t,z,u,n⟩
 . omega
 . cases f
   have b:i*4+j<m*4:=by omega
   have r:d[i*4+j]?=some v:=by
    rw[←CE];have:=congrArg (·[i*4+j]?) n;simp only[DU,b,if_true]at this;rw[this,dB e m i j k q,p]
   unfold World.cell?;simp[l,r]
theorem K7{e size n:Nat}{v:Value}{j:List Value}(h:w.ownsRow B e size v n j)(k:0<n):∃g c,v=Sl g n c/\B<=g/\g<w.heap.size:=by
 rcases h.2 with ⟨_,b⟩|⟨g,a,f,i,b,d,_⟩
 . omega
 . exact⟨g,a,i,b,(As d)⟩
end
section
attribute [local go_sem] Oper.semAt_some Dz Dl
theorem aW(s:ByteArray)(w:World):Cg 106 #[.string s] w λe w'=>e=.returned (.func (.func 150) #[] #[Pd w.heap.size 0])/\w'=w.alloc (Oc #[.string s] 9):=by
 go_enter func106,ntmps106
 go_wp2;go_ret;exact⟨rfl,rfl⟩
def D5 (rs:List Nat):Value:=.agg #[I6 (C1 rs),I6 (C2 rs),I6 (C3 rs),I6 (C4 rs)]
def M0 (f:List Nat->Bool):List Nat->List Nat->Option (List Nat)
 | _,[]=>none
 | pre,r :: rs=>if f (pre++[r]) then some (pre++[r]) else M0 f (pre++[r]) rs
theorem bG(a b:List Nat)(c:C1 (a++b)<=200000000)(w:World):Cg 96 #[D5 a,D5 b] w (Rt w (D5 (a++b))):=by
 have h:=T3 (C1 a) (C2 a) (C3 a) (C4 a) (C1 b) (C2 b) (C3 b) (C4 b) w;rw[Ok]at c;have g:=Nl a;have j:=Kk a;have i:=MV a;have e:=Nl b;have f:=Kk b;have d:=MV b;rw[E0 (by omega) (by omega),E0 (by omega) (by omega),E0 (by omega) (by omega),E0 (by omega) (by omega),←Ok,←Xb,←Xc,←dZ]at h;exact h
theorem kL(a:List Nat)(r:Nat):Qp (wide a) (r,(enc r).length)=#[D5 a,D5 [r]]:=by
 simp[Qp,Ia,D5,C1,C2,C3,C4,wide,sum1,sum2,sum4]
theorem VC(a b c d:Int)(w:World):(Instr.field 118 (.agg #[I6 a,I6 b,I6 c,I6 d]) 0).run prog w=.ok (I6 a) w:=by kernel_rfl
theorem VD(a b c d:Int)(w:World):(Instr.field 118 (.agg #[I6 a,I6 b,I6 c,I6 d]) 3).run prog w=.ok (I6 d) w:=by kernel_rfl
attribute [local go_sem] VC VD
end
section
attribute [local go_sem] Oper.semAt_some Dz Dl
def find (f:List Nat->Bool) (pre rs:List Nat):List Nat:=if f pre then pre else (M0 f pre rs).getD (pre++rs)
end
section
attribute [local go_sem] Oper.semAt_some Dz Dl VC VD
def by_ (u:Int) (rs:List Nat):Int:=if u=1 then C1 rs else if u=2 then C2 rs else if u=3 then C3 rs else 0
theorem IB(u:Int)(a b:List Nat):by_ u (a++b)=by_ u a+by_ u b:=by
 unfold by_
 split
 . exact Ok a b
 . split
   . exact Xb a b
   . split
     . exact Xc a b
     . rfl
theorem Jj(u:Int)(a:List Nat):0<=by_ u a:=by
 unfold by_
 split
 . exact Np a
 . split
   . exact(Nl a).1
   . split
     . exact(Kk a).1
     . omega
theorem PW(u:Int)(b:List Nat)(w:World):Cg 69 #[D5 b,I6 u] w (Rt w (I6 (by_ u b))):=by
 have a:Bw w (w.alloc (Oc #[I6 (C1 b),I6 (C2 b),I6 (C3 b),I6 (C4 b)] 118)):=zA _ _;unfold D5 by_
 by_cases d:u=1
 . subst d
   go_enter func69,ntmps69
   go_wp2;go_ret;exact⟨rfl,a⟩
 . have f:(u==1)=false:=beq_eq_false_iff_ne.2 d
   rw[if_neg d]
   by_cases e:u=2
   . subst e
     go_enter func69,ntmps69
     go_wp2;go_ret;exact⟨rfl,a⟩
   . have h:(u==2)=false:=beq_eq_false_iff_ne.2 e
     rw[if_neg e]
     by_cases c:u=3
     . subst c
       go_enter func69,ntmps69
       go_wp2;go_ret;exact⟨rfl,a⟩
     . have g:(u==3)=false:=beq_eq_false_iff_ne.2 c
       rw[if_neg c];clear d e c
       go_enter func69,ntmps69
       go_wp2;go_ret;exact⟨rfl,a⟩
def ND (u at_:Int) (rs:List Nat):Bool:=decide (at_<=by_ u rs)
end
section
attribute [local go_sem] Oper.semAt_some
theorem dE(u:Int)(a:List Nat):find (ND u 0) [] a=[]:=by
 unfold find;have:ND u 0 []=true:=decide_eq_true (Jj u []);rw[if_pos this]
theorem PX(u:Int):by_ u []=0:=by
 unfold by_
 split
 . rfl
 . split
   . rfl
   . split<;>rfl
end
structure Pt where
 keep:Int
 drop:Int
 put:List UInt8
deriving DecidableEq
structure Av where
 out:List Pt
 put:List UInt8
 drop:Int
deriving DecidableEq
def Aq (s:Av):List Pt:=s.out++((if s.put=[] then [] else [⟨0,0,s.put⟩])++(if s.drop=0 then [] else [⟨0,s.drop,[]⟩]))
def Ke (l:List Pt):Bool:=match l.getLast? with
 | some p=>decide (0<p.keep)
 | none=>false
def F8 (l:List Pt) (k:Int):List Pt:=match l.getLast? with
 | some p=>if 0<p.keep then l.dropLast++[⟨p.keep+k,p.drop,p.put⟩] else l++[⟨k,0,[]⟩]
 | none=>l++[⟨k,0,[]⟩]
def Af (s:Av) (p:Pt):Av:=if p.keep=0 then ⟨s.out,s.put++p.put,s.drop+p.drop⟩ else ⟨F8 (Aq ⟨s.out,s.put++p.put,s.drop+p.drop⟩) p.keep,[],0⟩
def A7:Av:=⟨[],[],0⟩
def Ag (op:List Pt):List Pt:=Aq (op.foldl Af A7)
theorem kR(l:List Pt)(a b:Int)(ha:0<a):F8 (F8 l a) b=F8 l (a+b):=by
 unfold F8
 cases h:l.getLast? with
 | none=>simp[ha]
 | some p =>
  by_cases c:0<p.keep
  . have d:0<p.keep+a:=by omega
    simp[c,d,GL]
  . simp[c,ha]
theorem Sm(l:List Pt):Aq ⟨l,[],0⟩=l:=by simp[Aq]
theorem IL(s:Av):Af s ⟨0,0,[]⟩=s:=by simp[Af]
theorem gz(s:Av)(k d:Int)(q:List UInt8):Af s ⟨k,d,q⟩=Af (Af (Af s ⟨0,0,q⟩) ⟨0,d,[]⟩) ⟨k,0,[]⟩:=by
 by_cases h:k=0
 . subst h;simp[Af]
 . simp[Af,h]
theorem Qs(s:Av)(a b:Int):Af (Af s ⟨0,a,[]⟩) ⟨0,b,[]⟩=Af s ⟨0,a+b,[]⟩:=by simp[Af,GL]
theorem R4(s:Av)(a b:List UInt8):Af (Af s ⟨0,0,a⟩) ⟨0,0,b⟩=Af s ⟨0,0,a++b⟩:=by simp[Af]
theorem R7(s:Av)(a b:Int)(ha:0<a)(e:0<=b):Af (Af s ⟨a,0,[]⟩) ⟨b,0,[]⟩=Af s ⟨a+b,0,[]⟩:=by
 have c:a≠0:=by omega
 have d:a+b≠0:=by omega
 by_cases h:b=0
 . subst h;simp[Af,c]
 . simp[Af,h,c,d,Sm,kR _ a b ha]
def II (d:Bool):Pt:=if d then ⟨0,1,[]⟩ else ⟨1,0,[]⟩
abbrev Dj:=List (List UInt8×Bool)×List UInt8
def Du (d:Bool) (g:Dj):Dj:=(g.1++[(g.2,d)],[])
def D6 (d:Bool):Nat->Dj->Dj
 | 0,g=>g
 | n+1,g=>D6 d n (Du d g)
def F0 (g:Dj) (p:Pt):Dj:=D6 false p.keep.toNat (D6 true p.drop.toNat (g.1,g.2++p.put))
def Bk (op:List Pt):Dj:=op.foldl F0 ([],[])
theorem NI(d:Bool):∀(n:Nat)(g:Dj),(D6 d n g).1.length=g.1.length+n
 | 0,_=>rfl
 | n+1,g=>by rw[D6,NI d n,Du,AA,DN];omega
theorem UK(d:Bool):∀(n:Nat)(g:Dj),D6 d (n+1) g=Du d (D6 d n g)
 | 0,_=>rfl
 | n+1,g=>by rw[D6,UK d n,D6]
def Ab (p:Pt):Int:=p.keep+p.drop
theorem jk(g:Dj)(p:Pt)(b:0<=p.keep)(a:0<=p.drop):((F0 g p).1.length:Int)=g.1.length+Ab p:=by
 unfold F0 Ab;rw[NI,NI];show((g.1.length+_+_:Nat):Int)=_;omega
def Mx (s:Av) (x:List UInt8×Bool):Av:=Af (Af s ⟨0,0,x.1⟩) (II x.2)
def Fg (g:Dj):Av:=Af (g.1.foldl Mx A7) ⟨0,0,g.2⟩
theorem XZ(d:Bool)(g:Dj):Fg (Du d g)=Af (Fg g) (II d):=by
 unfold Fg Du;rw[BJ];show Af (Mx _ _) ⟨0,0,[]⟩=_;rw[IL];rfl
theorem Zt:∀(n:Nat)(g:Dj),Fg (D6 true n g)=Af (Fg g) ⟨0,n,[]⟩
 | 0,g=>(IL _).symm
 | n+1,g=>by
  rw[D6,Zt n,XZ];show Af (Af _ ⟨0,1,[]⟩) _=_;rw[Qs]
  congr 2
  omega
theorem Zu:∀(n:Nat)(g:Dj),Fg (D6 false n g)=Af (Fg g) ⟨n,0,[]⟩
 | 0,g=>(IL _).symm
 | n+1,g=>by
  rw[D6,Zu n,XZ];show Af (Af _ ⟨1,0,[]⟩) _=_;rw[R7 _ _ _ (by omega) (by omega)]
  congr 2
  omega
theorem jX(g:Dj)(p:Pt)(b:0<=p.keep)(a:0<=p.drop):Fg (F0 g p)=Af (Fg g) p:=by
 obtain⟨k,d,q⟩:=p;unfold F0;rw[Zu,Zt];have:Fg (g.1,g.2++q)=Af (Fg g) ⟨0,0,q⟩:=by unfold Fg;rw[R4]
 rw[this,gz _ k d q];show Af (Af _ ⟨0,(d.toNat:Int),[]⟩) ⟨(k.toNat:Int),0,[]⟩=_;rw[FX b,FX a]
theorem kH(a:List Pt)(h:∀p∈a,0<=p.keep/\0<=p.drop):Fg (Bk a)=a.foldl Af A7:=by
 have b:∀(l:List Pt) (g:Dj),(∀p∈l,0<=p.keep/\0<=p.drop)->Fg (l.foldl F0 g)=l.foldl Af (Fg g):=by
  intro l
  induction l with
  | nil=>intros;rfl
  | cons p l ih =>
   intro g h;rw[BT,BT,ih _ λx c=>h x (DS _ c),jX g p (h p (EO ..)).1 (h p (EO ..)).2]
 exact b a _ h
structure IG where
 out:List Pt
 put:List UInt8
 drop:Int
 keep:Int
deriving DecidableEq
def Cs:IG:=⟨[],[],0,0⟩
def Es (s:IG) (q:List UInt8) (d:Bool):IG:=if q≠[]\/d=true then ⟨if 0<s.keep then s.out++[⟨s.keep,0,[]⟩] else s.out,s.put++q,s.drop,if 0<s.keep then 0 else s.keep⟩ else s
def F5 (s:IG) (d:Bool):IG:=if d then ⟨s.out,s.put,s.drop+1,s.keep⟩ else ⟨Aq ⟨s.out,s.put,s.drop⟩,[],0,s.keep+1⟩
def Gt (s:IG) (x:List UInt8×Bool):IG:=F5 (Es s x.1 x.2) x.2
def Is (s:IG):List Pt:=Aq ⟨if 0<s.keep then s.out++[⟨s.keep,0,[]⟩] else s.out,s.put,s.drop⟩
def JA (g:Dj):List Pt:=Is (Es (g.1.foldl Gt Cs) g.2 false)
def IF (s:IG):Av:=if 0<s.keep then ⟨s.out++[⟨s.keep,0,[]⟩],[],0⟩ else ⟨s.out,s.put,s.drop⟩
structure Jd (s:IG):Prop where
 k0:0<=s.keep
 d0:0<=s.drop
 quiet:0<s.keep->s.put=[]/\s.drop=0/\Ke s.out=false
 last:s.keep=0->Ke (Aq ⟨s.out,s.put,s.drop⟩)=false
theorem aa(l:List Pt)(k:Int)(h:Ke l=false):F8 l k=l++[⟨k,0,[]⟩]:=by
 unfold Ke at h;unfold F8
 cases hl:l.getLast? with
 | none=>rfl
 | some p=>simp only[hl,decide_eq_false_iff_not]at h;simp[h]
theorem kS(l:List Pt)(a k:Int)(h:0<a):F8 (l++[⟨a,0,[]⟩]) k=l++[⟨a+k,0,[]⟩]:=by simp[F8,h]
theorem aQ(l:List Pt)(q:List UInt8)(d:Int)(h:q≠[]\/d≠0):Ke (Aq ⟨l,q,d⟩)=false:=by
 unfold Aq
 by_cases b:d=0
 . have a:q≠[]:=by rcases h with h|h;exact h;exact absurd b h
   simp[b,a,Ke]
 . by_cases a:q=[]
   . simp[b,a,Ke]
   . simp[b,a,Ke]
theorem UJ(s:IG)(h:Jd s)(q:List UInt8)(d:Bool):IF (Es s q d)=Af (IF s) ⟨0,0,q⟩/\(q≠[]\/d=true->(Es s q d).keep=0)/\(¬(q≠[]\/d=true)->Es s q d=s)/\0<=(Es s q d).drop:=by
 unfold Es;have i:=h.k0;have a:=h.d0
 by_cases b:q≠[]\/d=true
 . rw [if_pos b]
   refine⟨?_,?_,λh=>absurd b h,?_⟩
   . by_cases c:0<s.keep
     . obtain⟨g,f,_⟩:=h.quiet c
       simp[c,IF,Af,g,f]
     . have:s.keep=0:=by omega
       simp[this,IF,Af]
   . intro _
     by_cases c:0<s.keep
     . simp[c]
     . have:s.keep=0:=by omega
       simp[this]
   . exact a
 . rw [if_neg b]
   have e:q=[]:=by
    by_cases e:q=[]
    . exact e
    . exact absurd (.inl e) b
   subst e;exact⟨by simp[Af],λh=>absurd h b,λ_=>rfl,a⟩
theorem bV(s:IG)(h:Jd s)(x:List UInt8×Bool):IF (Gt s x)=Mx (IF s) x/\Jd (Gt s x):=by
 obtain⟨q,d⟩:=x;obtain⟨k,j,l,n⟩:=UJ s h q d;unfold Mx Gt;show IF (F5 (Es s q d) d)=Af (Af (IF s) ⟨0,0,q⟩) (II d)/\Jd (F5 (Es s q d) d);rw[←k];generalize hs':Es s q d=t at *
 cases d with
 | true =>
  have a:=j (.inr rfl);have e:t.drop+1≠0:=by omega
  refine⟨?_,?_,?_,?_,?_⟩
  . simp[F5,IF,a,II,Af]
  . simp[F5,a]
  . simp[F5];omega
  . simp[F5,a]
  . intro _
    exact aQ _ _ _ (.inr e)
 | false =>
  by_cases f:q≠[]
  . have a:=j (.inl f)
    have c:Ke (Aq ⟨t.out,t.put,t.drop⟩)=false:=by
     refine aQ _ _ _ (.inl ?_);rw[←hs'];simp[Es,f]
    refine⟨?_,?_,?_,?_,?_⟩
    . simp[F5,IF,a,II,Af,aa _ _ c]
    . simp[F5,a]
    . simp[F5]
    . intro _;exact⟨rfl,rfl,c⟩
    . simp[F5,a]
  . obtain rfl:=l (by simpa using f)
    have o:=h.k0
    by_cases a:0<t.keep
    . obtain ⟨i,g,m⟩:=h.quiet a
      refine⟨?_,?_,?_,?_,?_⟩
      . simp[F5,IF,a,II,Af,i,g,Sm,kS _ _ _ a]
        omega
      . simp[F5];omega
      . simp[F5]
      . intro _
        refine⟨rfl,rfl,?_⟩;show Ke (Aq ⟨t.out,t.put,t.drop⟩)=false;rw[i,g,Sm];exact m
      . simp[F5];omega
    . have b:t.keep=0:=by omega
      have c:=h.last b;refine⟨?_,?_,?_,?_,?_⟩
      . simp[F5,IF,b,II,Af,aa _ _ c]
      . simp[F5,b]
      . simp[F5]
      . intro _;exact⟨rfl,rfl,c⟩
      . simp[F5,b]
theorem Pv:Jd Cs:=⟨by simp[Cs],by simp[Cs],by simp[Cs],by simp[Cs,Aq,Ke]⟩
theorem Yb(l:List (List UInt8×Bool)):∀(s:IG),Jd s->IF (l.foldl Gt s)=l.foldl Mx (IF s)/\Jd (l.foldl Gt s):=by
 induction l with
 | nil=>exact λs h=>⟨rfl,h⟩
 | cons x l ih =>
  intro s h;obtain⟨a,b⟩:=bV s h x;rw[BT,BT,←a];exact ih _ b
theorem VQ(s:IG)(h:0<s.keep->s.put=[]/\s.drop=0):Is s=Aq (IF s):=by
 unfold Is IF
 by_cases a:0<s.keep
 . obtain⟨b,c⟩:=h a
   simp[a,b,c]
 . simp[a]
theorem jc(a:List Pt)(h:∀p∈a,0<=p.keep/\0<=p.drop):JA (Bk a)=Ag a:=by
 unfold JA Ag;obtain⟨f,c⟩:=Yb (Bk a).1 Cs Pv;obtain⟨e,g,i,j⟩:=UJ _ c (Bk a).2 false;rw[VQ,e,f,←kH a h]
 . rfl
 . intro b
   by_cases d:(Bk a).2≠[]\/false=true
   . rw[g d]at b;omega
   . rw[i d]at b ⊢
     exact⟨(c.quiet b).1,(c.quiet b).2.1⟩
section
variable {w w' w1 : World}{B e n M a b c : Nat}{v v' : Value}{xs : List Value}{o : Obj}{s : Av}{p : Option Addr}
def Ed (p:Pt):List Value:=[I6 p.keep,I6 p.drop,Sx p.put]
def Cw (l:List Pt):List Value:=l.flatMap Ed
theorem JQ(l:List Pt)(p:Pt):Cw (l++[p])=Cw l++Ed p:=by simp[Cw]
theorem Oz(l:List Pt):(Cw l).length=l.length*3:=by
 induction l with
 | nil=>rfl
 | cons p l ih =>
  have:Cw (p :: l)=Ed p++Cw l:=rfl;rw[this,AA,ih,AJ];show 3+_=_;omega
theorem Gx(p:Pt):∀u∈Ed p,u.oneCell'=true:=by
 intro u d;simp only[Ed,DR,DL,or_false]at d
 rcases d with rfl|rfl|rfl<;>rfl
theorem He(w:World)(l:List Value)(t:TypeId):∀j u,l[j]?=some u->(w.alloc (Oc l.toArray t)).cell? (((Ad w.heap.size 0):Addr).add j)=some u:=by
 intro j u d;obtain⟨f,rfl⟩:=List.getElem?_eq_some_iff.1 d;rw[DG,DC];simp
theorem aJ(w:World)(a:Addr)(x:Value)(l:List Value)(t:TypeId):∀j u,l[j]?=some u->((w.setCell a x).alloc (Oc l.toArray t)).cell? (((Ad w.heap.size 0):Addr).add j)=some u:=by
 have h:=He (w.setCell a x) l t;rwa[show(w.setCell a x).heap.size=w.heap.size by simp]at h
theorem Ho:(prog.info? 87).map (λi=>(i.zero,i.size,i.bytes))=some (some (.agg #[I6 0,I6 0,.string ⟨#[]⟩]),3,32):=by kernel_rfl
theorem Qd:(prog.info? 5).map (λi=>(i.zero,i.size,i.bytes))=some (some (.int .u8 0),1,1):=by kernel_rfl
theorem N7{t k size d x:Nat}{j:List Value}(h:w.ownsRow B e size v n xs)(q:w.ownsRow t k d v' x j)(i:e≠k):v.ownBlock=none\/v.ownBlock≠v'.ownBlock:=by
 rcases h.2 with ⟨rfl,_⟩|⟨g,r,y,rfl,_,u,_⟩
 . exact .inl rfl
 . rcases q.2 with ⟨rfl,_⟩ | ⟨z,m,l,rfl,_,f,_⟩
   . exact .inr (by simp[Value.ownBlock])
   . refine .inr λe=>?_
     simp only[Value.ownBlock,Option.some.injEq]at e;subst e;rw[u]at f;simp only[Option.some.injEq,Obj.cells.injEq]at f;exact i f.2.1
structure Aw (M:Nat) (w:World) (a:Nat) (s:Av):Prop where
 out:∃p c,w.cell? (Ad a 0)=some (.slice p s.out.length c)/\w.ownsRow M 87 3 (.slice p s.out.length c) s.out.length (Cw s.out)
 outF:w.frozen? (Ad a 0)=false
 put:∃p c,w.cell? (Ad (a+1) 0)=some (.slice p s.put.length c)/\w.ownsRow M 5 1 (.slice p s.put.length c) s.put.length (Lib.byteCells s.put)
 putF:w.frozen? (Ad (a+1) 0)=false
 drop:w.cell? (Ad (a+2) 0)=some (I6 s.drop)
 dropF:w.frozen? (Ad (a+2) 0)=false
 tell:w.cell? (Ad (a+3) 0)=some (.func (.func 153) #[] #[.pointer (some (Ad (a+1) 0)),Pd a 0,.pointer (some (Ad (a+2) 0))])
 le:a+4<=M
 top:M<=w.heap.size
def KeptG (M a:Nat) (w w':World):Prop:=∀k o,w.heap[k]?=some o->k≠a->k≠a+1->k≠a+2->(∀c fz,M<=k->o≠.cells c 5 fz)->(∀c fz,M<=k->o≠.cells c 87 fz)->w'.heap[k]?=some o
structure BelowG (M a:Nat) (w w':World):Prop where
 below:Below a w w'
 kept:KeptG M a w w'
theorem Cn{k:Nat}(h:w.heap[k]?=some o):k<w.heap.size:=by
 rcases CQ k w.heap.size with d | d
 . exact d
 . rw[EU d]at h;cases h
theorem KeptG.refl(M a:Nat)(w:World):KeptG M a w w:=λ_ _ h _ _ _ _ _=>h
theorem KeptG.trans{x y z:World}(h:KeptG M a x y)(k:KeptG M a y z):KeptG M a x z:=λi o m g j d f l=>k i o (h i o m g j d f l) g j d f l
theorem KeptG.of(h:Bw w w'):KeptG M a w w':=λk o d _ _ _ _ _=>(h.block k (Cn d)).trans d
theorem KeptG.alloc{M:Nat}{a:Nat}{w w':World}(h:KeptG M a w w')(o:Obj):KeptG M a w (w'.alloc o):=h.trans λk o' d _ _ _ _ _=>(heap_alloc_old w' o (Cn d)).trans d
theorem KeptG.set(h:KeptG M a w w'){b:Nat}(g:b=a\/b=a+1\/b=a+2)(v:Value):KeptG M a w (w'.setCell (Ad b 0) v) :=
 h.trans λk o' d i j f _ _=>(BF _ _ _ _ (by show k≠b;omega)).trans d
theorem KeptG.grown{size:Nat}{m:World}(h:KeptG M a w w1)(u:w1.ownsRow M e size v n xs)(x:e=5\/e=87)(t:w1.grownBy m v.ownBlock):KeptG M a w m:=by
 refine h.trans λk o l _ _ _ q C=>?_;refine(t.block k (Cn l) ?_).trans l;intro j;obtain⟨_,f⟩:=u
 rcases f with ⟨z,_⟩|⟨g,r,A,rfl,i,d,_⟩
 . rw[z]at j;cases j
 . have y:some k=some g:=j
   obtain rfl:=Bq y;rw[l]at d
   rcases x with rfl|rfl
   . exact q _ _ i (Bq d)
   . exact C _ _ i (Bq d)
theorem BelowG.size{M:Nat}{a:Nat}{w w':World}(h:BelowG M a w w'):w.heap.size<=w'.heap.size:=h.below.size
theorem BelowG.trans{M:Nat}{a:Nat}{x y z:World}(h:BelowG M a x y)(k:BelowG M a y z):BelowG M a x z:=⟨h.below.trans k.below,h.kept.trans k.kept⟩
theorem BelowG.of{M:Nat}{a:Nat}{w w':World}(h:Bw w w')(ha:a<=w.heap.size):BelowG M a w w':=⟨h.mono ha,.of h⟩
theorem BelowG.drew{M:Nat}{a:Nat}{w w':World}(h:BelowG M a w w'):BelowG M a w w'.drew:=⟨h.below.drew,h.kept⟩
theorem Hf(h:Aw M w a s):a+3<w.heap.size:=Ca w _ h.tell
theorem JD(h:Aw M w a s)(d:Bw w w'):Aw M w' a s:=by
 have f:=h.le;have l:=h.top;have q:=Hf h;obtain⟨⟨p,c,r,x⟩,j,⟨t,m,k,y⟩,z,i,u,g⟩:=h
 exact ⟨⟨p,c,(zC d a 0 (by show a<_;omega)).trans r,Fe x d⟩,(d.frozen (p:=(Ad a 0)) (by show a<_;omega)).trans j,
  ⟨t,m,(zC d (a+1) 0 (by show a+1<_;omega)).trans k,Fe y d⟩,(d.frozen (p:=(Ad (a+1) 0)) (by show a+1<_;omega)).trans z,
  (zC d (a+2) 0 (by show a+2<_;omega)).trans i,(d.frozen (p:=(Ad (a+2) 0)) (by show a+2<_;omega)).trans u,(zC d (a+3) 0 (by show a+3<_;omega)).trans g,f,AF l d.size⟩
theorem Jn{size:Nat}(h:w.ownsRow B e size v n xs)(q:b<B)(u:Value):(w.setCell (Ad b 0) u).ownsRow B e size v n xs:=by
 obtain⟨m,d⟩:=h;refine⟨m,?_⟩
 rcases d with l|⟨g,i,j,rfl,k,f,rest⟩
 . exact .inl l
 . exact .inr ⟨g,i,j,rfl,k,(BF _ _ _ _ (by show g≠b;omega)).trans f,rest⟩
theorem Ce{d o:Nat}(h:d≠b)(u:Value):(w.setCell (Ad b 0) u).cell? (Ad d o)=w.cell? (Ad d o):=by
 unfold World.cell?;rw[BF _ _ _ _ (by show d≠b;exact h)]
def spare (w:World) (a b:Nat):Prop:=b<w.heap.size/\a+3<b/\∀v,w.cell? (Ad a 0)=some v->v.ownBlock≠some b
theorem Sh(r:w.cell? (Ad a 0)=some v)(f:(w1.cell? (Ad a 0)).isSome=true)(l:(w.alloc o).grownBy w1 v.ownBlock)(g:v'.ownBlock=v.ownBlock\/∃k,v'.ownBlock=some k/\w.heap.size<=k)(h:spare w a b) :
    spare (w1.setCell (Ad a 0) v') a b/\(w1.setCell (Ad a 0) v').heap[b]?=w.heap[b]?:=by
 obtain⟨t,x,m⟩:=h;have d:=m v r;have q:=l.size;rw[Bb]at q;refine⟨⟨by simp;omega,x,?_⟩,?_⟩
 . intro u j
   obtain⟨z,i⟩:=Option.isSome_iff_exists.1 f;rw[AU _ _ _ i]at j;obtain rfl:=Bq j
   rcases g with e|⟨k,e,y⟩
   . rw[e];exact d
   . rw[e]
     intro e;have:=Bq e;omega
 . rw[BF _ _ _ _ (by show b≠a;omega),l.block b (by rw[Bb];omega) (λe=>d e.symm)]
   exact heap_alloc_old w o t
theorem MO(h:spare w a b)(k:c≠a)(j:c≠b)(u:Value):spare (w.setCell (Ad c 0) u) a b/\(w.setCell (Ad c 0) u).heap[b]?=w.heap[b]?:=by
 obtain⟨g,i,d⟩:=h;refine⟨⟨by simpa using g,i,λv f=>d v ?_⟩,BF _ _ _ _ (by show b≠c;omega)⟩;rwa[Ce (by omega)]at f
theorem Oo{q:Pt}(h:Aw M w a s)(A:w.cell? (Ad a 0)=some (.slice p s.out.length c))
    (f:w1.ownsRow M 87 3 v' (s.out.length+1) (Cw s.out++Ed q)) (l:(w.alloc o).grownBy w1 (Value.slice p s.out.length c).ownBlock) :
    Aw M (w1.setCell (Ad a 0) v') a ⟨s.out++[q],s.put,s.drop⟩/\BelowG M a w (w1.setCell (Ad a 0) v')/\w1.cell? (Ad a 0)=some (.slice p s.out.length c)/\w1.frozen? (Ad a 0)=false:=by
 have y:=h.le;have O:=h.top;have E:=Hf h;obtain⟨⟨N,P,m,t⟩,H,⟨L,K,D,z⟩,F,I,C,G⟩:=h;rw[A]at m;simp only[Option.some.injEq,Value.slice.injEq,true_and]at m;obtain⟨rfl,rfl⟩:=m;have j:∀k,(Value.slice p s.out.length c).ownBlock=some k->a+4<=k:=λk J=>AF y (t.lt k J).1;have d:Below (a+4) w w1:=((A9 (a+4) w).alloc (by omega) o).grown l (by rw[Bb];omega) j;have g:w1.cell? (Ad a 0)=some (.slice p s.out.length c):=by rw[zC d a 0 (by show a<_;omega)];exact A
 have i:w1.frozen? (Ad a 0)=false:=by rw[d.frozen (p:=(Ad a 0)) (by show a<_;omega)];exact H
 have u:=(z.alloc o).kept l (N7 (z.alloc o) (t.alloc o) (by decide));obtain⟨r,x,rfl⟩:=Bm f;refine⟨⟨⟨r,x,?_,?_⟩,?_,⟨L,K,?_,?_⟩,?_,?_,?_,?_,y,(by have:=d.size;simp;omega)⟩,⟨(d.mono (show a<=a+4 by omega)).setCell (Ai _) _,(((KeptG.refl M a w).alloc o).grown (t.alloc o) (.inr rfl) l).set (.inl rfl) _⟩,g,i⟩
 . show _=some (Value.slice r (s.out++[q]).length x)
   rw[AA];exact AU _ _ _ g
 . show World.ownsRow _ _ _ _ (.slice r (s.out++[q]).length x) (s.out++[q]).length (Cw (s.out++[q]))
   rw[AA,JQ];exact Jn f (by omega) _
 . rw[AG];exact i
 . rw[Ce (by omega)];exact(zC d (a+1) 0 (by show a+1<_;omega)).trans D
 . exact Jn u (by omega) _
 . rw[AG];exact(d.frozen (p:=(Ad (a+1) 0)) (by show a+1<_;omega)).trans F
 . rw[Ce (by omega)];exact(zC d (a+2) 0 (by show a+2<_;omega)).trans I
 . rw[AG];exact(d.frozen (p:=(Ad (a+2) 0)) (by show a+2<_;omega)).trans C
 . rw[Ce (by omega)];exact(zC d (a+3) 0 (by show a+3<_;omega)).trans G
theorem RN{q:List UInt8}(h:Aw M w a s)(A:w.cell? (Ad (a+1) 0)=some (.slice p s.put.length c))
    (f:w1.ownsRow M 5 1 v' (s.put.length+q.length) (Lib.byteCells s.put++Lib.byteCells q)) (l:w.grownBy w1 (Value.slice p s.put.length c).ownBlock) :
    Aw M (w1.setCell (Ad (a+1) 0) v') a ⟨s.out,s.put++q,s.drop⟩/\BelowG M a w (w1.setCell (Ad (a+1) 0) v')/\w1.cell? (Ad (a+1) 0)=some (.slice p s.put.length c)/\w1.frozen? (Ad (a+1) 0)=false:=by
 have y:=h.le;have O:=h.top;have E:=Hf h;obtain⟨⟨L,K,D,z⟩,F,⟨N,P,m,t⟩,H,I,C,G⟩:=h;rw[A]at m;simp only[Option.some.injEq,Value.slice.injEq,true_and]at m;obtain⟨rfl,rfl⟩:=m;have j:∀k,(Value.slice p s.put.length c).ownBlock=some k->a+4<=k:=λk J=>AF y (t.lt k J).1;have d:Below (a+4) w w1:=(A9 (a+4) w).grown l (by omega) j;have g:w1.cell? (Ad (a+1) 0)=some (.slice p s.put.length c):=by rw[zC d (a+1) 0 (by show a+1<_;omega)];exact A
 have i:w1.frozen? (Ad (a+1) 0)=false:=by rw[d.frozen (p:=(Ad (a+1) 0)) (by show a+1<_;omega)];exact H
 have u:=z.kept l (N7 z t (by decide));obtain⟨r,x,rfl⟩:=Bm f;refine⟨⟨⟨L,K,?_,?_⟩,?_,⟨r,x,?_,?_⟩,?_,?_,?_,?_,y,(by have:=d.size;simp;omega)⟩,⟨(d.mono (show a<=a+4 by omega)).setCell (by show a<=a+1;omega) _,((KeptG.refl M a w).grown t (.inl rfl) l).set (.inr (.inl rfl)) _⟩,g,i⟩
 . rw[Ce (by omega)];exact(zC d a 0 (by show a<_;omega)).trans D
 . exact Jn u (by omega) _
 . rw[AG];exact(d.frozen (p:=(Ad a 0)) (by show a<_;omega)).trans F
 . show _=some (Value.slice r (s.put++q).length x)
   rw[AA];exact AU _ _ _ g
 . show World.ownsRow _ _ _ _ (.slice r (s.put++q).length x) (s.put++q).length (Lib.byteCells (s.put++q))
   rw[AA,Lib.byteCells_append];exact Jn f (by omega) _
 . rw[AG];exact i
 . rw[Ce (by omega)];exact(zC d (a+2) 0 (by show a+2<_;omega)).trans I
 . rw[AG];exact(d.frozen (p:=(Ad (a+2) 0)) (by show a+2<_;omega)).trans C
 . rw[Ce (by omega)];exact(zC d (a+3) 0 (by show a+3<_;omega)).trans G
theorem MH(h:Aw M w a s)(d:Int):Aw M (w.setCell (Ad (a+2) 0) (I6 d)) a ⟨s.out,s.put,d⟩/\BelowG M a w (w.setCell (Ad (a+2) 0) (I6 d)):=by
 have f:=h.le;have z:=h.top;have m:=Hf h;obtain⟨⟨p,c,q,u⟩,i,⟨r,l,k,x⟩,y,j,t,g⟩:=h;refine⟨⟨⟨p,c,?_,Jn u (by omega) _⟩,?_,⟨r,l,?_,Jn x (by omega) _⟩,?_,AU _ _ _ j,?_,?_,f,(by simp;omega)⟩,⟨(A9 a w).setCell (by show a<=a+2;omega) _,(KeptG.refl M a w).set (.inr (.inr rfl)) _⟩⟩
 . rw[Ce (by omega)];exact q
 . rw[AG];exact i
 . rw[Ce (by omega)];exact k
 . rw[AG];exact y
 . rw[AG];exact t
 . rw[Ce (by omega)];exact g
theorem RM(h:Aw M w a s)(q:w.cell? (Ad (a+1) 0)=some (.slice p s.put.length c)) :
    Aw M (w.setCell (Ad (a+1) 0) (.slice p 0 c)) a ⟨s.out,[],s.drop⟩/\BelowG M a w (w.setCell (Ad (a+1) 0) (.slice p 0 c)):=by
 have t:=h.le;have N:=h.top;have D:=Hf h;obtain⟨⟨K,J,A,z⟩,F,⟨L,O,f,E⟩,H,I,y,G⟩:=h;have j:=q;rw[q]at f;simp only[Option.some.injEq,Value.slice.injEq,true_and]at f;obtain⟨rfl,rfl⟩:=f
 have l:w.ownsRow M 5 1 (.slice p 0 c) 0 []:=by
  obtain⟨_,d⟩:=E;refine⟨rfl,?_⟩
  rcases d with ⟨r,P⟩|⟨g,C,k,m,x,i,u,rest⟩
  . simp only[Value.slice.injEq]at r
    obtain⟨rfl,_,rfl⟩:=r;exact .inl ⟨rfl,rfl⟩
  . simp only[Value.slice.injEq,true_and]at m
    obtain⟨rfl,rfl⟩:=m;exact .inr ⟨g,c,k,rfl,x,i,AV _,rest.1,rest.2.1,by simp⟩
 refine⟨⟨⟨K,J,?_,Jn z (by omega) _⟩,?_,⟨p,c,AU _ _ _ j,Jn l (by omega) _⟩,?_,?_,?_,?_,t,(by simp;omega)⟩,⟨(A9 a w).setCell (by show a<=a+1;omega) _,(KeptG.refl M a w).set (.inr (.inl rfl)) _⟩⟩
 . rw[Ce (by omega)];exact A
 . rw[AG];exact F
 . rw[AG];exact H
 . rw[Ce (by omega)];exact I
 . rw[AG];exact y
 . rw[Ce (by omega)];exact G
end
section
variable {M : Nat}
theorem Se(w:World):Cg 111 #[] w λe w'=>e=.returned (.tuple #[.func (.func 154) #[] #[.pointer (some (Ad (w.heap.size+1) 0)),.pointer (some (Ad (w.heap.size+2) 0)),.pointer (some (Ad (w.heap.size+3) 0)),Pd w.heap.size 0],
      .func (.func 155) #[] #[.pointer (some (Ad (w.heap.size+3) 0)),Pd w.heap.size 0]])/\(∀M f,Bw w' f->w.heap.size+4<=M->M<=f.heap.size->Aw M f w.heap.size A7)/\w'.heap.size=w.heap.size+4/\Bw w w':=by
 go_enter func111,ntmps111
 go_wp2
 go_ret2
 refine⟨rfl,λM f d j l=>?_,by simp[AN],?_⟩
 . have q:=d.size
   simp only[AN]at q;have m:∀k,k<4->w.heap.size+k<w.heap.size+1+1+1+1:=λk r=>by omega
   refine⟨⟨none,0,(d.cell (by simp only[AN];omega)).trans (by simp[go_sem,A7]),BL _ _ _ _⟩,(d.frozen (by simp only[AN];omega)).trans (by simp[go_sem]),⟨none,0,(d.cell (by simp only[AN];omega)).trans (by simp[go_sem,A7]),BL _ _ _ _⟩,(d.frozen (by simp only[AN];omega)).trans (by simp[go_sem]),(d.cell (by simp only[AN];omega)).trans (by simp[go_sem,A7]),(d.frozen (by simp only[AN];omega)).trans (by simp[go_sem]),(d.cell (by simp only[AN];omega)).trans (by simp[go_sem]),j,l⟩
 have i:=(A9 w.heap.size w).alloc (Ai _) (Oc #[.slice none 0 0] 37);have g:=i.alloc i.size (Oc #[.slice none 0 0] 146);have h:=g.alloc g.size (Oc #[I6 0] 3);exact h.alloc h.size _
theorem Rs(p:Option Addr)(n c:Nat)(w:World):(Instr.sliceAt 146 (.slice p n c) none (some (I6 0)) none).run prog w=.ok (.slice p 0 c) w:=by
 have h:(if c=0 then p else Option.map (λx=>x.add 0) p)=p:=by
  cases p<;>simp[Addr.add]
 have:=run_sliceAt_slice (P:=prog) w 146 (.slice p n c) none (some (I6 0)) none (by kernel_rfl);rw[this];have f:=run_slice_h (P:=prog) w 146 p n c (by kernel_rfl) .i64 0 (by omega) (by omega);rw[f];have d:(sizeOf (prog.elem 146)).run prog w=.ok 1 w:=by kernel_rfl
 rw[d];simp only[Result.andThen,sliced,DQ,FT,GM];rw[h]
theorem KO(a:Nat)(s:Av)(w:World)(h:Aw M w a s)(g:s.out.length<1000000000)(l:s.put.length<1000000000)(m:s.put=[])(x:s.drop=0) :
    Cg 153 #[.pointer (some (Ad (a+1) 0)),Pd a 0,.pointer (some (Ad (a+2) 0))] w λe w'=>(∃v,e=.returned v)/\Aw M w' a ⟨s.out,[],0⟩/\BelowG M a w w'/\∀b,spare w a b->w'.heap[b]?=w.heap[b]?:=by
 have Q:=h.le;have Y:=h.top;obtain⟨R,X,r,z,P⟩:=info_parts Ho;have hcut:=Rs;have C:=Hf h;have u:=Aa h;obtain⟨⟨p,c,U,E⟩,Z,⟨O,K,A,t⟩,W,h7,S,G⟩:=h;have y:¬(0:Int)<(s.put.length:Int):=by rw[m];simp
 have N:(s.drop==0)=true:=beq_iff_eq.2 x;clear E t G m
 go_enter func153,ntmps153
 have d:=Aa A;go_wp2;go_end0;have k:=RM u.out d.out;have i:=MH k.1 0;refine⟨⟨_,rfl⟩,i.1,k.2.trans i.2,λb f=>?_⟩;have D:=f.2.1;have J:w.heap[b]?=w.heap[b]?:=rfl;have L:=f;have H:=J;have F:=L;have q:=H;have I:=F;have j:=MO I (c:=a+1) (by omega) (by omega) (.slice O 0 K);exact((MO j.1 (c:=a+2) (by omega) (by omega) (I6 0)).2.trans j.2).trans q
theorem KP(a:Nat)(s:Av)(w:World)(h:Aw M w a s)(F:s.out.length<1000000000)(hput:s.put.length<1000000000)(hp:s.put=[])(hd:s.drop≠0) :
    Cg 153 #[.pointer (some (Ad (a+1) 0)),Pd a 0,.pointer (some (Ad (a+2) 0))] w λe w'=>(∃v,e=.returned v)/\Aw M w' a ⟨s.out++[⟨0,s.drop,[]⟩],[],0⟩/\BelowG M a w w'/\∀b,spare w a b->w'.heap[b]?=w.heap[b]?:=by
 have hM:=h.le;have hT:=h.top;obtain⟨i0,hi,x,y,D⟩:=info_parts Ho;have hcut:=Rs;have hlt:=Hf h;have H0:=Aa h;obtain⟨⟨p,c,K,P⟩,h3,⟨p',Z,N,h5⟩,R,Y,I,h9⟩:=h;have W:=Aa P;have HC:=Aa K;have hpl:¬(0:Int)<(s.put.length:Int):=by rw[hp];simp
 have hdb:(s.drop==0)=false:=beq_eq_false_iff_ne.2 hd;clear P h5 h9 hp
 go_enter func153,ntmps153
 go_wp2_with (at_builtin;refine wpList_append_own_at _ rfl _ _ 37 rfl M 87 i0 (.agg #[I6 0,I6 0,.string ⟨#[]⟩]) 3 32 underlying37 hi x y D rfl (by decide) _ _ _ rfl (W.out.alloc _) (Ad w.heap.size 0) 1 1 (Ed ⟨0,s.drop,[]⟩) rfl rfl (He _ _ _) (Gx _) (by unfold maxLen;omega) (by omega) (by first | omega | (simp;omega)) ?_)
 intro v2 r d i _ g;have L:=Oo (q:=⟨0,s.drop,[]⟩) H0.out HC.out d i;have f:Below (a+4) w r:=((A9 (a+4) w).alloc (by omega) _).grown i (by rw[Bb];omega) λk hk=>AF hM (W.out.lt k hk).1;have H:=N;have G:=R;have J:=Y;have U:=I;obtain⟨t,z,j⟩:=Bm d;rw[j]at L ⊢;rw[j]at g;obtain⟨E,B2,t1,t2⟩:=L;have l:Hid (∀b,spare (w) a b->spare (r.setCell (Ad a 0) (.slice t (s.out.length+1) z)) a b/\(r.setCell (Ad a 0) (.slice t (s.out.length+1) z)).heap[b]?=(w).heap[b]?):=λb m=>Sh HC.out (by rw[t1];rfl) i (g.imp id λe=>⟨_,e,by simp⟩) m;clear g;have u:=Aa E;have C:=Aa B2;have y4:=(zC f (a+1) 0 (by show a+1<_;omega)).trans H;have y6:=(f.frozen (p:=(Ad (a+1) 0)) (by show a+1<_;omega)).trans G;have y7:=(zC f (a+2) 0 (by show a+2<_;omega)).trans J;have y8:=(f.frozen (p:=(Ad (a+2) 0)) (by show a+2<_;omega)).trans U;have hs2:=f.size;have A:Hid ((r.setCell (Ad a 0) (.slice t (s.out.length+1) z)).cell? (Ad (a+1) 0)=some (.slice p' s.put.length Z)):=(Ce (by omega) _).trans y4;clear H G J U E B2 d i f j;clear K h3 N R Y I;go_wp2;go_end0;have X:=RM u.out A.out;have O:=MH X.1 0;refine⟨⟨_,rfl⟩,O.1,(C.out).trans (X.2.trans O.2),λb m=>?_⟩;have hb0:=m.2.1;have e0:w.heap[b]?=w.heap[b]?:=rfl;have s0:=m;have e1:=e0;have Q:=s0;have e2:=((l.out b Q).2).trans e1;have s2:=(l.out b Q).1;have S:=MO s2 (c:=a+1) (by omega) (by omega) (.slice p' 0 Z);exact((MO S.1 (c:=a+2) (by omega) (by omega) (I6 0)).2.trans S.2).trans e2
theorem KM(a:Nat)(s:Av)(w:World)(h:Aw M w a s)(G:s.out.length<1000000000)(Y:s.put.length<1000000000)(hp:s.put≠[])(hd:s.drop=0) :
    Cg 153 #[.pointer (some (Ad (a+1) 0)),Pd a 0,.pointer (some (Ad (a+2) 0))] w λe w'=>(∃v,e=.returned v)/\Aw M w' a ⟨s.out++[⟨0,0,s.put⟩],[],0⟩/\BelowG M a w w'/\∀b,spare w a b->w'.heap[b]?=w.heap[b]?:=by
 have hM:=h.le;have hT:=h.top;obtain⟨i0,hi,u,x,F⟩:=info_parts Ho;have hcut:=Rs;have hlt:=Hf h;have H0:=Aa h;obtain⟨⟨p,c,J,O⟩,h3,⟨E,D,L,K⟩,P,W,H,h9⟩:=h;have S:=Aa O;have Z:=Aa J;have hpl:(0:Int)<(s.put.length:Int):=by have:=List.length_pos_iff.2 hp;omega
 have j:(convert 146 9 (.slice E s.put.length D)).run prog w=.ok (Sx s.put) w:=YC rfl K;have hdb:(s.drop==0)=true:=beq_iff_eq.2 hd;clear O K h9 hp
 go_enter func153,ntmps153
 go_wp2_with (at_builtin;refine wpList_append_own_at _ rfl _ _ 37 rfl M 87 i0 (.agg #[I6 0,I6 0,.string ⟨#[]⟩]) 3 32 underlying37 hi u x F rfl (by decide) _ _ _ rfl (S.out.alloc _) (Ad w.heap.size 0) 1 1 (Ed ⟨0,0,s.put⟩) rfl rfl (He _ _ _) (Gx _) (by unfold maxLen;omega) (by omega) (by first | omega | (simp;omega)) ?_)
 intro v1 w1 d i _ g;have R:=Oo (q:=⟨0,0,s.put⟩) H0.out Z.out d i;have f:Below (a+4) w w1:=((A9 (a+4) w).alloc (by omega) _).grown i (by rw[Bb];omega) λk hk=>AF hM (S.out.lt k hk).1;obtain⟨t,A,l⟩:=Bm d;rw[l]at R d ⊢;rw[l]at g;obtain⟨G1,I,r1,r2⟩:=R;have m:Hid (∀b,spare w a b->spare (w1.setCell (Ad a 0) (.slice t (s.out.length+1) A)) a b/\(w1.setCell (Ad a 0) (.slice t (s.out.length+1) A)).heap[b]?=w.heap[b]?):=λb r=>Sh Z.out (by rw[r1];rfl) i (g.imp id λe=>⟨_,e,by simp⟩) r;clear g;have y:=Aa G1;have C:=Aa I;have k4:=(zC f (a+1) 0 (by show a+1<_;omega)).trans L;have k6:=(f.frozen (p:=(Ad (a+1) 0)) (by show a+1<_;omega)).trans P;have k7:=(zC f (a+2) 0 (by show a+2<_;omega)).trans W;have k8:=(f.frozen (p:=(Ad (a+2) 0)) (by show a+2<_;omega)).trans H;have hs1:=f.size;have z:Hid ((w1.setCell (Ad a 0) (.slice t (s.out.length+1) A)).cell? (Ad (a+1) 0)=some (.slice E s.put.length D)):=(Ce (by omega) _).trans k4;clear J h3 L P W H G1 I d i j f l;go_wp2;go_end0;have U:=RM y.out z.out;have N:=MH U.1 0;refine⟨⟨_,rfl⟩,N.1,(C.out).trans (U.2.trans N.2),λb r=>?_⟩;have hb0:=r.2.1;have e0:w.heap[b]?=w.heap[b]?:=rfl;have X:=r;have e1:=(m.out b X).2;have s1:=(m.out b X).1;have e2:=e1;have s2:=s1;have Q:=MO s2 (c:=a+1) (by omega) (by omega) (.slice E 0 D);exact((MO Q.1 (c:=a+2) (by omega) (by omega) (I6 0)).2.trans Q.2).trans e2
theorem KN(a:Nat)(s:Av)(w:World)(h:Aw M w a s)(hlen:s.out.length<1000000000)(hput:s.put.length<1000000000)(hp:s.put≠[])(hd:s.drop≠0) :
    Cg 153 #[.pointer (some (Ad (a+1) 0)),Pd a 0,.pointer (some (Ad (a+2) 0))] w λe w'=>(∃v,e=.returned v)/\Aw M w' a ⟨s.out++[⟨0,0,s.put⟩,⟨0,s.drop,[]⟩],[],0⟩/\BelowG M a w w'/\∀b,spare w a b->w'.heap[b]?=w.heap[b]?:=by
 have hM:=h.le;have hT:=h.top;obtain⟨i0,hi,H,F,L⟩:=info_parts Ho;have hcut:=Rs;have hlt:=Hf h;have H0:=Aa h;obtain⟨⟨p,c,h1,h2⟩,h3,⟨P,O,h4,h5⟩,h6,h7,h8,h9⟩:=h;have HO:=Aa h2;have HC:=Aa h1;have hpl:(0:Int)<(s.put.length:Int):=by have:=List.length_pos_iff.2 hp;omega
 have A:(convert 146 9 (.slice P s.put.length O)).run prog w=.ok (Sx s.put) w:=YC rfl h5;have hdb:(s.drop==0)=false:=beq_eq_false_iff_ne.2 hd;clear h2 h5 h9 hp
 go_enter func153,ntmps153
 go_wp2_with (at_builtin;refine wpList_append_own_at _ rfl _ _ 37 rfl M 87 i0 (.agg #[I6 0,I6 0,.string ⟨#[]⟩]) 3 32 underlying37 hi H F L rfl (by decide) _ _ _ rfl (HO.out.alloc _) (Ad w.heap.size 0) 1 1 (Ed ⟨0,0,s.put⟩) rfl rfl (He _ _ _) (Gx _) (by unfold maxLen;omega) (by omega) (by first | omega | (simp;omega)) ?_)
 intro v1 w1 d x _ t;have P1:=Oo (q:=⟨0,0,s.put⟩) H0.out HC.out d x;have m:Below (a+4) w w1:=((A9 (a+4) w).alloc (by omega) _).grown x (by rw[Bb];omega) λk X=>AF hM (HO.out.lt k X).1;obtain⟨f,g,z⟩:=Bm d;rw[z]at P1 d ⊢;rw[z]at t;obtain⟨G1,B1,r1,r2⟩:=P1;have N:Hid (∀b,spare w a b->spare (w1.setCell (Ad a 0) (.slice f (s.out.length+1) g)) a b/\(w1.setCell (Ad a 0) (.slice f (s.out.length+1) g)).heap[b]?=w.heap[b]?):=λb D=>Sh HC.out (by rw[r1];rfl) x (t.imp id λe=>⟨_,e,by simp⟩) D;clear t;have Q:=Aa G1;have HB1:=Aa B1;have K:Hid ((w1.setCell (Ad a 0) (.slice f (s.out.length+1) g)).ownsRow M 87 3 (.slice f (s.out.length+1) g) (s.out.length+1) (Cw s.out++Ed ⟨0,0,s.put⟩)):=Jn d (show a<M by omega) (.slice f (s.out.length+1) g);have k4:=(zC m (a+1) 0 (by show a+1<_;omega)).trans h4;have k6:=(m.frozen (p:=(Ad (a+1) 0)) (by show a+1<_;omega)).trans h6;have k7:=(zC m (a+2) 0 (by show a+2<_;omega)).trans h7;have k8:=(m.frozen (p:=(Ad (a+2) 0)) (by show a+2<_;omega)).trans h8;have hs1:=m.size;have G:Hid ((w1.setCell (Ad a 0) (.slice f (s.out.length+1) g)).cell? (Ad a 0)=some (.slice f (s.out.length+1) g)):=AU _ _ _ r1;have W:Hid ((w1.setCell (Ad a 0) (.slice f (s.out.length+1) g)).cell? (Ad (a+1) 0)=some (.slice P s.put.length O)):=(Ce (by omega) _).trans k4;clear h1 h3 h4 h6 h7 h8 G1 B1 d x A m z
 go_wp2_with (at_builtin;refine wpList_append_own_at _ rfl _ _ 37 rfl M 87 i0 (.agg #[I6 0,I6 0,.string ⟨#[]⟩]) 3 32 underlying37 hi H F L rfl (by decide) _ _ _ rfl (K.out.alloc _) (Ad w1.heap.size 0) 1 1 (Ed ⟨0,s.drop,[]⟩) rfl rfl (aJ _ _ _ _ _) (Gx _) (by unfold maxLen;omega) (by omega) (by first | omega | (simp;omega)) ?_)
 intro v2 E i u _ r;have j:E.ownsRow M 87 3 v2 ((s.out++[(⟨0,0,s.put⟩:Pt)]).length+1) (Cw (s.out++[(⟨0,0,s.put⟩:Pt)])++Ed ⟨0,s.drop,[]⟩):=by
  rw[JQ,AA,AH];exact i
 have J:(s.out++[(⟨0,0,s.put⟩:Pt)]).length=s.out.length+1:=by rw[AA];rfl
 have y:(w1.setCell (Ad a 0) (.slice f (s.out.length+1) g)).cell? (Ad a 0)=some (.slice f (s.out++[(⟨0,0,s.put⟩:Pt)]).length g):=by rw[J];exact G.out
 have P2:=Oo (q:=⟨0,s.drop,[]⟩) Q.out y j (by rw[J];exact u);have l:Below (a+4) (w1.setCell (Ad a 0) (.slice f (s.out.length+1) g)) E:=((A9 (a+4) _).alloc (by simp;omega) _).grown u (by rw[Bb];simp;omega) λk X=>AF hM (K.out.lt k X).1;have z4:=W.out;have z6:(w1.setCell (Ad a 0) (.slice f (s.out.length+1) g)).frozen? (Ad (a+1) 0)=false:=by rw[AG];exact k6
 have z7:(w1.setCell (Ad a 0) (.slice f (s.out.length+1) g)).cell? (Ad (a+2) 0)=some (I6 s.drop):=(Ce (by omega) _).trans k7;have z8:(w1.setCell (Ad a 0) (.slice f (s.out.length+1) g)).frozen? (Ad (a+2) 0)=false:=by rw[AG];exact k8
 clear y;obtain⟨S,U,C⟩:=Bm i;rw[C]at P2 ⊢;rw[C]at r;obtain⟨G2,B2,t1,t2⟩:=P2;have I:Hid (∀b,spare (w1.setCell (Ad a 0) (.slice f (s.out.length+1) g)) a b->spare (E.setCell (Ad a 0) (.slice S ((s.out.length+1)+1) U)) a b/\(E.setCell (Ad a 0) (.slice S ((s.out.length+1)+1) U)).heap[b]?=(w1.setCell (Ad a 0) (.slice f (s.out.length+1) g)).heap[b]?):=λb D=>Sh G.out (by rw[t1];rfl) u (r.imp id λe=>⟨_,e,by simp⟩) D;clear r;have Y:=Aa G2;have Z:=Aa B2;have y4:=(zC l (a+1) 0 (by show a+1<_;omega)).trans z4;have y6:=(l.frozen (p:=(Ad (a+1) 0)) (by show a+1<_;omega)).trans z6;have y7:=(zC l (a+2) 0 (by show a+2<_;omega)).trans z7;have y8:=(l.frozen (p:=(Ad (a+2) 0)) (by show a+2<_;omega)).trans z8;have hs2:=l.size;have R:Hid ((E.setCell (Ad a 0) (.slice S ((s.out.length+1)+1) U)).cell? (Ad (a+1) 0)=some (.slice P s.put.length O)):=(Ce (by omega) _).trans y4;clear z4 z6 z7 z8 G2 B2 i u l C;clear k4 k6 k7 k8 r1 r2;clear j;go_wp2;go_end0;have F1:=RM Y.out R.out;have F2:=MH F1.1 0;have F3:=F2.1;rw[AH]at F3;refine⟨⟨_,rfl⟩,F3,(HB1.out.trans Z.out).trans (F1.2.trans F2.2),λb D=>?_⟩;have hb0:=D.2.1;have e0:w.heap[b]?=w.heap[b]?:=rfl;have s0:=D;have e1:=(N.out b s0).2;have s1:=(N.out b s0).1;have e2:=((I.out b s1).2).trans e1;have s2:=(I.out b s1).1;have s3:=MO s2 (c:=a+1) (by omega) (by omega) (.slice P 0 O);exact((MO s3.1 (c:=a+2) (by omega) (by omega) (I6 0)).2.trans s3.2).trans e2
theorem RA(a:Nat)(s:Av)(w:World)(h:Aw M w a s)(f:s.out.length<1000000000)(d:s.put.length<1000000000) :
    Cg 153 #[.pointer (some (Ad (a+1) 0)),Pd a 0,.pointer (some (Ad (a+2) 0))] w λe w'=>(∃v,e=.returned v)/\Aw M w' a ⟨Aq s,[],0⟩/\BelowG M a w w'/\∀b,spare w a b->w'.heap[b]?=w.heap[b]?:=by
 have j:=h.le;have k:=h.top;unfold Aq
 by_cases i:s.put=[]
 . by_cases g:s.drop=0
   . have:=KO a s w h f d i g
     simpa[i,g] using this
   . have:=KP a s w h f d i g
     simpa[i,g] using this
 . by_cases g:s.drop=0
   . have:=KM a s w h f d i g
     simpa[i,g] using this
   . have:=KN a s w h f d i g
     simpa[i,g] using this
end
section
variable {M g n c : Nat}{w : World}{init : List Pt}{q : Pt}
def Cv (p:Pt):Value:=.agg #[I6 p.keep,I6 p.drop,Sx p.put]
theorem KD(p:Pt)(w:World):Cg 74 #[Cv p] w (Rt w (.bool (decide (0<p.keep)))):=by
 unfold Cv
 go_enter func74,ntmps74
 go_wp2;go_ret;exact⟨rfl,zA _ _⟩
theorem OJ(p:Pt)(w:World):Cg 114 #[Cv p] w (Rt w (.bool (decide (0<p.drop)))):=by
 unfold Cv
 go_enter func114,ntmps114
 go_wp2;go_ret;exact⟨rfl,zA _ _⟩
theorem RI(a:Nat)(s:Av)(w:World)(h:Aw M w a s)(f:s.out.length<1000000000)(d:s.put.length<1000000000) :
    Cg 155 #[.pointer (some (Ad (a+3) 0)),Pd a 0] w λe w'=>∃v,e=.returned v/\w'.ownsRow M 87 3 v (Aq s).length (Cw (Aq s))/\BelowG M a w w':=by
 have l:=h.le;have r:=h.top;have j:=RA a s w h f d;have m:=h.tell;clear h
 go_enter func155,ntmps155
 go_wp2_with (go_at_call 153;refine j.mono ?_;rintro e w1 ⟨⟨v,rfl⟩,⟨⟨p,c,t,k⟩,_⟩,i,_⟩)
 go_ret;exact⟨_,rfl,k,i⟩
theorem dK{a:Nat}(h:Aw M w a ⟨init++[q],[],0⟩)(l:w.cell? (Ad a 0)=some (Sl g n c))(I:n=(init++[q]).length)(k:Int) :
    Aw M (w.setCell (Ad g (init.length*3)) (I6 k)) a ⟨init++[⟨k,q.drop,q.put⟩],[],0⟩/\BelowG M a w (w.setCell (Ad g (init.length*3)) (I6 k)):=by
 have t:=h.le;have K:=h.top;subst I;obtain⟨⟨J,L,i,f⟩,E,⟨H,G,x,j⟩,A,F,u,C⟩:=h;rw[l]at i;simp only[Option.some.injEq,Value.slice.injEq,true_and]at i;obtain⟨rfl,rfl⟩:=i;have y:=f.lt g rfl;obtain⟨m,d⟩:=f.stored (init.length*3) (I6 k);have z:(Cw (init++[q])).set (init.length*3) (I6 k)=Cw (init++[⟨k,q.drop,q.put⟩]):=by
  rw[JQ,JQ,FN _ _ (by rw[Oz];exact Ai _),Oz,BP];rfl
 rw[z]at m;have r:(init++[(⟨k,q.drop,q.put⟩:Pt)]).length=(init++[q]).length:=by simp
 have D:=j.kept d (N7 j f (by decide));refine⟨⟨⟨some (Ad g 0),c,?_,?_⟩,?_,⟨H,G,?_,D⟩,?_,?_,?_,?_,t,(by simp;omega)⟩,⟨(A9 a w).setCell (by show a<=g;omega) _,(KeptG.refl M a w).grown f (.inr rfl) d⟩⟩
 . show _=some (Value.slice _ (init++[(⟨k,q.drop,q.put⟩:Pt)]).length c)
   rw[r];exact(AE (a:=(Ad a 0)) (d.block a (by omega) (by intro e;have:=Bq e;omega))).trans l
 . show World.ownsRow _ _ _ _ (.slice _ (init++[(⟨k,q.drop,q.put⟩:Pt)]).length c) (init++[(⟨k,q.drop,q.put⟩:Pt)]).length _
   rw[r];exact m
 . rw[AG];exact E
 . exact(AE (a:=(Ad (a+1) 0)) (d.block (a+1) (by omega) (by intro e;have:=Bq e;omega))).trans x
 . rw[AG];exact A
 . exact(AE (a:=(Ad (a+2) 0)) (d.block (a+2) (by omega) (by intro e;have:=Bq e;omega))).trans F
 . rw[AG];exact u
 . exact(AE (a:=(Ad (a+3) 0)) (d.block (a+3) (by omega) (by intro e;have:=Bq e;omega))).trans C
theorem Zh{B:Nat}(h:w.ownsRow B 87 3 (Sl g n c) n (Cw (init++[q])))(d:n=(init++[q]).length) :
    w.cell? (Ad g (init.length*3))=some (I6 q.keep)/\w.cell? (Ad g (init.length*3+1))=some (I6 q.drop)/\w.cell? (Ad g (init.length*3+2))=some (Sx q.put)/\w.frozen? (Ad g (init.length*3))=false:=by
 subst d;have d:(init++[q]).length=init.length+1:=by simp
 have e:∀j,j<3->(Cw (init++[q]))[init.length*3+j]?=(Ed q)[j]?:=by
  intro j f;rw[JQ,AL (by rw[Oz];omega),Oz]
  congr 1
  omega
 refine⟨?_,?_,?_,h.frozenAt _⟩
 . rw[h.cellAt _ (by rw[d];omega)];exact e 0 (by omega)
 . rw[h.cellAt _ (by rw[d];omega)];exact e 1 (by omega)
 . rw[h.cellAt _ (by rw[d];omega)];exact e 2 (by omega)
theorem add_zero(a:Nat)(s:Av)(p:Pt)(w:World)(h:Aw M w a s)(hput:s.put.length+p.put.length<1000000000)(hd: -9223372036854775808<=s.drop+p.drop)(hd':s.drop+p.drop<9223372036854775808)(Z:s.out.length<100000000)
     :
    Cg 154 #[(.agg #[I6 0,I6 p.drop,Sx p.put]),.pointer (some (Ad (a+1) 0)),.pointer (some (Ad (a+2) 0)),.pointer (some (Ad (a+3) 0)),Pd a 0] w λe w'=>(∃v,e=.returned v)/\Aw M w' a ⟨s.out,s.put++p.put,s.drop+p.drop⟩/\BelowG M a w w':=by
 have hM:=h.le;have hT:=h.top;obtain⟨i0,hi,hz0,hz1,hz2⟩:=info_parts Ho;obtain⟨i1,hj,U,P,S⟩:=info_parts Qd;have H:=Hf h;have d:Bw w (w.alloc (Oc #[I6 0,I6 p.drop,Sx p.put] 87)):=zA _ _;have C:=Aa (JD h d);have D:Hid (BelowG M a w (w.alloc (Oc #[I6 0,I6 p.drop,Sx p.put] 87))):=.of d (by omega);have x0:(w.alloc (Oc #[I6 0,I6 p.drop,Sx p.put] 87)).cell? (Ad w.heap.size 0)=some (I6 0):=by simp[go_sem]
 have x1:(w.alloc (Oc #[I6 0,I6 p.drop,Sx p.put] 87)).cell? (Ad w.heap.size 1)=some (I6 p.drop):=by simp[go_sem]
 obtain⟨⟨pp,c,X,h2⟩,h3,⟨r,m,h4,J⟩,h6,h7,h8,h9⟩:=h;have t:Hid (∀k,(Value.slice pp s.out.length c).ownBlock=some k->k<w.heap.size):=λk j=>(h2.lt k j).2;have y:Hid (∀k,(Value.slice r s.put.length m).ownBlock=some k->k<w.heap.size):=λk j=>(J.lt k j).2;have O:(w.alloc (Oc #[I6 0,I6 p.drop,Sx p.put] 87)).ownsRow M 5 1 (.slice r s.put.length m) s.put.length (Lib.byteCells s.put):=J.alloc _;have hC:(w.alloc (Oc #[I6 0,I6 p.drop,Sx p.put] 87)).cell? (Ad (a+1) 0)=some (.slice r s.put.length m):=(zC d (a+1) 0 (by show a+1<_;omega)).trans h4;have F:(w.alloc (Oc #[I6 0,I6 p.drop,Sx p.put] 87)).cell? (Ad a 0)=some (.slice pp s.out.length c):=(zC d a 0 (by show a<_;omega)).trans X;have x:(w.alloc (Oc #[I6 0,I6 p.drop,Sx p.put] 87)).cell? (Ad (a+2) 0)=some (I6 s.drop):=(zC d (a+2) 0 (by show a+2<_;omega)).trans h7;have A:(w.alloc (Oc #[I6 0,I6 p.drop,Sx p.put] 87)).frozen? (Ad (a+2) 0)=false:=(d.frozen (p:=(Ad (a+2) 0)) (by show a+2<_;omega)).trans h8;have E:(w.alloc (Oc #[I6 0,I6 p.drop,Sx p.put] 87)).cell? (Ad (a+3) 0)=some (.func (.func 153) #[] #[.pointer (some (Ad (a+1) 0)),Pd a 0,.pointer (some (Ad (a+2) 0))]):=(zC d (a+3) 0 (by show a+3<_;omega)).trans h9;have HP:=Aa O
 have HX:Hid (∀w1 l,w1.ownsRow M 5 1 l (s.put.length+(ByteArray.mk p.put.toArray).size) (Lib.byteCells s.put++Lib.strCells ⟨p.put.toArray⟩)->(w.alloc (Oc #[I6 0,I6 p.drop,Sx p.put] 87)).grownBy w1 (Value.slice r s.put.length m).ownBlock ->
     Aw M ((w1.setCell (Ad (a+1) 0) l).setCell (Ad (a+2) 0) (I6 (s.drop+p.drop))) a ⟨s.out,s.put++p.put,s.drop+p.drop⟩/\BelowG M a w ((w1.setCell (Ad (a+1) 0) l).setCell (Ad (a+2) 0) (I6 (s.drop+p.drop))) /\
     spare ((w1.setCell (Ad (a+1) 0) l).setCell (Ad (a+2) 0) (I6 (s.drop+p.drop))) a w.heap.size /\
     w1.cell? (Ad (a+1) 0)=some (.slice r s.put.length m)/\w1.frozen? (Ad (a+1) 0)=false/\w1.cell? (Ad (a+2) 0)=some (I6 s.drop)/\w1.frozen? (Ad (a+2) 0)=false /\
     w1.cell? (Ad (a+3) 0)=some (.func (.func 153) #[] #[.pointer (some (Ad (a+1) 0)),Pd a 0,.pointer (some (Ad (a+2) 0))]) /\
     (∀o,w1.cell? (Ad w.heap.size o)=(w.alloc (Oc #[I6 0,I6 p.drop,Sx p.put] 87)).cell? (Ad w.heap.size o))/\w.heap.size<w1.heap.size):=by
  intro w1 l q1 G;have hz:(ByteArray.mk p.put.toArray).size=p.put.length:=by simp[ByteArray.size]
  rw[hz]at q1;obtain⟨g1,g2,g3,g4⟩:=RN (q:=p.put) C.out hC q1 G;obtain⟨g5,g6⟩:=MH g1 (s.drop+p.drop);have z:∀k,(Value.slice r s.put.length m).ownBlock=some k->a+4<=k:=λk hk=>AF hM (O.lt k hk).1;have i:Below (a+4) (w.alloc (Oc #[I6 0,I6 p.drop,Sx p.put] 87)) w1:=(A9 _ _).grown G (by rw[Bb];omega) z;have L:=G.size;rw[Bb]at L;refine⟨g5,D.out.trans (g2.trans g6),⟨by simp;omega,H,?_⟩,g3,g4,(zC i (a+2) 0 (by show a+2<_;omega)).trans x,(i.frozen (p:=(Ad (a+2) 0)) (by show a+2<_;omega)).trans A,(zC i (a+3) 0 (by show a+3<_;omega)).trans E,?_,by omega⟩
  . intro v Y
    rw[Ce (by omega),Ce (by omega),(zC i a 0 (by show a<_;omega)),F]at Y;obtain rfl:=Bq Y;intro e;have:=t.out _ e;omega
  . intro o
    exact AE (a:=(Ad w.heap.size o)) (G.block w.heap.size (by rw[Bb];omega) (by intro e;have:=y.out _ e.symm;omega))
 clear h2 J O hC F x A E d X h3 h6 h7 h8 h9;have n0:a+1<w.heap.size:=by omega
 have HZ:Hid ((ByteArray.mk p.put.toArray).size=p.put.length):=by show _=_;simp[ByteArray.size]
 have n1:¬(a+1=w.heap.size):=by omega
 have n2:¬(w.heap.size=a+1):=by omega
 have n3:¬(a+2=w.heap.size):=by omega
 have n4:¬(w.heap.size=a+2):=by omega
 have I:IntKind.i64.wrap (s.drop+p.drop)=s.drop+p.drop:=by rw[BG];omega
 go_enter func154,ntmps154
 go_wp2_with (at_builtin;refine EH _ rfl _ _ 146 9 rfl M 5 i1 underlying146 underlying9 hj U P S _ _ _ rfl HP.out _ rfl (by rw[HZ.out];unfold maxLen;omega) (by rw[HZ.out];omega) (by simp;omega) ?_)
 intro l w1 f u _;have R:=HX.out w1 l f u;obtain⟨pv,cv,rfl⟩:=Bm f;obtain⟨W,B2,S2,r1,r2,r3,r4,r5,K,r7⟩:=R;have y0:=(K 0).trans x0;have y1:=(K 1).trans x1;have N:=Aa W;have Q:=Aa B2;clear f u x0 x1 K W B2 S2 HX t y HP C D h4;go_wp2;refine bodyPost_ret (results_none rfl _ _ _) rfl ?_;exact⟨⟨_,rfl⟩,N.out,Q.out⟩
theorem ba(a:Nat)(s:Av)(p:Pt)(w:World)(h:Aw M w a s)(C:s.put.length+p.put.length<1000000000)(hd: -9223372036854775808<=s.drop+p.drop)(hd':s.drop+p.drop<9223372036854775808)(hout:s.out.length<100000000)
    (hk:p.keep≠0) (L:List Pt) (hL:Aq ⟨s.out,s.put++p.put,s.drop+p.drop⟩=L) (hLq:L=[]) :
    Cg 154 #[(Cv p),.pointer (some (Ad (a+1) 0)),.pointer (some (Ad (a+2) 0)),.pointer (some (Ad (a+3) 0)),Pd a 0] w λe w'=>(∃v,e=.returned v)/\Aw M w' a ⟨L++[⟨p.keep,0,[]⟩],[],0⟩/\BelowG M a w w':=by
 have hM:=h.le;have hT:=h.top;obtain⟨i0,hi,hz0,hz1,hz2⟩:=info_parts Ho;obtain⟨i1,hj,hy0,hy1,hy2⟩:=info_parts Qd;have W:=Hf h;have d:Bw w (w.alloc (Oc #[I6 p.keep,I6 p.drop,Sx p.put] 87)):=zA _ _;have I:=Aa (JD h d);have J:Hid (BelowG M a w (w.alloc (Oc #[I6 p.keep,I6 p.drop,Sx p.put] 87))):=.of d (by omega);have x0:(w.alloc (Oc #[I6 p.keep,I6 p.drop,Sx p.put] 87)).cell? (Ad w.heap.size 0)=some (I6 p.keep):=by simp[go_sem]
 have x1:(w.alloc (Oc #[I6 p.keep,I6 p.drop,Sx p.put] 87)).cell? (Ad w.heap.size 1)=some (I6 p.drop):=by simp[go_sem]
 obtain⟨⟨pp,c,h1,h2⟩,h3,⟨t,r,h4,Z⟩,h6,h7,h8,h9⟩:=h;have x:Hid (∀k,(Value.slice pp s.out.length c).ownBlock=some k->k<w.heap.size):=λk l=>(h2.lt k l).2;have D:Hid (∀k,(Value.slice t s.put.length r).ownBlock=some k->k<w.heap.size):=λk l=>(Z.lt k l).2;have hP:(w.alloc (Oc #[I6 p.keep,I6 p.drop,Sx p.put] 87)).ownsRow M 5 1 (.slice t s.put.length r) s.put.length (Lib.byteCells s.put):=Z.alloc _;have hC:(w.alloc (Oc #[I6 p.keep,I6 p.drop,Sx p.put] 87)).cell? (Ad (a+1) 0)=some (.slice t s.put.length r):=(zC d (a+1) 0 (by show a+1<_;omega)).trans h4;have Q:(w.alloc (Oc #[I6 p.keep,I6 p.drop,Sx p.put] 87)).cell? (Ad a 0)=some (.slice pp s.out.length c):=(zC d a 0 (by show a<_;omega)).trans h1;have A:(w.alloc (Oc #[I6 p.keep,I6 p.drop,Sx p.put] 87)).cell? (Ad (a+2) 0)=some (I6 s.drop):=(zC d (a+2) 0 (by show a+2<_;omega)).trans h7;have G:(w.alloc (Oc #[I6 p.keep,I6 p.drop,Sx p.put] 87)).frozen? (Ad (a+2) 0)=false:=(d.frozen (p:=(Ad (a+2) 0)) (by show a+2<_;omega)).trans h8;have P:(w.alloc (Oc #[I6 p.keep,I6 p.drop,Sx p.put] 87)).cell? (Ad (a+3) 0)=some (.func (.func 153) #[] #[.pointer (some (Ad (a+1) 0)),Pd a 0,.pointer (some (Ad (a+2) 0))]):=(zC d (a+3) 0 (by show a+3<_;omega)).trans h9;have HP:=Aa hP
 have HX:Hid (∀w1 m,w1.ownsRow M 5 1 m (s.put.length+(ByteArray.mk p.put.toArray).size) (Lib.byteCells s.put++Lib.strCells ⟨p.put.toArray⟩)->(w.alloc (Oc #[I6 p.keep,I6 p.drop,Sx p.put] 87)).grownBy w1 (Value.slice t s.put.length r).ownBlock ->
     Aw M ((w1.setCell (Ad (a+1) 0) m).setCell (Ad (a+2) 0) (I6 (s.drop+p.drop))) a ⟨s.out,s.put++p.put,s.drop+p.drop⟩/\BelowG M a w ((w1.setCell (Ad (a+1) 0) m).setCell (Ad (a+2) 0) (I6 (s.drop+p.drop))) /\
     spare ((w1.setCell (Ad (a+1) 0) m).setCell (Ad (a+2) 0) (I6 (s.drop+p.drop))) a w.heap.size /\
     w1.cell? (Ad (a+1) 0)=some (.slice t s.put.length r)/\w1.frozen? (Ad (a+1) 0)=false/\w1.cell? (Ad (a+2) 0)=some (I6 s.drop)/\w1.frozen? (Ad (a+2) 0)=false /\
     w1.cell? (Ad (a+3) 0)=some (.func (.func 153) #[] #[.pointer (some (Ad (a+1) 0)),Pd a 0,.pointer (some (Ad (a+2) 0))]) /\
     (∀o,w1.cell? (Ad w.heap.size o)=(w.alloc (Oc #[I6 p.keep,I6 p.drop,Sx p.put] 87)).cell? (Ad w.heap.size o))/\w.heap.size<w1.heap.size):=by
  intro w1 m q1 U;have hz:(ByteArray.mk p.put.toArray).size=p.put.length:=by simp[ByteArray.size]
  rw[hz]at q1;obtain⟨g1,g2,g3,g4⟩:=RN (q:=p.put) I.out hC q1 U;obtain⟨g5,g6⟩:=MH g1 (s.drop+p.drop);have E:∀k,(Value.slice t s.put.length r).ownBlock=some k->a+4<=k:=λk hk=>AF hM (hP.lt k hk).1;have j:Below (a+4) (w.alloc (Oc #[I6 p.keep,I6 p.drop,Sx p.put] 87)) w1:=(A9 _ _).grown U (by rw[Bb];omega) E;have hsz:=U.size;rw[Bb]at hsz;refine⟨g5,J.out.trans (g2.trans g6),⟨by simp;omega,W,?_⟩,g3,g4,(zC j (a+2) 0 (by show a+2<_;omega)).trans A,(j.frozen (p:=(Ad (a+2) 0)) (by show a+2<_;omega)).trans G,(zC j (a+3) 0 (by show a+3<_;omega)).trans P,?_,by omega⟩
  . intro v hv
    rw[Ce (by omega),Ce (by omega),(zC j a 0 (by show a<_;omega)),Q]at hv;obtain rfl:=Bq hv;intro e;have:=x.out _ e;omega
  . intro o
    exact AE (a:=(Ad w.heap.size o)) (U.block w.heap.size (by rw[Bb];omega) (by intro e;have:=D.out _ e.symm;omega))
 clear h2 Z hP hC Q A G P d h1 h3 h6 h7 h8 h9;have n0:a+1<w.heap.size:=by omega
 have HZ:Hid ((ByteArray.mk p.put.toArray).size=p.put.length):=by show _=_;simp[ByteArray.size]
 have n1:¬(a+1=w.heap.size):=by omega
 have n2:¬(w.heap.size=a+1):=by omega
 have n3:¬(a+2=w.heap.size):=by omega
 have n4:¬(w.heap.size=a+2):=by omega
 have X:IntKind.i64.wrap (s.drop+p.drop)=s.drop+p.drop:=by rw[BG];omega
 unfold Cv
 go_enter func154,ntmps154
 go_wp2_with (at_builtin;refine EH _ rfl _ _ 146 9 rfl M 5 i1 underlying146 underlying9 hj hy0 hy1 hy2 _ _ _ rfl HP.out _ rfl (by rw[HZ.out];unfold maxLen;omega) (by rw[HZ.out];omega) (by simp;omega) ?_)
 intro m w1 f z _;have R:=HX.out w1 m f z;obtain⟨pv,cv,rfl⟩:=Bm f;obtain⟨G2,B2,S2,r1,r2,r3,r4,r5,r6,r7⟩:=R;have y0:=(r6 0).trans x0;have y1:=(r6 1).trans x1;have F:=Aa G2;have N:=Aa B2;have K:=Aa S2;clear f z x0 x1 r6 G2 B2 S2 HX x D HP I J h4;have hkb:(p.keep==0)=false:=beq_eq_false_iff_ne.2 hk
 go_wp2_with (go_at_call 9999)
 refine(RA a _ _ F.out (by show s.out.length<_;omega) (by show(s.put++p.put).length<_;rw[AA];exact C)).mono ?_;rintro e u ⟨⟨v3,rfl⟩,S,B3,S3⟩;have O:=S3 _ K.out;have z0:u.cell? (Ad w.heap.size 0)=some (I6 p.keep):=(AE (a:=(Ad w.heap.size 0)) O).trans (by rw[Ce (by omega),Ce (by omega)];exact y0);rw[hL]at S;have y:=Aa (N.out.trans B3);have hs3:w.heap.size<=u.heap.size:=y.out.size;clear S3 O B3 N K F y0 y1 r1 r2 r3 r4 r5 r7;subst hLq;have HG3:=Aa S;have hlt3:=Hf S;obtain⟨⟨p3,c3,u1,u2⟩,u3,_,_,_,_,_⟩:=S;have Y:Hid (u.cell? (Ad a 0)=some (.slice p3 0 c3)):=u1;have HU2:Hid (u.ownsRow M 87 3 (.slice p3 0 c3) 0 (Cw [])):=u2;have u1':u.cell? (Ad a 0)=some (.slice p3 0 c3):=u1;clear u1 u2
 go_wp2_with (at_builtin;refine wpList_append_own_at _ rfl _ _ 37 rfl M 87 i0 (.agg #[I6 0,I6 0,.string ⟨#[]⟩]) 3 32 underlying37 hi hz0 hz1 hz2 rfl (by decide) _ _ _ rfl (HU2.out.alloc _) (Ad u.heap.size 0) 1 1 (Ed ⟨p.keep,0,[]⟩) rfl rfl (He _ _ _) (Gx _) (by unfold maxLen;omega) (by omega) (by first | omega | (simp;omega)) ?_)
 intro v5 w5 i H _ _;have P5:=Oo (q:=⟨p.keep,0,[]⟩) HG3.out Y.out i H;obtain⟨p5,q5,rfl⟩:=Bm i;obtain⟨G5,B5,t1,t2⟩:=P5;have HG5:=Aa G5;have HB5:=Aa B5;clear i H G5 B5 u1' u3 z0;go_wp2;go_end0;exact⟨⟨_,rfl⟩,HG5.out,y.out.trans HB5.out⟩
theorem gB(a:Nat)(s:Av)(p:Pt)(w:World)(h:Aw M w a s)(K:s.put.length+p.put.length<1000000000)(hd: -9223372036854775808<=s.drop+p.drop)(hd':s.drop+p.drop<9223372036854775808)(hout:s.out.length<100000000)
    (hk:p.keep≠0) (L:List Pt) (hL:Aq ⟨s.out,s.put++p.put,s.drop+p.drop⟩=L) (init:List Pt) (q:Pt) (y:L=init++[q]) (hq:¬0<q.keep) :
    Cg 154 #[(Cv p),.pointer (some (Ad (a+1) 0)),.pointer (some (Ad (a+2) 0)),.pointer (some (Ad (a+3) 0)),Pd a 0] w λe w'=>(∃v,e=.returned v)/\Aw M w' a ⟨L++[⟨p.keep,0,[]⟩],[],0⟩/\BelowG M a w w':=by
 have hM:=h.le;have hT:=h.top;obtain⟨i0,hi,hz0,hz1,hz2⟩:=info_parts Ho;obtain⟨i1,hj,hy0,hy1,hy2⟩:=info_parts Qd;have hlt:=Hf h;have d:Bw w (w.alloc (Oc #[I6 p.keep,I6 p.drop,Sx p.put] 87)):=zA _ _;have U:=Aa (JD h d);have W:Hid (BelowG M a w (w.alloc (Oc #[I6 p.keep,I6 p.drop,Sx p.put] 87))):=.of d (by omega);have x0:(w.alloc (Oc #[I6 p.keep,I6 p.drop,Sx p.put] 87)).cell? (Ad w.heap.size 0)=some (I6 p.keep):=by simp[go_sem]
 have x1:(w.alloc (Oc #[I6 p.keep,I6 p.drop,Sx p.put] 87)).cell? (Ad w.heap.size 1)=some (I6 p.drop):=by simp[go_sem]
 obtain⟨⟨pp,c,h1,h2⟩,h3,⟨E,D,h4,h5⟩,h6,h7,h8,h9⟩:=h;have F:Hid (∀k,(Value.slice pp s.out.length c).ownBlock=some k->k<w.heap.size):=λk A=>(h2.lt k A).2;have N:Hid (∀k,(Value.slice E s.put.length D).ownBlock=some k->k<w.heap.size):=λk A=>(h5.lt k A).2;have hP:(w.alloc (Oc #[I6 p.keep,I6 p.drop,Sx p.put] 87)).ownsRow M 5 1 (.slice E s.put.length D) s.put.length (Lib.byteCells s.put):=h5.alloc _;have hC:(w.alloc (Oc #[I6 p.keep,I6 p.drop,Sx p.put] 87)).cell? (Ad (a+1) 0)=some (.slice E s.put.length D):=(zC d (a+1) 0 (by show a+1<_;omega)).trans h4;have hC0:(w.alloc (Oc #[I6 p.keep,I6 p.drop,Sx p.put] 87)).cell? (Ad a 0)=some (.slice pp s.out.length c):=(zC d a 0 (by show a<_;omega)).trans h1;have J:(w.alloc (Oc #[I6 p.keep,I6 p.drop,Sx p.put] 87)).cell? (Ad (a+2) 0)=some (I6 s.drop):=(zC d (a+2) 0 (by show a+2<_;omega)).trans h7;have Q:(w.alloc (Oc #[I6 p.keep,I6 p.drop,Sx p.put] 87)).frozen? (Ad (a+2) 0)=false:=(d.frozen (p:=(Ad (a+2) 0)) (by show a+2<_;omega)).trans h8;have hD3:(w.alloc (Oc #[I6 p.keep,I6 p.drop,Sx p.put] 87)).cell? (Ad (a+3) 0)=some (.func (.func 153) #[] #[.pointer (some (Ad (a+1) 0)),Pd a 0,.pointer (some (Ad (a+2) 0))]):=(zC d (a+3) 0 (by show a+3<_;omega)).trans h9;have HP:=Aa hP
 have HX:Hid (∀w1 C,w1.ownsRow M 5 1 C (s.put.length+(ByteArray.mk p.put.toArray).size) (Lib.byteCells s.put++Lib.strCells ⟨p.put.toArray⟩)->(w.alloc (Oc #[I6 p.keep,I6 p.drop,Sx p.put] 87)).grownBy w1 (Value.slice E s.put.length D).ownBlock ->
     Aw M ((w1.setCell (Ad (a+1) 0) C).setCell (Ad (a+2) 0) (I6 (s.drop+p.drop))) a ⟨s.out,s.put++p.put,s.drop+p.drop⟩/\BelowG M a w ((w1.setCell (Ad (a+1) 0) C).setCell (Ad (a+2) 0) (I6 (s.drop+p.drop))) /\
     spare ((w1.setCell (Ad (a+1) 0) C).setCell (Ad (a+2) 0) (I6 (s.drop+p.drop))) a w.heap.size /\
     w1.cell? (Ad (a+1) 0)=some (.slice E s.put.length D)/\w1.frozen? (Ad (a+1) 0)=false/\w1.cell? (Ad (a+2) 0)=some (I6 s.drop)/\w1.frozen? (Ad (a+2) 0)=false /\
     w1.cell? (Ad (a+3) 0)=some (.func (.func 153) #[] #[.pointer (some (Ad (a+1) 0)),Pd a 0,.pointer (some (Ad (a+2) 0))]) /\
     (∀o,w1.cell? (Ad w.heap.size o)=(w.alloc (Oc #[I6 p.keep,I6 p.drop,Sx p.put] 87)).cell? (Ad w.heap.size o))/\w.heap.size<w1.heap.size):=by
  intro w1 C q1 q2;have hz:(ByteArray.mk p.put.toArray).size=p.put.length:=by simp[ByteArray.size]
  rw[hz]at q1;obtain⟨g1,g2,g3,g4⟩:=RN (q:=p.put) U.out hC q1 q2;obtain⟨g5,g6⟩:=MH g1 (s.drop+p.drop);have O:∀k,(Value.slice E s.put.length D).ownBlock=some k->a+4<=k:=λk hk=>AF hM (hP.lt k hk).1;have t:Below (a+4) (w.alloc (Oc #[I6 p.keep,I6 p.drop,Sx p.put] 87)) w1:=(A9 _ _).grown q2 (by rw[Bb];omega) O;have hsz:=q2.size;rw[Bb]at hsz;refine⟨g5,W.out.trans (g2.trans g6),⟨by simp;omega,hlt,?_⟩,g3,g4,(zC t (a+2) 0 (by show a+2<_;omega)).trans J,(t.frozen (p:=(Ad (a+2) 0)) (by show a+2<_;omega)).trans Q,(zC t (a+3) 0 (by show a+3<_;omega)).trans hD3,?_,by omega⟩
  . intro v G
    rw[Ce (by omega),Ce (by omega),(zC t a 0 (by show a<_;omega)),hC0]at G;obtain rfl:=Bq G;intro e;have:=F.out _ e;omega
  . intro o
    exact AE (a:=(Ad w.heap.size o)) (q2.block w.heap.size (by rw[Bb];omega) (by intro e;have:=N.out _ e.symm;omega))
 clear h2 h5 hP hC hC0 J Q hD3 d h1 h3 h6 h7 h8 h9;have n0:a+1<w.heap.size:=by omega
 have HZ:Hid ((ByteArray.mk p.put.toArray).size=p.put.length):=by show _=_;simp[ByteArray.size]
 have n1:¬(a+1=w.heap.size):=by omega
 have n2:¬(w.heap.size=a+1):=by omega
 have n3:¬(a+2=w.heap.size):=by omega
 have n4:¬(w.heap.size=a+2):=by omega
 have hwrap:IntKind.i64.wrap (s.drop+p.drop)=s.drop+p.drop:=by rw[BG];omega
 unfold Cv
 go_enter func154,ntmps154
 go_wp2_with (at_builtin;refine EH _ rfl _ _ 146 9 rfl M 5 i1 underlying146 underlying9 hj hy0 hy1 hy2 _ _ _ rfl HP.out _ rfl (by rw[HZ.out];unfold maxLen;omega) (by rw[HZ.out];omega) (by simp;omega) ?_)
 intro C w1 i I _;have R:=HX.out w1 C i I;obtain⟨pv,cv,rfl⟩:=Bm i;obtain⟨G2,B2,S2,r1,r2,r3,r4,r5,r6,r7⟩:=R;have y0:=(r6 0).trans x0;have y1:=(r6 1).trans x1;have P:=Aa G2;have Y:=Aa B2;have X:=Aa S2;clear i I x0 x1 r6 G2 B2 S2 HX F N HP U W h4;have hkb:(p.keep==0)=false:=beq_eq_false_iff_ne.2 hk
 go_wp2_with (go_at_call 9999)
 refine(RA a _ _ P.out (by show s.out.length<_;omega) (by show(s.put++p.put).length<_;rw[AA];exact K)).mono ?_;rintro e x ⟨⟨v3,rfl⟩,G3,B3,S3⟩;have Z:=S3 _ X.out;have z0:x.cell? (Ad w.heap.size 0)=some (I6 p.keep):=(AE (a:=(Ad w.heap.size 0)) Z).trans (by rw[Ce (by omega),Ce (by omega)];exact y0);rw[hL]at G3;have H:=Aa (Y.out.trans B3);have hs3:w.heap.size<=x.heap.size:=H.out.size;clear S3 Z B3 Y X P y0 y1 r1 r2 r3 r4 r5 r7;obtain⟨m,hm⟩:∃m,m=init.length:=⟨_,rfl⟩;have r:L.length=m+1:=by rw[y,hm];simp
 have u:=Aa r
 have hbig:m+1<1000000000:=by
  have h1:L.length<=s.out.length+2:=by
   rw[←hL,Aq];simp only[AA]
   split<;>split<;>simp
  omega
 have HG3:=Aa G3;have hlt3:=Hf G3;obtain⟨⟨p3,c3,u1,u2⟩,u3,_,_,_,_,_⟩:=G3;have z:x.cell? (Ad a 0)=some (.slice p3 (m+1) c3):=by rw[←r];exact u1
 have l:x.ownsRow M 87 3 (.slice p3 (m+1) c3) (m+1) (Cw L):=by rw[←r];exact u2
 obtain ⟨g,rfl⟩:∃g,p3=some (Ad g 0):=by
  rcases l.2 with ⟨_,h0⟩|⟨g,cap,cur,G,_⟩
  . exact absurd h0 (by omega)
  . simp only[Value.slice.injEq]at G
    exact⟨g,G.1⟩
 have hgl:=(l.lt g rfl);have hlc:=Zh (by rw[y]at l;exact l) (show m+1=_ by rw[←y];exact r.symm);rw[←hm]at hlc;obtain⟨l0,l1,l2,l3⟩:=hlc;have HU2:=Aa l;have hwm:IntKind.i64.wrap (((m+1:Nat):Int) - 1)=(m:Int):=by rw[BG];omega
 have hge:(0:Int)<=(m:Int):=by omega
 have hlm:(m:Int)<((m+1:Nat):Int):=by omega
 clear u1 u2 l r hm y
 go_wp2_with (go_at_call 9999)
 refine(KD q _).mono ?_;rintro e w4 ⟨rfl,f⟩;have G4:=JD HG3.out f;have HG4:=Aa G4;have HB4:Hid (BelowG M a w w4):=H.out.trans (.of f (by omega));have s0:=(zC f w.heap.size 0 (Ca x _ z0)).trans z0;have s1:=(zC f a 0 (Ca x _ z)).trans z;have sF:=(f.frozen (p:=(Ad a 0)) (Ca x _ z)).trans u3;have s2:=(zC f g (m*3) (Ca x _ l0)).trans l0;have s3:=(f.frozen (p:=(Ad g (m*3))) (Ca x _ l0)).trans l3;have s4:=Fe HU2.out f;have HS4:=Aa s4;have HS1:=Aa s1;have hs4:=f.size;clear f s4 G4 z u3 l0 l1 l2 l3 z0;have hqd:decide (0<q.keep)=false:=decide_eq_false (by omega);rw[hqd]
 go_wp2_with (at_builtin;refine wpList_append_own_at _ rfl _ _ 37 rfl M 87 i0 (.agg #[I6 0,I6 0,.string ⟨#[]⟩]) 3 32 underlying37 hi hz0 hz1 hz2 rfl (by decide) _ _ _ rfl (HS4.out.alloc _) (Ad w4.heap.size 0) 1 1 (Ed ⟨p.keep,0,[]⟩) rfl rfl (He _ _ _) (Gx _) (by unfold maxLen;omega) (by omega) (by first | omega | (simp;omega)) ?_)
 intro v5 w5 j S _ _;have P5:=Oo (q:=⟨p.keep,0,[]⟩) HG4.out (show w4.cell? (Ad a 0)=some (Sl g L.length c3) by rw[u.out];exact HS1.out) (by show World.ownsRow _ _ _ _ _ (L.length+1) _;rw[u.out];exact j) (by show World.grownBy _ _ (Value.slice _ L.length _).ownBlock;rw[u.out];exact S);obtain⟨p5,q5,rfl⟩:=Bm j;obtain⟨G5,B5,t1,t2⟩:=P5;have HG5:=Aa G5;have HB5:=Aa B5;have t1':w5.cell? (Ad a 0)=some (Sl g (m+1) c3):=by rw[t1];show some (Value.slice _ L.length _)=_;rw[u.out]
 clear j S G5 B5 s0 s1 s2 s3 sF t1;go_wp2;go_end0;exact⟨⟨_,rfl⟩,HG5.out,HB4.out.trans HB5.out⟩
theorem ec(a:Nat)(s:Av)(p:Pt)(w:World)(h:Aw M w a s)(J:s.put.length+p.put.length<1000000000)(hd: -9223372036854775808<=s.drop+p.drop)(hd':s.drop+p.drop<9223372036854775808)(hout:s.out.length<100000000)
    (hk:p.keep≠0) (L:List Pt) (hL:Aq ⟨s.out,s.put++p.put,s.drop+p.drop⟩=L) (init:List Pt) (q:Pt) (r:L=init++[q]) (hq:0<q.keep) (hb0: -9223372036854775808<=q.keep+p.keep) (hb1:q.keep+p.keep<9223372036854775808) :
    Cg 154 #[(Cv p),.pointer (some (Ad (a+1) 0)),.pointer (some (Ad (a+2) 0)),.pointer (some (Ad (a+3) 0)),Pd a 0] w λe w'=>(∃v,e=.returned v)/\Aw M w' a ⟨init++[⟨q.keep+p.keep,q.drop,q.put⟩],[],0⟩/\BelowG M a w w':=by
 have hM:=h.le;have hT:=h.top;obtain⟨i0,hi,hz0,hz1,hz2⟩:=info_parts Ho;obtain⟨i1,hj,hy0,hy1,hy2⟩:=info_parts Qd;have hlt:=Hf h;have d:Bw w (w.alloc (Oc #[I6 p.keep,I6 p.drop,Sx p.put] 87)):=zA _ _;have Q:=Aa (JD h d);have S:Hid (BelowG M a w (w.alloc (Oc #[I6 p.keep,I6 p.drop,Sx p.put] 87))):=.of d (by omega);have x0:(w.alloc (Oc #[I6 p.keep,I6 p.drop,Sx p.put] 87)).cell? (Ad w.heap.size 0)=some (I6 p.keep):=by simp[go_sem]
 have x1:(w.alloc (Oc #[I6 p.keep,I6 p.drop,Sx p.put] 87)).cell? (Ad w.heap.size 1)=some (I6 p.drop):=by simp[go_sem]
 obtain⟨⟨pp,c,h1,h2⟩,h3,⟨C,A,h4,h5⟩,h6,h7,h8,h9⟩:=h;have D:Hid (∀k,(Value.slice pp s.out.length c).ownBlock=some k->k<w.heap.size):=λk y=>(h2.lt k y).2;have K:Hid (∀k,(Value.slice C s.put.length A).ownBlock=some k->k<w.heap.size):=λk y=>(h5.lt k y).2;have hP:(w.alloc (Oc #[I6 p.keep,I6 p.drop,Sx p.put] 87)).ownsRow M 5 1 (.slice C s.put.length A) s.put.length (Lib.byteCells s.put):=h5.alloc _;have hC:(w.alloc (Oc #[I6 p.keep,I6 p.drop,Sx p.put] 87)).cell? (Ad (a+1) 0)=some (.slice C s.put.length A):=(zC d (a+1) 0 (by show a+1<_;omega)).trans h4;have hC0:(w.alloc (Oc #[I6 p.keep,I6 p.drop,Sx p.put] 87)).cell? (Ad a 0)=some (.slice pp s.out.length c):=(zC d a 0 (by show a<_;omega)).trans h1;have H:(w.alloc (Oc #[I6 p.keep,I6 p.drop,Sx p.put] 87)).cell? (Ad (a+2) 0)=some (I6 s.drop):=(zC d (a+2) 0 (by show a+2<_;omega)).trans h7;have P:(w.alloc (Oc #[I6 p.keep,I6 p.drop,Sx p.put] 87)).frozen? (Ad (a+2) 0)=false:=(d.frozen (p:=(Ad (a+2) 0)) (by show a+2<_;omega)).trans h8;have Z:(w.alloc (Oc #[I6 p.keep,I6 p.drop,Sx p.put] 87)).cell? (Ad (a+3) 0)=some (.func (.func 153) #[] #[.pointer (some (Ad (a+1) 0)),Pd a 0,.pointer (some (Ad (a+2) 0))]):=(zC d (a+3) 0 (by show a+3<_;omega)).trans h9;have HP:=Aa hP
 have HX:Hid (∀w1 z,w1.ownsRow M 5 1 z (s.put.length+(ByteArray.mk p.put.toArray).size) (Lib.byteCells s.put++Lib.strCells ⟨p.put.toArray⟩)->(w.alloc (Oc #[I6 p.keep,I6 p.drop,Sx p.put] 87)).grownBy w1 (Value.slice C s.put.length A).ownBlock ->
     Aw M ((w1.setCell (Ad (a+1) 0) z).setCell (Ad (a+2) 0) (I6 (s.drop+p.drop))) a ⟨s.out,s.put++p.put,s.drop+p.drop⟩/\BelowG M a w ((w1.setCell (Ad (a+1) 0) z).setCell (Ad (a+2) 0) (I6 (s.drop+p.drop))) /\
     spare ((w1.setCell (Ad (a+1) 0) z).setCell (Ad (a+2) 0) (I6 (s.drop+p.drop))) a w.heap.size /\
     w1.cell? (Ad (a+1) 0)=some (.slice C s.put.length A)/\w1.frozen? (Ad (a+1) 0)=false/\w1.cell? (Ad (a+2) 0)=some (I6 s.drop)/\w1.frozen? (Ad (a+2) 0)=false /\
     w1.cell? (Ad (a+3) 0)=some (.func (.func 153) #[] #[.pointer (some (Ad (a+1) 0)),Pd a 0,.pointer (some (Ad (a+2) 0))]) /\
     (∀o,w1.cell? (Ad w.heap.size o)=(w.alloc (Oc #[I6 p.keep,I6 p.drop,Sx p.put] 87)).cell? (Ad w.heap.size o))/\w.heap.size<w1.heap.size):=by
  intro w1 z q1 q2;have hz:(ByteArray.mk p.put.toArray).size=p.put.length:=by simp[ByteArray.size]
  rw[hz]at q1;obtain⟨g1,g2,g3,g4⟩:=RN (q:=p.put) Q.out hC q1 q2;obtain⟨g5,g6⟩:=MH g1 (s.drop+p.drop);have N:∀k,(Value.slice C s.put.length A).ownBlock=some k->a+4<=k:=λk hk=>AF hM (hP.lt k hk).1;have t:Below (a+4) (w.alloc (Oc #[I6 p.keep,I6 p.drop,Sx p.put] 87)) w1:=(A9 _ _).grown q2 (by rw[Bb];omega) N;have hsz:=q2.size;rw[Bb]at hsz;refine⟨g5,S.out.trans (g2.trans g6),⟨by simp;omega,hlt,?_⟩,g3,g4,(zC t (a+2) 0 (by show a+2<_;omega)).trans H,(t.frozen (p:=(Ad (a+2) 0)) (by show a+2<_;omega)).trans P,(zC t (a+3) 0 (by show a+3<_;omega)).trans Z,?_,by omega⟩
  . intro v E
    rw[Ce (by omega),Ce (by omega),(zC t a 0 (by show a<_;omega)),hC0]at E;obtain rfl:=Bq E;intro e;have:=D.out _ e;omega
  . intro o
    exact AE (a:=(Ad w.heap.size o)) (q2.block w.heap.size (by rw[Bb];omega) (by intro e;have:=K.out _ e.symm;omega))
 clear h2 h5 hP hC hC0 H P Z d h1 h3 h6 h7 h8 h9;have n0:a+1<w.heap.size:=by omega
 have HZ:Hid ((ByteArray.mk p.put.toArray).size=p.put.length):=by show _=_;simp[ByteArray.size]
 have n1:¬(a+1=w.heap.size):=by omega
 have n2:¬(w.heap.size=a+1):=by omega
 have n3:¬(a+2=w.heap.size):=by omega
 have n4:¬(w.heap.size=a+2):=by omega
 have hwrap:IntKind.i64.wrap (s.drop+p.drop)=s.drop+p.drop:=by rw[BG];omega
 unfold Cv
 go_enter func154,ntmps154
 go_wp2_with (at_builtin;refine EH _ rfl _ _ 146 9 rfl M 5 i1 underlying146 underlying9 hj hy0 hy1 hy2 _ _ _ rfl HP.out _ rfl (by rw[HZ.out];unfold maxLen;omega) (by rw[HZ.out];omega) (by simp;omega) ?_)
 intro z w1 i G _;have R:=HX.out w1 z i G;obtain⟨pv,cv,rfl⟩:=Bm i;obtain⟨G2,B2,S2,r1,r2,r3,r4,r5,r6,r7⟩:=R;have y0:=(r6 0).trans x0;have y1:=(r6 1).trans x1;have O:=Aa G2;have X:=Aa B2;have U:=Aa S2;clear i G x0 x1 r6 G2 B2 S2 HX D K HP Q S h4;have hkb:(p.keep==0)=false:=beq_eq_false_iff_ne.2 hk
 go_wp2_with (go_at_call 9999)
 refine(RA a _ _ O.out (by show s.out.length<_;omega) (by show(s.put++p.put).length<_;rw[AA];exact J)).mono ?_;rintro e u ⟨⟨v3,rfl⟩,G3,B3,S3⟩;have Y:=S3 _ U.out;have z0:u.cell? (Ad w.heap.size 0)=some (I6 p.keep):=(AE (a:=(Ad w.heap.size 0)) Y).trans (by rw[Ce (by omega),Ce (by omega)];exact y0);rw[hL]at G3;have F:=Aa (X.out.trans B3);have hs3:w.heap.size<=u.heap.size:=F.out.size;clear S3 Y B3 X U O y0 y1 r1 r2 r3 r4 r5 r7;obtain⟨m,hm⟩:∃m,m=init.length:=⟨_,rfl⟩;have l:L.length=m+1:=by rw[r,hm];simp
 have HLN:=Aa l
 have hbig:m+1<1000000000:=by
  have h1:L.length<=s.out.length+2:=by
   rw[←hL,Aq];simp only[AA]
   split<;>split<;>simp
  omega
 have HG3:=Aa G3;have hlt3:=Hf G3;obtain⟨⟨p3,c3,u1,u2⟩,u3,_,_,_,_,_⟩:=G3;have x:u.cell? (Ad a 0)=some (.slice p3 (m+1) c3):=by rw[←l];exact u1
 have j:u.ownsRow M 87 3 (.slice p3 (m+1) c3) (m+1) (Cw L):=by rw[←l];exact u2
 obtain ⟨g,rfl⟩:∃g,p3=some (Ad g 0):=by
  rcases j.2 with ⟨_,h0⟩|⟨g,cap,cur,E,_⟩
  . exact absurd h0 (by omega)
  . simp only[Value.slice.injEq]at E
    exact⟨g,E.1⟩
 have hgl:=(j.lt g rfl);have hlc:=Zh (by rw[r]at j;exact j) (show m+1=_ by rw[←r];exact l.symm);rw[←hm]at hlc;obtain⟨l0,l1,l2,l3⟩:=hlc;have HU2:=Aa j;have hwm:IntKind.i64.wrap (((m+1:Nat):Int) - 1)=(m:Int):=by rw[BG];omega
 have hge:(0:Int)<=(m:Int):=by omega
 have hlm:(m:Int)<((m+1:Nat):Int):=by omega
 have HM:=Aa hm;have W:=Aa r;clear u1 u2 j l hm r
 go_wp2_with (go_at_call 9999)
 refine(KD q _).mono ?_;rintro e w4 ⟨rfl,f⟩;have G4:=JD HG3.out f;have HG4:=Aa G4;have HB4:Hid (BelowG M a w w4):=F.out.trans (.of f (by omega));have s0:=(zC f w.heap.size 0 (Ca u _ z0)).trans z0;have s1:=(zC f a 0 (Ca u _ x)).trans x;have sF:=(f.frozen (p:=(Ad a 0)) (Ca u _ x)).trans u3;have s2:=(zC f g (m*3) (Ca u _ l0)).trans l0;have s3:=(f.frozen (p:=(Ad g (m*3))) (Ca u _ l0)).trans l3;have s4:=Fe HU2.out f;have HS1:=Aa s1;have hs4:=f.size;clear f s4 G4 x u3 l0 l1 l2 l3 z0;have hqd:decide (0<q.keep)=true:=decide_eq_true (by omega);rw[hqd];have hwk:IntKind.i64.wrap (q.keep+p.keep)=q.keep+p.keep:=by rw[BG];omega
 have HG5:Hid (Aw M w4.drew a ⟨init++[q],[],0⟩):=by
  have:=JD HG4.out (A9 _ w4).drew;rw[W.out]at this;exact this
 have P5:=dK (k:=q.keep+p.keep) HG5.out (show w4.drew.cell? (Ad a 0)=some (Sl g (m+1) c3) from HS1.out) (by rw[←W.out];exact HLN.out.symm);rw[←HM.out]at P5;have I:=Aa P5;have HBD:=Aa HB4.out.drew;clear P5;go_wp2
 go_region
 all_goals
  go_wp2;refine bodyPost_ret (results_none rfl _ _ _) rfl ?_;exact⟨⟨_,rfl⟩,I.out.1,HBD.out.trans I.out.2⟩
theorem Wj(a:Nat)(s:Av)(p:Pt)(w:World)(h:Aw M w a s)(d:s.put.length+p.put.length<1000000000)(F:0<=s.drop)(z:s.drop+p.drop<4611686018427387904)(E:0<=p.drop)(D:0<=p.keep)(f:s.out.length<100000000)
    (u:∀q∈s.out,0<=q.keep/\q.keep+p.keep<4611686018427387904) (m:p.keep<4611686018427387904) :
    Cg 154 #[Cv p,.pointer (some (Ad (a+1) 0)),.pointer (some (Ad (a+2) 0)),.pointer (some (Ad (a+3) 0)),Pd a 0] w λe w'=>(∃v,e=.returned v)/\Aw M w' a (Af s p)/\BelowG M a w w':=by
 have A:=h.le;have C:=h.top
 by_cases j:p.keep=0
 . have:=add_zero a s p w h d (by omega) (by omega) f
   unfold Af Cv;rw[if_pos j,j];exact this
 . obtain ⟨L,t⟩:∃L,Aq ⟨s.out,s.put++p.put,s.drop+p.drop⟩=L:=⟨_,rfl⟩
   unfold Af;rw[if_neg j,t]
   have r:∀q∈L,0<=q.keep/\q.keep+p.keep<4611686018427387904:=by
    intro q i;rw[←t,Aq]at i;simp only[EQ]at i
    rcases i with i|i|i
    . exact u q i
    . split at i
      . simp at i
      . rw[List.mem_singleton.1 i];exact⟨by simp,by simpa using m⟩
    . split at i
      . simp at i
      . rw[List.mem_singleton.1 i];exact⟨by simp,by simpa using m⟩
   rcases List.eq_nil_or_concat L with y|⟨init,q,k⟩
   . have:=ba a s p w h d (by omega) (by omega) f j L t y
     subst y;exact this
   . have i:=r q (by rw[k];simp)
     have x:L.getLast?=some q:=by rw[k];simp
     by_cases l:0<q.keep
     . have:=ec a s p w h d (by omega) (by omega) f j L t init q (by simpa using k) l (by omega) (by omega)
       have e:F8 L p.keep=init++[⟨q.keep+p.keep,q.drop,q.put⟩]:=by simp[F8,l,k]
       rw[e];exact this
     . have:=gB a s p w h d (by omega) (by omega) f j L t init q (by simpa using k) l
       have e:F8 L p.keep=L++[⟨p.keep,0,[]⟩]:=by simp[F8,x,l]
       rw[e];exact this
theorem aY(a:Nat)(s:Av)(p:Pt)(w:World)(h:Aw M w a s)(d:s.put.length+p.put.length<1000000000)(m:0<=s.drop)(i:s.drop+p.drop<4611686018427387904)(r:0<=p.drop)(l:0<=p.keep)(f:s.out.length<100000000)
    (j:∀q∈s.out,0<=q.keep/\q.keep+p.keep<4611686018427387904) (k:p.keep<4611686018427387904) :
    Cg 154 #[Cv p,.pointer (some (Ad (a+1) 0)),.pointer (some (Ad (a+2) 0)),.pointer (some (Ad (a+3) 0)),Pd a 0] w λe w'=>(∃v,e=.returned v)/\Aw M w' a (Af s p)/\Below a w w' :=
 (Wj a s p w h d m i r l f j k).mono λe w' h=>⟨h.1,h.2.1,h.2.2.below⟩
theorem cj(a:Nat)(s:Av)(w:World)(h:Aw M w a s)(f:s.out.length<1000000000)(d:s.put.length<1000000000) :
    Cg 155 #[.pointer (some (Ad (a+3) 0)),Pd a 0] w λe w'=>∃v,e=.returned v/\w'.ownsRow M 87 3 v (Aq s).length (Cw (Aq s))/\Below a w w' :=
 (RI a s w h f d).mono λe w' h=>(by obtain⟨v,j,k,i⟩:=h;exact⟨v,j,k,i.below⟩)
end
section
variable {w : World}{v : Value}{ps : List Pt}{B C : Nat}
def Ae (w:World) (v:Value) (ps:List Pt):Prop :=
 ∃ p c,v=.slice p ps.length c/\ps.length<=c/\c<=maxLen/\(ps≠[]->∃b o,p=some (Ad b o)/\b<w.heap.size/\∀i q,ps[i]?=some q ->
  w.cell? (Ad b (o+i*3))=some (I6 q.keep)/\w.cell? (Ad b (o+i*3+1))=some (I6 q.drop)/\w.cell? (Ad b (o+i*3+2))=some (Sx q.put))
theorem Ec{w':World}(h:Ae w v ps){B:Nat}(d:Below B w w')(k:w.heap.size<=B):Ae w' v ps:=by
 obtain⟨p,c,rfl,x,y,t⟩:=h;refine⟨p,c,rfl,x,y,λj=>?_⟩;obtain⟨b,o,A,f,r⟩:=t j;refine⟨b,o,A,AK f d.size,λi q m=>?_⟩;obtain⟨l,u,z⟩:=r i q m;exact⟨(zC d b (o+i*3) (AK f k)).trans l,(zC d b (o+i*3+1) (AK f k)).trans u,(zC d b (o+i*3+2) (AK f k)).trans z⟩
theorem Sb(ps:List Pt)(i:Nat)(q:Pt)(d:ps[i]?=some q):∀j,j<3->(Cw ps)[i*3+j]?=(Ed q)[j]?:=by
 induction ps generalizing i with
 | nil=>simp at d
 | cons p ps ih =>
  intro j h;have e:Cw (p :: ps)=Ed p++Cw ps:=rfl;have f:(Ed p).length=3:=rfl;rw[e]
  cases i with
  | zero =>
   simp only[List.getElem?_cons_zero,Option.some.injEq]at d;subst d;rw[FT,DC,AX (by rw[f];exact h)]
  | succ i =>
   rw[AL (by rw[f];omega),f,←ih i (by simpa using d) j h]
   congr 1
   omega
theorem Ny(h:w.ownsRow B 87 3 v ps.length (Cw ps)):Ae w v ps:=by
 have d:=h
 rcases h.2 with ⟨rfl,l⟩|⟨g,f,u,rfl,l,m,r,x,z,y⟩
 . obtain rfl:ps=[]:=BC l
   exact⟨none,0,rfl,Ai _,AV _,λh=>absurd rfl h⟩
 . refine⟨_,f,rfl,r,x,λ_=>⟨g,0,rfl,(As m),λi q k=>?_⟩⟩
   have t:=(De k);have j:=Sb ps i q k;refine⟨?_,?_,?_⟩
   . rw[DC,d.cellAt _ (by omega)];exact j 0 (by omega)
   . rw[DC,d.cellAt _ (by omega)];exact j 1 (by omega)
   . rw[DC,d.cellAt _ (by omega)];exact j 2 (by omega)
def opN (B:Nat) (w:World) (v:Value) (ps:List Pt):Prop:=Ae w v ps/\∀k,v.ownBlock=some k->B<=k/\∃cs fz,w.heap[k]?=some (.cells cs 87 fz)
theorem J6(l:C<=B)(h:w.ownsRow B 87 3 v ps.length (Cw ps)):opN C w v ps:=by
 refine⟨Ny h,λk d=>⟨AF l (h.lt k d).1,?_⟩⟩
 rcases h.2 with ⟨rfl,_⟩|⟨g,i,f,rfl,_,j,_⟩
 . cases d
 . obtain rfl:g=k:=Bq d
   exact⟨f,_,j⟩
theorem Ik(B:Nat)(w:World):opN B w (.slice none 0 0) []:=⟨⟨none,0,rfl,Ai _,AV _,λh=>absurd rfl h⟩,λk d=>by cases d⟩
theorem opN.mono(h:opN B w v ps)(f:C<=B):opN C w v ps:=⟨h.1,λk d=>⟨AF f (h.2 k d).1,(h.2 k d).2⟩⟩
def Ek (p:Pt):Prop:=0<=p.keep/\0<=p.drop
def Ee (p:Pt):Int:=p.keep+p.drop+p.put.length
def Bj (ps:List Pt):Int:=(ps.map Ee).sum
theorem NC(ps:List Pt)(p:Pt):Bj (ps++[p])=Bj ps+Ee p:=by simp[Bj]
theorem Sn(h:∀p∈ps,Ek p):0<=Bj ps:=by
 induction ps with
 | nil=>simp[Bj]
 | cons p ps ih =>
  have d:=h p (EO ..);have f:=ih λq i=>h q (DS _ i);unfold Bj at f ⊢;rw[AY,BQ];unfold Ek at d;have:0<=Ee p:=by unfold Ee;omega
  omega
theorem RG(h:∀p∈ps,Ek p)(k:Nat):Bj (ps.take k)<=Bj ps:=by
 have f:Bj ps=Bj (ps.take k)+Bj (ps.drop k):=by
  unfold Bj;rw[←DK,←BM,AW]
 have i:=Sn (ps:=ps.drop k) λq d=>h q (DJ d);omega
structure Bd (s:Av) (T:Int) (n:Nat):Prop where
 put:(s.put.length:Int)<=T
 d0:0<=s.drop
 dT:s.drop<=T
 keep:∀q∈s.out,0<=q.keep/\q.keep<=T
 len:s.out.length<=3*n
theorem Vn:Bd A7 0 0:=⟨by simp[A7],by simp[A7],by simp[A7],by simp[A7],by simp[A7]⟩
theorem Bd.add{s:Av}{T:Int}{n:Nat}(h:Bd s T n)(p:Pt)(H:Ek p):Bd (Af s p) (T+Ee p) (n+1):=by
 obtain⟨k,d,q⟩:=p;obtain⟨z,A⟩:=H;obtain⟨J,D,F,t,K⟩:=h;have G:Ee ⟨k,d,q⟩=k+d+q.length:=rfl;have E:(0:Int)<=k:=z;have I:(0:Int)<=d:=A;have u:0<=T:=GN D F;rw[G];unfold Af
 by_cases y:k=0
 . rw [if_pos y]
   refine⟨?_,?_,?_,?_,?_⟩
   . show((s.put++q).length:Int)<=_
     rw[AA];omega
   . show 0<=s.drop+d;omega
   . show s.drop+d<=_;omega
   . intro x f
     have:=t x f;omega
   . show s.out.length<=_;omega
 . rw [if_neg y]
   obtain⟨L,m⟩:∃L,Aq ⟨s.out,s.put++q,s.drop+d⟩=L:=⟨_,rfl⟩
   have l:∀x∈L,0<=x.keep/\x.keep<=T:=by
    intro x f;rw[←m,Aq]at f;simp only[EQ]at f
    rcases f with f|f|f
    . exact t x f
    . split at f
      . simp at f
      . rw[List.mem_singleton.1 f];exact⟨by simp,u⟩
    . split at f
      . simp at f
      . rw[List.mem_singleton.1 f];exact⟨by simp,u⟩
   have N:L.length<=s.out.length+2:=by
    rw[←m,Aq];simp only[AA]
    split<;>split<;>simp
   have j:(∀x∈F8 L k,0<=x.keep/\x.keep<=T+k)/\(F8 L k).length<=L.length+1:=by
    have i:(∀x∈L++[⟨k,0,[]⟩],0<=x.keep/\x.keep<=T+k)/\(L++[(⟨k,0,[]⟩:Pt)]).length<=L.length+1:=by
     refine⟨λx f=>?_,by simp⟩
     rcases List.mem_append.1 f with f|f
     . have:=l x f;omega
     . rw[List.mem_singleton.1 f];exact⟨E,by show k<=_;omega⟩
    unfold F8
    split
    . rename_i q0 hq0
      split
      . rename_i hq1
        have r:q0∈L:=GF hq0;have:=l q0 r;refine⟨λx f=>?_,by simp⟩
        rcases List.mem_append.1 f with f|f
        . have:=l x (GG _ f);omega
        . rw[List.mem_singleton.1 f];exact⟨by show 0<=q0.keep+k;omega,by show q0.keep+k<=_;omega⟩
      . exact i
    . exact i
   rw[m];refine⟨?_,by simp,?_,?_,?_⟩
   . show((0:Nat):Int)<=_;omega
   . show(0:Int)<=_;omega
   . intro x f
     have:=j.1 x f;show 0<=x.keep/\x.keep<=T+(k+d+q.length);omega
   . have:=j.2
     show(F8 L k).length<=_;omega
theorem QX(ps:List Pt)(h:∀p∈ps,Ek p):Bd (ps.foldl Af A7) (Bj ps) ps.length:=by
 have d:∀n,n<=ps.length->Bd ((ps.take n).foldl Af A7) (Bj (ps.take n)) n:=by
  intro n
  induction n with
  | zero=>intro _;exact Vn
  | succ n ih =>
   intro f;have:=ih (by omega);rw[AD (by omega),BJ,NC];exact this.add _ (h _ (BE _))
 have:=d ps.length (Ai _);rwa[BV]at this
theorem Ol(v:Value)(ps:List Pt)(w:World)(hr:Ae w v ps)(hs:∀p∈ps,Ek p)(hw:Bj ps<1000000000)(hl:ps.length<10000000) :
    Cg 113 #[v] w λe w'=>∃v',e=.returned v'/\w'.ownsRow w.heap.size 87 3 v' (Ag ps).length (Cw (Ag ps))/\Bw w w'/\w.heap.size+4<=w'.heap.size:=by
 obtain⟨p,c,rfl,r1,r2,r3⟩:=hr;obtain⟨n,hn⟩:∃n,n=ps.length:=⟨_,rfl⟩;rw[←hn]at r1 hl ⊢;have HN:=Aa hn;clear hn
 have R3:Hid (ps≠[]->∃b o,p=some (Ad b o)/\b<w.heap.size/\∀i q,ps[i]?=some q ->
  w.cell? (Ad b (o+i*3))=some (I6 q.keep)/\w.cell? (Ad b (o+i*3+1))=some (I6 q.drop)/\w.cell? (Ad b (o+i*3+2))=some (Sx q.put)):=r3
 have A:=Aa hs;have HW:=Aa hw;clear r3 hs hw
 go_enter func113,ntmps113
 go_wp2_with (go_at_call 111;refine(Se w).mono ?_;rintro e w1 ⟨rfl,I,U,E⟩;have u:Hid (Aw (w.heap.size+4) w1 w.heap.size A7):=I _ _ (A9 _ _) (Ai _) (by omega);clear U;have z:=Aa E;clear I E)
 go_loopw [13] (λi wr=>∃(k:Nat),k<=n/\i=.int .i64 k/\Aw (w.heap.size+4) wr w.heap.size ((ps.take k).foldl Af A7)/\Bw w wr) (λi _=>n - (intOf i).toNat)
 case atStart=>exact⟨0,AV _,rfl,u.out,z.out⟩
 case round =>
  obtain⟨k,hk,rfl,r,d⟩:=hrel
  by_cases W:k<n
  . have l:k<ps.length:=by rw[←HN.out];exact W
    have hne:ps≠[]:=by intro e;rw[e]at l;exact absurd l (AP _)
    obtain⟨b,o,rfl,t,f⟩:=R3.out hne;obtain⟨c0,c1,c2⟩:=f k ps[k] (B7 l);have g0:=(zC d b (o+k*3) t).trans c0;have g1:=(zC d b (o+k*3+1) t).trans c1;have g2:=(zC d b (o+k*3+2) t).trans c2;have j:=QX (ps.take k) λq hq=>A.out q (BZ hq);have X:=QX (ps.take (k+1)) λq hq=>A.out q (BZ hq);have G:=RG A.out (k+1);have R:=RG A.out k;have D:=HW.out;have hsp:=A.out ps[k] (BE _);have y:ps.take (k+1)=ps.take k++[ps[k]]:=AD l;have Q:(ps.take k).length<=k:=by rw[AO];omega
    rw[y,NC]at G;have P:(ps.take (k+1)).foldl Af A7=Af ((ps.take k).foldl Af A7) ps[k]:=by rw[y,BJ];rfl
    have Y:Ee ps[k]=ps[k].keep+ps[k].drop+ps[k].put.length:=rfl;have L:=Aa P;clear f c0 c1 c2 y P X;generalize ps[k]=q at *;obtain⟨s,F⟩:∃s,s=(ps.take k).foldl Af A7:=⟨_,rfl⟩;rw[←F]at r j L;obtain⟨J,O⟩:=hsp;have m:=d.size;have CA:Hid (∀H,Bw wr H->Cg 154 #[Cv q,.pointer (some (Ad (w.heap.size+1) 0)),.pointer (some (Ad (w.heap.size+2) 0)),.pointer (some (Ad (w.heap.size+3) 0)),Pd w.heap.size 0] H λe w'=>(∃v,e=.returned v)/\Aw (w.heap.size+4) w' w.heap.size (Af s q)/\Below w.heap.size H w'):=by
     intro H hbx;have h1:=j.put;have h2:=j.d0;have h3:=j.dT;have h5:=j.len;exact aY w.heap.size s q H (JD r hbx) (by omega) h2 (by omega) O J (by omega) (λx hx=>by have:=j.keep x hx;omega) (by omega)
    have Z:=Aa d;unfold Cv at CA;clear r j G R D Q Y F J O d u z
    go_wp2_with (go_at_call 154;refine(CA.out _ ((A9 _ wr).alloc (Ai _) _)).mono ?_;rintro e w2 ⟨⟨v2,rfl⟩,N,h⟩;have S:=Aa N;have HB2:Hid (Bw w w2):=(Z.out.alloc m _).trans h;clear N h)
    go_roundw
    case rel=>exact⟨k+1,by omega,by go_num,by rw[L.out];exact S.out,HB2.out⟩
    case measure=>simp[intOf];omega
  . have e:ps.take k=ps:=AQ (by rw[←HN.out];omega)
    rw[e]at r;have j:=QX ps A.out;have D:=HW.out
    have cD:Hid (Cg 155 #[.pointer (some (Ad (w.heap.size+3) 0)),Pd w.heap.size 0] wr λe w'=>∃v,e=.returned v/\w'.ownsRow (w.heap.size+4) 87 3 v (Ag ps).length (Cw (Ag ps))/\Below w.heap.size wr w') :=
     cj w.heap.size _ wr r (by have:=j.len;have:=HN.out;omega) (by have:=j.put;omega)
    have hlt4:=Hf r;clear e r j D R3 A HW u z
    go_wp2_with (go_at_call 155;refine cD.out.mono ?_;rintro e w2 ⟨v2,rfl,K,h⟩)
    obtain⟨p2,q2,rfl⟩:=Bm K;go_ret;exact⟨_,rfl,J8 K (by omega),d.trans h,by have:=h.size;omega⟩
end
section
def IZ (s:Int×Int) (p:Pt):Int×Int:=(IntKind.i64.wrap (s.1+IntKind.i64.wrap (p.keep+p.drop)),IntKind.i64.wrap (s.2+IntKind.i64.wrap (p.keep+p.put.length)))
def Be (ps:List Pt):Int×Int:=ps.foldl IZ (0,0)
theorem Jr(v:Value)(ps:List Pt)(w:World)(R:Ae w v ps)(hl:ps.length<10000000) :
    Cg 43 #[v] w (Rt w (.tuple #[I6 (Be ps).1,I6 (Be ps).2])):=by
 obtain⟨p,c,rfl,r1,r2,H⟩:=R;obtain⟨n,F⟩:∃n,n=ps.length:=⟨_,rfl⟩;rw[←F]at r1 hl ⊢;have L:=Aa F;clear F
 have N:Hid (ps≠[]->∃b o,p=some (Ad b o)/\b<w.heap.size/\∀i q,ps[i]?=some q ->
  w.cell? (Ad b (o+i*3))=some (I6 q.keep)/\w.cell? (Ad b (o+i*3+1))=some (I6 q.drop)/\w.cell? (Ad b (o+i*3+2))=some (Sx q.put)):=H
 clear H
 go_enter func43,ntmps43
 go_wp2
 go_loopw [2,3,8] (λx y i wr=>∃(k:Nat),k<=n/\i=.int .i64 k/\x=.int .i64 (Be (ps.take k)).1/\y=.int .i64 (Be (ps.take k)).2/\Bw w wr) (λ_ _ i _=>n - (intOf i).toNat)
 case atStart=>exact⟨0,AV _,rfl,rfl,rfl,A9 _ _⟩
 case round =>
  obtain⟨k,hk,rfl,rfl,rfl,d⟩:=hrel
  by_cases u:k<n
  . have j:k<ps.length:=by rw[←L.out];exact u
    have E:ps≠[]:=by intro e;rw[e]at j;exact absurd j (AP _)
    obtain⟨b,o,rfl,l,f⟩:=N.out E;obtain⟨I,J,G⟩:=f k ps[k] (B7 j);have X:=(zC d b (o+k*3) l).trans I;have Y:=(zC d b (o+k*3+1) l).trans J;have S:=(zC d b (o+k*3+2) l).trans G;have h:Be (ps.take (k+1))=IZ (Be (ps.take k)) ps[k]:=by
     unfold Be;rw[AD j,BJ];rfl
    generalize ps[k]=q at *;generalize Be (ps.take k)=AB at *;obtain⟨A,B⟩:=AB;obtain⟨K,D,U⟩:=q;unfold IZ at h;simp only at h X Y S ⊢;obtain⟨x1,P⟩:∃x,IntKind.i64.wrap (K+D)=x:=⟨_,rfl⟩;obtain⟨O,W⟩:∃x,IntKind.i64.wrap (K+(U.length:Int))=x:=⟨_,rfl⟩;obtain⟨y1,h3⟩:∃x,IntKind.i64.wrap (A+x1)=x:=⟨_,rfl⟩;obtain⟨y2,Q⟩:∃x,IntKind.i64.wrap (B+O)=x:=⟨_,rfl⟩;rw[P,W,h3,Q]at h;have m:=Aa h;have r:=Aa d;clear f I J G h d;go_wp2
    go_roundw
    case rel=>exact⟨k+1,by omega,by go_num,by rw[m.out],by rw[m.out],r.out.alloc r.out.size _⟩
    case measure=>simp[intOf];omega
  . have e:ps.take k=ps:=AQ (by rw[←L.out];omega)
    rw[e];obtain⟨A,t⟩:∃A,(Be ps).1=A:=⟨_,rfl⟩;obtain⟨B,z⟩:∃B,(Be ps).2=B:=⟨_,rfl⟩;have Z:=Aa t;have HB:=Aa z;rw[t,z];clear e t z N;go_wp2
    go_ret2
    exact⟨by rw[Z.out,HB.out];rfl,d⟩
theorem Ki(v:Value)(ps:List Pt)(w:World)(R:Ae w v ps)(hl:ps.length<10000000) :
    Cg 83 #[v] w (Rt w (.tuple #[I6 (Be ps).1,I6 (Be ps).2])):=by
 obtain⟨p,c,rfl,r1,r2,H⟩:=R;obtain⟨n,F⟩:∃n,n=ps.length:=⟨_,rfl⟩;rw[←F]at r1 hl ⊢;have L:=Aa F;clear F
 have N:Hid (ps≠[]->∃b o,p=some (Ad b o)/\b<w.heap.size/\∀i q,ps[i]?=some q ->
  w.cell? (Ad b (o+i*3))=some (I6 q.keep)/\w.cell? (Ad b (o+i*3+1))=some (I6 q.drop)/\w.cell? (Ad b (o+i*3+2))=some (Sx q.put)):=H
 clear H
 go_enter func83,ntmps83
 go_wp2
 go_loopw [4,5,10] (λx y i wr=>∃(k:Nat),k<=n/\i=.int .i64 k/\x=.int .i64 (Be (ps.take k)).1/\y=.int .i64 (Be (ps.take k)).2/\Bw w wr) (λ_ _ i _=>n - (intOf i).toNat)
 case atStart=>exact⟨0,AV _,rfl,rfl,rfl,A9 _ _⟩
 case round =>
  obtain⟨k,hk,rfl,rfl,rfl,d⟩:=hrel
  by_cases u:k<n
  . have j:k<ps.length:=by rw[←L.out];exact u
    have E:ps≠[]:=by intro e;rw[e]at j;exact absurd j (AP _)
    obtain⟨b,o,rfl,l,f⟩:=N.out E;obtain⟨I,J,G⟩:=f k ps[k] (B7 j);have X:=(zC d b (o+k*3) l).trans I;have Y:=(zC d b (o+k*3+1) l).trans J;have S:=(zC d b (o+k*3+2) l).trans G;have h:Be (ps.take (k+1))=IZ (Be (ps.take k)) ps[k]:=by
     unfold Be;rw[AD j,BJ];rfl
    generalize ps[k]=q at *;generalize Be (ps.take k)=AB at *;obtain⟨A,B⟩:=AB;obtain⟨K,D,U⟩:=q;unfold IZ at h;simp only at h X Y S ⊢;obtain⟨x1,P⟩:∃x,IntKind.i64.wrap (K+D)=x:=⟨_,rfl⟩;obtain⟨O,W⟩:∃x,IntKind.i64.wrap (K+(U.length:Int))=x:=⟨_,rfl⟩;obtain⟨y1,h3⟩:∃x,IntKind.i64.wrap (A+x1)=x:=⟨_,rfl⟩;obtain⟨y2,Q⟩:∃x,IntKind.i64.wrap (B+O)=x:=⟨_,rfl⟩;rw[P,W,h3,Q]at h;have m:=Aa h;have r:=Aa d;clear f I J G h d;go_wp2
    go_roundw
    case rel=>exact⟨k+1,by omega,by go_num,by rw[m.out],by rw[m.out],r.out.alloc r.out.size _⟩
    case measure=>simp[intOf];omega
  . have e:ps.take k=ps:=AQ (by rw[←L.out];omega)
    rw[e];obtain⟨A,t⟩:∃A,(Be ps).1=A:=⟨_,rfl⟩;obtain⟨B,z⟩:∃B,(Be ps).2=B:=⟨_,rfl⟩;have Z:=Aa t;have HB:=Aa z;rw[t,z];clear e t z N;go_wp2
    go_ret2
    exact⟨by rw[Z.out,HB.out];rfl,d⟩
def I1 (p:Pt):Bool:=!(decide (300<(p.put.length:Int)) || decide (5000<p.keep) || decide (5000<p.drop))
def Fp (ps:List Pt):Bool:=decide (ps.length<=100) && ps.all I1
theorem Lo(v:Value)(ps:List Pt)(w:World)(S:Ae w v ps)(hl:ps.length<10000000) :
    Cg 7 #[v] w (Rt w (.bool (Fp ps))):=by
 obtain⟨p,c,rfl,Z,r2,I⟩:=S
 by_cases N:100<ps.length
 . have y:Fp ps=false:=by unfold Fp;rw[decide_eq_false (by omega)];rfl
   rw[y];have A:(100:Int)<(ps.length:Int):=by omega
   clear I
   go_enter func7,ntmps7
   go_wp2;go_ret;exact⟨rfl,A9 _ _⟩
 have y:Fp ps=ps.all I1:=by unfold Fp;rw[decide_eq_true (by omega)];rfl
 rw[y];obtain⟨n,J⟩:∃n,n=ps.length:=⟨_,rfl⟩;rw[←J]at Z hl N ⊢;have P:=Aa J;have A:¬(100:Int)<(n:Int):=by omega
 clear J y N
 have Q:Hid (ps≠[]->∃b o,p=some (Ad b o)/\b<w.heap.size/\∀i q,ps[i]?=some q ->
  w.cell? (Ad b (o+i*3))=some (I6 q.keep)/\w.cell? (Ad b (o+i*3+1))=some (I6 q.drop)/\w.cell? (Ad b (o+i*3+2))=some (Sx q.put)):=I
 clear I;obtain⟨R,G⟩:∃R,ps.all I1=R:=⟨_,rfl⟩;have r:=Aa G;rw[G];clear G
 go_enter func7,ntmps7
 go_wp2
 go_loopw [3] (λi wr=>∃(k:Nat),k<=n/\i=.int .i64 k/\(ps.drop k).all I1=R/\Bw w wr) (λi _=>n - (intOf i).toNat)
 case atStart=>exact⟨0,AV _,rfl,r.out,A9 _ _⟩
 case round =>
  obtain⟨k,hk,rfl,d,h⟩:=hrel
  by_cases E:k<n
  . have l : k<ps.length:=by rw[←P.out];exact E
    have H:ps≠[]:=by intro e;rw[e]at l;exact absurd l (AP _)
    obtain⟨b,o,rfl,m,f⟩:=Q.out H;obtain⟨u,x,t⟩:=f k ps[k] (B7 l);have X:=(zC h b (o+k*3) m).trans u;have Y:=(zC h b (o+k*3+1) m).trans x;have W:=(zC h b (o+k*3+2) m).trans t;rw[BK l,List.all_cons]at d;generalize ps[k]=q at *;obtain⟨K,D,U⟩:=q;unfold I1 at d;simp only at d X Y W
    by_cases z:(300:Int)<(U.length:Int)
    . have j:R=false:=by rw[←d,decide_eq_true z];rfl
      subst j;clear f u x t d r;go_wp2;go_ret;exact⟨rfl,h⟩
    . by_cases F:(5000:Int)<K
      . have j:R=false:=by rw[←d,decide_eq_true F,decide_eq_false z];rfl
        subst j;clear f u x t d r;go_wp2;go_ret;exact⟨rfl,h⟩
      . by_cases O:(5000:Int)<D
        . have j:R=false:=by rw[←d,decide_eq_true O,decide_eq_false z,decide_eq_false F];rfl
          subst j;clear f u x t d r;go_wp2;go_ret;exact⟨rfl,h⟩
        . have L:Hid ((ps.drop (k+1)).all I1=R):=by
            show _=_;rw[decide_eq_false z,decide_eq_false F,decide_eq_false O]at d;exact d
          clear f u x t d r;go_wp2
          go_roundw
          case rel=>exact⟨k+1,by omega,by go_num,L.out,h⟩
          case measure=>simp[intOf];omega
  . have e:ps.drop k=[]:=DH (by rw[←P.out];omega)
    rw[e]at d;have j:R=true:=by rw[←d];rfl
    subst j;clear e Q d r;go_wp2;go_ret;exact⟨rfl,h⟩
variable {n : Nat}{g : Dj}
theorem df:(prog.info? 9).map (λi=>(i.zero,i.size,i.bytes))=some (some (.string ⟨#[]⟩),1,16):=by kernel_rfl
theorem eQ:(prog.info? 4).map (λi=>(i.zero,i.size,i.bytes))=some (some (.bool false),1,1):=by kernel_rfl
theorem VG(n:Nat)(l:n<100000000)(W:World):(Instr.makeSlice 63 (I6 ((n:Int)+1)) (I6 ((n:Int)+1))).run prog W=.ok (Sl W.heap.size (n+1) (n+1)) (W.alloc (Oc (madeCells #[.string ⟨#[]⟩] (n+1)) 9)):=by
 obtain⟨k,j,f,d,i⟩:=info_parts df;have h:=run_make (P:=prog) W 63 9 k (.string ⟨#[]⟩) underlying63 j f .i64 .i64 ((n:Int)+1) ((n:Int)+1) (by omega) (BO _) (by rw[i];omega) (by omega);rw[h];have e:((n:Int)+1).toNat=n+1:=by omega
 rw[e,d];simp[Value.cells]
theorem V5(n:Nat)(l:n<100000000)(W:World):(Instr.makeSlice 162 (I6 (n:Int)) (I6 (n:Int))).run prog W=.ok (Sl W.heap.size n n) (W.alloc (Oc (madeCells #[.bool false] n) 4)):=by
 obtain⟨k,j,f,d,i⟩:=info_parts eQ;have h:=run_make (P:=prog) W 162 4 k (.bool false) underlying162 j f .i64 .i64 (n:Int) (n:Int) (by omega) (BO _) (by rw[i];omega) (by omega);rw[h];have e:((n:Int)).toNat=n:=by omega
 rw[e,d];simp[Value.cells]
def Ez (n:Nat) (g:Dj):List (List UInt8):=g.1.map (·.1)++g.2 :: List.replicate (n - g.1.length) []
def Gj (n:Nat) (g:Dj):List Bool:=g.1.map (·.2)++List.replicate (n - g.1.length) false
def Cz (u:List UInt8):Value:=Sx u
theorem YD(h:g.1.length<n)(d:Bool):Ez n (Du d g)=Ez n g:=by
 unfold Ez Du;simp only[BM,AY,BU,AA,AJ,AR,AH,GC];obtain⟨k,f⟩:∃k,n - g.1.length=k+1:=⟨n - g.1.length - 1,by omega⟩;have e:n - (g.1.length+(0+1))=k:=by omega
 rw[e,f,CH]
theorem ZN(h:g.1.length<n)(d:Bool):Gj n (Du d g)=(Gj n g).set g.1.length d:=by
 unfold Gj Du;obtain⟨k,i⟩:∃k,n - g.1.length=k+1:=⟨n - g.1.length - 1,by omega⟩;have e:n - (g.1.length+1)=k:=by omega
 have f:(g.1.map (·.2)).length=g.1.length:=by simp
 rw[FN _ _ (by rw[f];exact Ai _),f,BP,i,CH,GI];simp[e]
theorem Xj(h:g.1.length<n):(Gj n g)[g.1.length]?=some false:=by
 unfold Gj;obtain⟨k,d⟩:∃k,n - g.1.length=k+1:=⟨n - g.1.length - 1,by omega⟩;rw[AL (by simp),BS,BP,d,CH];rfl
theorem bW:(Ez n g)[g.1.length]?=some g.2:=by
 unfold Ez;rw[AL (by simp)];simp
theorem eJ(u:List UInt8):Ez n (g.1,u)=(Ez n g).set g.1.length u:=by
 unfold Ez;have d:(g.1.map (·.1)).length=g.1.length:=by simp
 rw[FN _ _ (by rw[d];exact Ai _),d,BP,GI]
theorem ZF{n:Nat}:∀(k:Nat)(g:Dj),g.1.length+k<=n->Ez n (D6 false k g)=Ez n g/\Gj n (D6 false k g)=Gj n g
 | 0,_,_=>⟨rfl,rfl⟩
 | k+1,g,h=>by
  have f:(Du false g).1.length=g.1.length+1:=by simp[Du]
  obtain⟨i,j⟩:=ZF (n:=n) k (Du false g) (by rw[f];omega);rw[D6,i,j,YD (n:=n) (g:=g) (by omega),ZN (n:=n) (g:=g) (by omega)];refine⟨rfl,?_⟩;have:=Xj (n:=n) (g:=g) (by omega);have d:g.1.length<(Gj n g).length:=(De this);rw[B7 d]at this;have e:=Bq this;rw[←e];exact List.set_getElem_self d
theorem ap{n:Nat}:∀(k:Nat)(g:Dj),g.1.length+k<=n->Ez n (D6 true k g)=Ez n g
 | 0,_,_=>rfl
 | k+1,g,h=>by
  have d:(Du true g).1.length=g.1.length+1:=by simp[Du]
  rw[D6,ap k (Du true g) (by rw[d];omega),YD (n:=n) (g:=g) (by omega)]
theorem QS(ps:List Pt)(p:Pt):Bk (ps++[p])=F0 (Bk ps) p:=by simp[Bk]
theorem SC(g:Dj)(p:Pt):(F0 g p).1.length=g.1.length+p.drop.toNat+p.keep.toNat:=by
 unfold F0;rw[NI,NI]
theorem iE(ps:List Pt)(k:Nat):(Bk (ps.take k)).1.length<=(Bk ps).1.length:=by
 have d:∀(l:List Pt) (g:Dj),g.1.length<=(l.foldl F0 g).1.length:=by
  intro l
  induction l with
  | nil=>intro g;exact Ai _
  | cons p l ih =>
   intro g;rw[BT];have:=ih (F0 g p);rw[SC]at this;omega
 have e:Bk ps=(ps.drop k).foldl F0 (Bk (ps.take k)):=by
  unfold Bk;rw[←BJ,AW]
 rw[e];exact d _ _
def Dm (p:Pt):Int:=p.keep+p.put.length
theorem Mg(ps:List Pt)(h:∀p∈ps,Ek p)(I:Bj ps<4611686018427387904):(Be ps).1=(Bk ps).1.length/\(Be ps).2=(ps.map Dm).sum/\((Bk ps).1.length:Int)<=Bj ps/\(ps.map Dm).sum<=Bj ps:=by
 have i:∀k,k<=ps.length->(Be (ps.take k)).1=(Bk (ps.take k)).1.length/\(Be (ps.take k)).2=((ps.take k).map Dm).sum/\((Bk (ps.take k)).1.length:Int)<=Bj (ps.take k)/\((ps.take k).map Dm).sum<=Bj (ps.take k)/\0<=((ps.take k).map Dm).sum:=by
  intro k
  induction k with
  | zero=>intro _;simp[Be,Bk,Bj]
  | succ k ih =>
   intro H;obtain⟨m,t,G,D,A⟩:=ih (by omega);have z:=h _ (BE (show k<ps.length by omega));have u:=RG h (k+1);have d:ps.take (k+1)=ps.take k++[ps[k]]:=AD (by omega);have f:Be (ps.take (k+1))=IZ (Be (ps.take k)) ps[k]:=by
    unfold Be;rw[d,BJ];rfl
   rw[f,d,QS,SC,NC,BM,DK];rw[d,NC]at u;generalize ps[k]=q at *;obtain⟨F,E⟩:=z;have x:Ee q=q.keep+q.drop+q.put.length:=rfl;have j:([q].map Dm).sum=q.keep+q.put.length:=by simp[Dm]
   rw[j];unfold IZ;simp only;rw[m,t];have w1:IntKind.i64.wrap (q.keep+q.drop)=q.keep+q.drop:=by rw[BG];omega
   have y:IntKind.i64.wrap (q.keep+(q.put.length:Int))=q.keep+q.put.length:=by rw[BG];omega
   rw[w1,y];have l:IntKind.i64.wrap (((Bk (ps.take k)).1.length:Int)+(q.keep+q.drop))=((Bk (ps.take k)).1.length:Int)+(q.keep+q.drop):=by rw[BG];omega
   have r:IntKind.i64.wrap (((ps.take k).map Dm).sum+(q.keep+(q.put.length:Int)))=((ps.take k).map Dm).sum+(q.keep+q.put.length):=by rw[BG];omega
   rw[l,r];refine⟨by omega,rfl,by omega,by omega,by omega⟩
 have:=i ps.length (Ai _);rw[BV]at this;exact⟨this.1,this.2.1,this.2.2.1,this.2.2.2.1⟩
theorem Us(d:Bool):∀(n:Nat)(g:Dj),(D6 d n g).2.length<=g.2.length
 | 0,_=>Ai _
 | n+1,g=>by
  have:=Us d n (Du d g);rw[D6];have e:(Du d g).2.length=0:=rfl;omega
theorem jl(ps:List Pt)(h:∀p∈ps,Ek p)(k:Nat)(m:k<=ps.length):((Bk (ps.take k)).2.length:Int)<=Bj (ps.take k):=by
 induction k with
 | zero=>simp[Bk,Bj]
 | succ k ih =>
  have u:=ih (by omega);have j:=h _ (BE (show k<ps.length by omega));rw[AD (by omega),QS,NC];generalize ps[k]=q at *;obtain⟨t,r⟩:=j;have i:Ee q=q.keep+q.drop+q.put.length:=rfl;have f:=Us false q.keep.toNat (D6 true q.drop.toNat ((Bk (ps.take k)).1,(Bk (ps.take k)).2++q.put));have d:=Us true q.drop.toNat ((Bk (ps.take k)).1,(Bk (ps.take k)).2++q.put);have l:((Bk (ps.take k)).2++q.put).length=(Bk (ps.take k)).2.length+q.put.length:=AA;have x:(F0 (Bk (ps.take k)) q).2.length<=((Bk (ps.take k)).2++q.put).length:=AF f d;omega
theorem MW{P:Program}{c:Code}{Q:Exit->Act->World->Prop}{a:Act}{w:World}(F:Act->World->Prop)(h:∀f:Exit->Act->World->Prop,(∀d w',F d w'->f .normal d w')->c.wp P f a w)(i:∀d w',F d w'->Q .normal d w'):c.wp P Q a w:=h Q i
theorem RV{w:World}{B e size b o:Nat}{v:Value}{xs:List Value}(h:w.ownsRow B e size v n xs)(r:b<B)(u:Value):(w.setCell (Ad b o) u).ownsRow B e size v n xs:=by
 obtain⟨m,d⟩:=h;refine⟨m,?_⟩
 rcases d with l|⟨g,i,j,rfl,k,f,rest⟩
 . exact .inl l
 . exact .inr ⟨g,i,j,rfl,k,(BF _ _ _ _ (by show g≠b;omega)).trans f,rest⟩
theorem NQ(w:World)(h d f:Obj):Bw w (((w.alloc h).alloc d).alloc f).drew :=
 ((((A9 w.heap.size w).alloc (Ai _) h).alloc (by simp) d).alloc (by rw[Bb,AN];omega) f).drew
theorem Ei(W:World)(B n g:Nat)(z:Value)(T:TypeId)(d:W.heap.size=g)(f:B<=g)(h:n<=maxLen):(W.alloc (Oc (madeCells #[z] n) T)).ownsRow B T 1 (Sl g n n) n (List.replicate n z):=by
 subst d;have:=GA (base:=B) (e:=T) (size:=1) W (madeCells #[z] n) n f h (by rw[size_madeCells];simp);rwa[toList_madeCells_one]at this
theorem Qr(v:Value)(ps:List Pt)(w:World)(hr:Ae w v ps)(hs:∀p∈ps,Ek p)(hw:Bj ps<10000000)(hl:ps.length<10000000)(n:Nat)(hn:(Bk ps).1.length=n) :
    Cg 119 #[v] w λe w'=>∃l r,e=.returned (.agg #[Sl l (n+1) (n+1),Sl r n n]) /\
     w'.ownsRow w.heap.size 9 1 (Sl l (n+1) (n+1)) (n+1) ((Ez n (Bk ps)).map Cz)/\w'.ownsRow w.heap.size 4 1 (Sl r n n) n ((Gj n (Bk ps)).map Value.bool)/\Bw w w':=by
 have cL:=λwx hb=>Ki v ps wx (Ec hr hb (Ai _)) hl;obtain⟨hp1,_,hp3,_⟩:=Mg ps hs (by omega);rw[hp1,hn]at cL;have hn':n<10000000:=by omega
 have HNS:=Aa hn;obtain⟨l2,hl2⟩:∃l2,(Be ps).2=l2:=⟨_,rfl⟩;rw[hl2]at cL;obtain⟨p,c,rfl,r1,S,r3⟩:=hr;obtain⟨m,hm⟩:∃m,m=ps.length:=⟨_,rfl⟩;rw[←hm]at r1 hl cL ⊢;have HM:=Aa hm
 have R3:Hid (ps≠[]->∃b o,p=some (Ad b o)/\b<w.heap.size/\∀i q,ps[i]?=some q ->
  w.cell? (Ad b (o+i*3))=some (I6 q.keep)/\w.cell? (Ad b (o+i*3+1))=some (I6 q.drop)/\w.cell? (Ad b (o+i*3+2))=some (Sx q.put)):=r3
 have HS:=Aa hs;have HW:=Aa hw;have hm1:=VG n (by omega);have hm2:=V5 n (by omega);have hwn:IntKind.i64.wrap ((n:Int)+1)=(n:Int)+1:=by rw[BG];omega
 clear hs hw hn hp1 hp3 hl2 hm r3
 go_enter func119,ntmps119
 go_wp2_with (go_at_call 83;refine(cL _ (zA _ _)).mono ?_;rintro e w1 ⟨rfl,A⟩)
 have hB1:Bw w w1:=(zA _ _).trans (A.mono (by simp));have R:w.heap.size<w1.heap.size:=by have:=A.size;rw[Bb]at this;omega
 have x0:w1.cell? (Ad w.heap.size 0)=some (.slice none 0 0):=(zC A w.heap.size 0 (by simp)).trans (by simp[go_sem]);have x1:w1.cell? (Ad w.heap.size 1)=some (.slice none 0 0):=(zC A w.heap.size 1 (by simp)).trans (by simp[go_sem]);have x2:w1.frozen? (Ad w.heap.size 0)=false:=(A.frozen (p:=(Ad w.heap.size 0)) (by simp)).trans (by simp[go_sem]);have x3:w1.frozen? (Ad w.heap.size 1)=false:=(A.frozen (p:=(Ad w.heap.size 1)) (by simp)).trans (by simp[go_sem]);clear A cL
 refine MW (F:=λa' w'=>∃l r b,a' = { tmps:=#[.slice p m c,undef,Pd w.heap.size 0,I6 n,I6 l2,Pd b 0,undef,undef,undef,.tuple #[I6 n,I6 l2],.slice p m c,.tuple #[I6 n,I6 l2],I6 n,I6 l2,I6 n,I6 ((n:Int)+1),
     Sl l (n+1) (n+1),I6 n,Sl r n n,.agg #[Sl l (n+1) (n+1),Sl r n n],
     undef,undef,undef,undef,undef,undef,undef,undef,undef,undef,undef,undef,undef,undef,undef,undef,undef,undef,undef,undef,undef,undef,undef,undef,undef,undef,undef,undef,undef,undef,undef,undef],defers:=[] } /\
     w'.ownsRow (w.heap.size+1) 9 1 (Sl l (n+1) (n+1)) (n+1) (List.replicate (n+1) (.string ⟨#[]⟩))/\w'.ownsRow (w.heap.size+1) 4 1 (Sl r n n) n (List.replicate n (.bool false)) /\
     w'.cell? (Ad b 0)=some (Sl l (n+1) (n+1))/\w'.cell? (Ad b 1)=some (Sl r n n)/\b≠l/\b≠r/\w.heap.size<b/\Bw w1 w') ?_ ?_
 . intro Q' hQ
   go_region
   all_goals
    have hm0:n+1<=maxLen:=by unfold maxLen;omega
    have hm3:n<=maxLen:=by omega
    refine hQ _ _ ⟨_,_,_,rfl,?_,?_,by simp[go_sem],by simp[go_sem],by omega,by omega,by omega,?_⟩
    . first
        | exact(Ei _ _ _ _ _ _ (by simp) (by omega) hm0).drew
        | exact((Ei _ _ _ _ _ _ (by simp) (by omega) hm0).alloc _).drew
        | exact(((Ei _ _ _ _ _ _ (by simp) (by omega) hm0).alloc _).alloc _).drew
    . first
        | exact(Ei _ _ _ _ _ _ (by simp) (by omega) hm3).drew
        | exact((Ei _ _ _ _ _ _ (by simp) (by omega) hm3).alloc _).drew
        | exact(((Ei _ _ _ _ _ _ (by simp) (by omega) hm3).alloc _).alloc _).drew
    . exact NQ _ _ _ _
 . rintro a' w2 ⟨l,r,b,rfl,f,d,hc0,hc1,hn1,hn2,hb0,H⟩
   have HB2:Hid (Bw w w2):=hB1.trans (H.mono (by omega));have y0:=(zC H w.heap.size 0 R).trans x0;have y1:=(zC H w.heap.size 1 R).trans x1;have y2:=(H.frozen (p:=(Ad w.heap.size 0)) R).trans x2;have y3:=(H.frozen (p:=(Ad w.heap.size 1)) R).trans x3;have hg1:=(f.lt l rfl);have hg2:=(d.lt r rfl);have hbl:=Ca w2 _ hc0;have hng:l≠r:=by
    have:=N7 f d (by decide)
    rcases this with h|h
    . cases h
    . intro e;subst e;exact h rfl
   have HST:Hid (Ez n ([],[])=List.replicate (n+1) []):=by show _=_;rfl
   have W:w2.ownsRow (w.heap.size+1) 9 1 (Sl l (n+1) (n+1)) (n+1) ((Ez n (Bk (ps.take 0))).map Cz):=by
    have e:(Ez n (Bk (ps.take 0))).map Cz=List.replicate (n+1) (.string ⟨#[]⟩):=by
     show(Ez n ([],[])).map Cz=_;rw[HST.out,List.map_replicate];rfl
    rw[e];exact f
   have X:w2.ownsRow (w.heap.size+1) 4 1 (Sl r n n) n ((Gj n (Bk (ps.take 0))).map Value.bool):=by
    have e:(Gj n (Bk (ps.take 0))).map Value.bool=List.replicate n (.bool false):=by
     show((List.replicate n false)).map Value.bool=_;rw[List.map_replicate]
    rw[e];exact d
   have y:Hid _:=W;have u:Hid _:=X;clear f d W X x0 x1 x2 x3 H hB1 hm1 hm2 HST;go_wp2
   go_loopw [6,22] (λat_ i wr=>∃(k:Nat),k<=m/\i=.int .i64 k/\at_=.int .i64 (Bk (ps.take k)).1.length /\
       wr.ownsRow (w.heap.size+1) 9 1 (Sl l (n+1) (n+1)) (n+1) ((Ez n (Bk (ps.take k))).map Cz)/\wr.ownsRow (w.heap.size+1) 4 1 (Sl r n n) n ((Gj n (Bk (ps.take k))).map Value.bool) /\
       wr.cell? (Ad b 0)=some (Sl l (n+1) (n+1))/\wr.cell? (Ad b 1)=some (Sl r n n) /\
       wr.cell? (Ad w.heap.size 0)=some (.slice none 0 0)/\wr.cell? (Ad w.heap.size 1)=some (.slice none 0 0)/\wr.frozen? (Ad w.heap.size 0)=false/\wr.frozen? (Ad w.heap.size 1)=false/\Bw w wr) (λ_ i _=>m - (intOf i).toNat)
   case atStart=>exact⟨0,AV _,rfl,rfl,y.out,u.out,hc0,hc1,y0,y1,y2,y3,HB2.out⟩
   case round =>
    obtain⟨k,hk,rfl,rfl,f,d,Z,z1,N,z3,z4,z5,t⟩:=hrel;clear y u hc0 hc1 y0 y1 y2 y3
    by_cases hlt:k<m
    . have E : k<ps.length:=by rw[←HM.out];exact hlt
      have hne:ps≠[]:=by intro e;rw[e]at E;exact absurd E (AP _)
      obtain⟨pb,po,rfl,hbw,z⟩:=R3.out hne;obtain⟨c0,c1,c2⟩:=z k ps[k] (B7 E);have e0:=(zC t pb (po+k*3) hbw).trans c0;have e1:=(zC t pb (po+k*3+1) hbw).trans c1;have e2:=(zC t pb (po+k*3+2) hbw).trans c2;have hsp:=HS.out ps[k] (BE _);have hle:=iE ps (k+1);have hpu:=jl ps HS.out k (by omega);have hpt:=RG HS.out (k+1);rw[AD E,NC]at hpt;have hpw:=HW.out;rw[HNS.out,AD E,QS,SC]at hle;have HSN:Hid (Bk (ps.take (k+1))=F0 (Bk (ps.take k)) ps[k]):=by
       show _=_;rw[AD E,QS]
      generalize ps[k]=q at *;generalize Bk (ps.take k)=G at *;obtain⟨K,D,U⟩:=q;obtain⟨s1,s2⟩:=hsp;simp only at e0 e1 e2 hle s1 s2;have hcb:¬9223372036854775807<G.2.length+U.length:=by
       have:Ee ⟨K,D,U⟩=K+D+U.length:=rfl;omega
      have hat:G.1.length<=n:=by omega
      have i0:(Ez n G).map Cz=((Ez n G).map Cz):=rfl;have hstr:wr.cell? (Ad l G.1.length)=some (Sx G.2):=by
       rw[f.cellAt _ (by omega),BD,bW];rfl
      have hsf:=f.frozenAt G.1.length;have hgl1:=(f.lt l rfl).2;have hgl2:=(d.lt r rfl).2;have J:=Ca wr _ Z;have hcat:=OL G.2 U;have t1:((G.1.length:Nat):Int)<(n:Int)+1:=by omega
      have t0:(0:Int)<=((G.1.length:Nat):Int):=by omega
      have y:=Aa f;have u:=Aa d;have HWR:=Aa t;clear z c0 c1 c2 i0 f d t hpu hpt hpw;go_wp2
      go_region
      obtain⟨r1,S⟩:=y.out.stored G.1.length (Cz (G.2++U));have q1:((wr.setCell (Ad l G.1.length) (Cz (G.2++U))).alloc (Oc #[I6 K,I6 D,Sx U] 87)).drew.ownsRow (w.heap.size+1) 9 1 (Sl l (n+1) (n+1)) (n+1) ((Ez n (G.1,G.2++U)).map Cz):=by
       rw[eJ,List.map_set];exact(World.ownsRow.alloc r1 _).drew
      have q2:((wr.setCell (Ad l G.1.length) (Cz (G.2++U))).alloc (Oc #[I6 K,I6 D,Sx U] 87)).drew.ownsRow (w.heap.size+1) 4 1 (Sl r n n) n ((Gj n (G.1,G.2++U)).map Value.bool) :=
       (World.ownsRow.alloc (u.out.kept S (N7 u.out y.out (by decide))) _).drew
      have keep:∀(x:Nat) (o:Nat),x≠l->x<wr.heap.size->(((wr.setCell (Ad l G.1.length) (Cz (G.2++U))).alloc (Oc #[I6 K,I6 D,Sx U] 87)).drew).heap[x]?=wr.heap[x]?:=by
       intro x o hx O;rw[←S.block x O (by intro e;exact hx (Bq e))];exact heap_alloc_old _ _ (by simpa using O)
      have L:=Ca wr _ N;have hg1b:=(y.out.lt l rfl).1;have hg2b:=(u.out.lt r rfl).1;have u0:=(AE (a:=(Ad b 0)) (keep b 0 hn1 J)).trans Z;have u1:=(AE (a:=(Ad b 1)) (keep b 0 hn1 J)).trans z1;have u2:=(AE (a:=(Ad w.heap.size 0)) (keep w.heap.size 0 (by omega) L)).trans N;have u3:=(AE (a:=(Ad w.heap.size 1)) (keep w.heap.size 0 (by omega) L)).trans z3;have u4:=(EF (a:=(Ad w.heap.size 0)) (keep w.heap.size 0 (by omega) L)).trans z4;have u5:=(EF (a:=(Ad w.heap.size 1)) (keep w.heap.size 0 (by omega) L)).trans z5;have I:Bw w (wr.setCell (Ad l G.1.length) (Cz (G.2++U))):=HWR.out.setCell (p:=(Ad l G.1.length)) (by show w.heap.size<=l;omega) _;have u6:Bw w (((wr.setCell (Ad l G.1.length) (Cz (G.2++U))).alloc (Oc #[I6 K,I6 D,Sx U] 87)).drew):=(I.alloc I.size _).drew;have u7:(((wr.setCell (Ad l G.1.length) (Cz (G.2++U))).alloc (Oc #[I6 K,I6 D,Sx U] 87)).drew).cell? (Ad wr.heap.size 0)=some (I6 K):=by simp[go_sem]
      have u8:(((wr.setCell (Ad l G.1.length) (Cz (G.2++U))).alloc (Oc #[I6 K,I6 D,Sx U] 87)).drew).cell? (Ad wr.heap.size 1)=some (I6 D):=by simp[go_sem]
      have hpb:w.heap.size≠wr.heap.size/\b≠wr.heap.size/\l≠wr.heap.size/\r≠wr.heap.size:=⟨by omega,by omega,by omega,by omega⟩;clear r1 S keep Z z1 N z3 z4 z5 y u HWR I e0 e1 e2 hstr hsf hgl1 hgl2 J L;unfold Cz at q1 q2 u0 u1 u2 u3 u4 u5 u6 u7 u8;generalize (((wr.setCell (Ad l G.1.length) (Sx (G.2++U))).alloc (Oc #[I6 K,I6 D,Sx U] 87)).drew)=W3 at *;obtain⟨pB,hpB⟩:∃pB,wr.heap.size=pB:=⟨_,rfl⟩;rw[hpB]at u7 u8 hpb ⊢;clear hpB hcat hcb;have HQ1:Hid (W3.ownsRow (w.heap.size+1) 9 1 (Sl l (n+1) (n+1)) (n+1) ((Ez n (G.1,G.2++U)).map Cz)):=q1;have HQ2:=Aa q2;clear q1 q2;go_wp2
      go_loopw [6,37] (λat_ i wr=>∃(j:Nat),j<=D.toNat/\i=.int .i64 j/\at_=.int .i64 ((G.1.length+j:Nat):Int) /\
       wr.ownsRow (w.heap.size+1) 9 1 (Sl l (n+1) (n+1)) (n+1) ((Ez n (G.1,G.2++U)).map Cz)/\wr.ownsRow (w.heap.size+1) 4 1 (Sl r n n) n ((Gj n (D6 true j (G.1,G.2++U))).map Value.bool) /\
       wr.cell? (Ad b 0)=some (Sl l (n+1) (n+1))/\wr.cell? (Ad b 1)=some (Sl r n n) /\
       wr.cell? (Ad w.heap.size 0)=some (.slice none 0 0)/\wr.cell? (Ad w.heap.size 1)=some (.slice none 0 0)/\wr.frozen? (Ad w.heap.size 0)=false/\wr.frozen? (Ad w.heap.size 1)=false/\Bw w wr /\
       wr.cell? (Ad pB 0)=some (I6 K)/\wr.cell? (Ad pB 1)=some (I6 D)) (λ_ i _=>D.toNat - (intOf i).toNat)
      case atStart=>exact⟨0,AV _,rfl,rfl,HQ1.out,HQ2.out,u0,u1,u2,u3,u4,u5,u6,u7,u8⟩
      case round =>
       obtain⟨j,hj,rfl,rfl,f,d,Z,z1,N,z3,z4,z5,t,z6,z7⟩:=hrel;clear HQ1 HQ2 u0 u1 u2 u3 u4 u5 u6 u7 u8
       by_cases hjl:j<D.toNat
       . have hDj:(j:Int)<D:=by omega
         have Q:(D6 true j (G.1,G.2++U)).1.length=G.1.length+j:=NI true j (G.1,G.2++U);have z:wr.cell? (Ad r (G.1.length+j))=some (.bool false):=by
          rw[d.cellAt _ (by omega),BD,←Q,Xj (by omega)];rfl
         have hfr:=d.frozenAt (G.1.length+j);have hj1:((G.1.length+j:Nat):Int)<(n:Int):=by omega
         have hj0:(0:Int)<=((G.1.length+j:Nat):Int):=by omega
         obtain⟨r1,S⟩:=d.stored (G.1.length+j) (.bool true)
         have HR1:Hid ((wr.setCell (Ad r (G.1.length+j)) (.bool true)).ownsRow (w.heap.size+1) 4 1 (Sl r n n) n ((Gj n (D6 true (j+1) (G.1,G.2++U))).map Value.bool)):=by
          have e:(Gj n (D6 true (j+1) (G.1,G.2++U))).map Value.bool=((Gj n (D6 true j (G.1,G.2++U))).map Value.bool).set (G.1.length+j) (.bool true):=by
           rw[UK,ZN (by omega),Q,List.map_set]
          rw[e];exact r1
         have Y:Hid ((wr.setCell (Ad r (G.1.length+j)) (.bool true)).ownsRow (w.heap.size+1) 9 1 (Sl l (n+1) (n+1)) (n+1) ((Ez n (G.1,G.2++U)).map Cz)):=f.kept S (N7 f d (by decide));have P:∀{x:Nat},x≠r->x<wr.heap.size->(wr.setCell (Ad r (G.1.length+j)) (.bool true)).heap[x]?=wr.heap[x]?:=λhx O=>S.block _ O (by intro e;exact hx (Bq e));have lb:=Ca wr _ Z;have lS:=Ca wr _ N;have lp:=Ca wr _ z6;have HV0:Hid _:=(AE (a:=(Ad b 0)) (P hn2 lb)).trans Z;have HV1:Hid _:=(AE (a:=(Ad b 1)) (P hn2 lb)).trans z1;have HV2:Hid _:=(AE (a:=(Ad w.heap.size 0)) (P (x:=w.heap.size) (by omega) lS)).trans N;have HV3:Hid _:=(AE (a:=(Ad w.heap.size 1)) (P (x:=w.heap.size) (by omega) lS)).trans z3;have HV4:Hid _:=(EF (a:=(Ad w.heap.size 0)) (P (x:=w.heap.size) (by omega) lS)).trans z4;have HV5:Hid _:=(EF (a:=(Ad w.heap.size 1)) (P (x:=w.heap.size) (by omega) lS)).trans z5;have HV6:Hid _:=(AE (a:=(Ad pB 0)) (P (GE hpb.2.2.2) lp)).trans z6;have HV7:Hid _:=(AE (a:=(Ad pB 1)) (P (GE hpb.2.2.2) lp)).trans z7;have HV8:Hid (Bw w (wr.setCell (Ad r (G.1.length+j)) (.bool true))):=t.setCell (p:=(Ad r (G.1.length+j))) (by show w.heap.size<=r;omega) _;have hsum:((G.1.length+j:Nat):Int)+1=((G.1.length+(j+1):Nat):Int):=by omega
         clear r1 S f d P N z3 z4 z5;go_wp2
         go_roundw
         case rel=>exact⟨j+1,by omega,by go_num,by first | go_num | (simp;omega),Y.out,HR1.out,HV0.out,HV1.out,HV2.out,HV3.out,HV4.out,HV5.out,HV8.out,HV6.out,HV7.out⟩
         case measure=>simp[intOf];omega
       . have hje:j=D.toNat:=by omega
         subst hje;have hDj:¬((D.toNat:Nat):Int)<D:=by omega
         have Q:(D6 true D.toNat (G.1,G.2++U)).1.length=G.1.length+D.toNat:=NI true D.toNat (G.1,G.2++U);obtain⟨k1,k2⟩:=ZF (n:=n) K.toNat (D6 true D.toNat (G.1,G.2++U)) (by rw[Q];omega);have HR1:Hid (wr.ownsRow (w.heap.size+1) 4 1 (Sl r n n) n ((Gj n (Bk (ps.take (k+1)))).map Value.bool)):=by
          show World.ownsRow _ _ _ _ _ _ _;rw[HSN.out];show World.ownsRow _ _ _ _ _ _ ((Gj n (D6 false K.toNat (D6 true D.toNat (G.1,G.2++U)))).map Value.bool);rw[k2];exact d
         have Y:Hid (wr.ownsRow (w.heap.size+1) 9 1 (Sl l (n+1) (n+1)) (n+1) ((Ez n (Bk (ps.take (k+1)))).map Cz)):=by
          show World.ownsRow _ _ _ _ _ _ _;rw[HSN.out];show World.ownsRow _ _ _ _ _ _ ((Ez n (D6 false K.toNat (D6 true D.toNat (G.1,G.2++U)))).map Cz);rw[k1,ap _ _ (by show G.1.length+D.toNat<=n;omega)];exact f
         have HAT:Hid (((Bk (ps.take (k+1))).1.length:Int)=((G.1.length+D.toNat:Nat):Int)+K):=by
          show _=_;rw[HSN.out,SC];show((G.1.length+D.toNat+K.toNat:Nat):Int)=_;omega
         have hwk:IntKind.i64.wrap (((G.1.length+D.toNat:Nat):Int)+K)=((G.1.length+D.toNat:Nat):Int)+K:=by rw[BG];omega
         clear k1 k2 f d;go_wp2
         go_roundw
         case rel=>exact⟨k+1,by omega,by go_num,by rw[HAT.out];first | rfl | go_num,Y.out,HR1.out,Z,z1,N,z3,z4,z5,t⟩
         case measure=>simp[intOf];omega
    . have e:ps.take k=ps:=AQ (by rw[←HM.out];omega)
      rw[e]at f d ⊢;have hS:=Ca wr _ N;have y:=Aa f;have u:=Aa d;clear e f d R3 HS HW;go_wp2;refine bodyPost_ret (v:=.agg #[Sl l (n+1) (n+1),Sl r n n]) (by simp[results,results119,go_sem,N,z3]) rfl ?_;refine⟨l,r,rfl,J8 (RV (RV y.out (by omega) _) (by omega) _) (by omega),J8 (RV (RV u.out (by omega) _) (by omega) _) (by omega),?_⟩;exact(t.setCell (p:=(Ad w.heap.size 0)) (Ai _) _).setCell (p:=(Ad w.heap.size 1)) (Ai _) _
end
end Go.Proofs.YtkcpjanmemdjlaaGreatDoor
