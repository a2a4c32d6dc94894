/-
  A part of the texts that the proof uses.
-/
import Derived.Test.YtbkeomcicobohaaGreatDoorPartB
set_option maxRecDepth 100000
set_option maxHeartbeats 40000000
set_option linter.unusedVariables false
namespace Go.Proofs.YtbkeomcicobohaaGreatDoor
open Go.Proofs.Tryz Go.RowKit Go.Maps
section
structure KeepUp (lo:Nat) (A B:World):Prop where
 size:A.heap.size<=B.heap.size
 same:∀k,lo<=k->k<A.heap.size->B.heap[k]?=A.heap[k]?
theorem KeepUp.refl(lo:Nat)(A:World):KeepUp lo A A:=⟨nlr _,λ_ _ _=>rfl⟩
theorem KeepUp.trans{lo:Nat}{A B C:World}(h:KeepUp lo A B)(k:KeepUp lo B C):KeepUp lo A C :=
 ⟨Nat.le_trans h.size k.size,λi h1 h2=>(k.same i h1 (Nat.lt_of_lt_of_le h2 h.size)).trans (h.same i h1 h2)⟩
theorem KeepUp.of_below{lo:Nat}{A B:World}(h:Bw A B):KeepUp lo A B:=⟨h.size,λk _ h2=>h.block k h2⟩
theorem KeepUp.setCell{lo:Nat}{A W:World}(h:KeepUp lo A W){p:Addr}(hp:p.block<lo)(v:Value):KeepUp lo A (W.setCell p v) :=
 h.trans ⟨by simp[World.setCell],λk h1 _=>Below.heap_setCell W p v k (by omega)⟩
theorem KeepUp.alloc{lo:Nat}{A W:World}(h:KeepUp lo A W)(o:Obj):KeepUp lo A (W.alloc o) :=
 h.trans ⟨by simp,λk _ h2=>Below.heap_alloc W o k h2⟩
theorem KeepUp.putObj{lo r:Nat}(A:World)(o:Obj)(h:r<lo):KeepUp lo A (A.putObj r o) :=
 ⟨by simp,λk h1 _=>World.putObj_heap_other (by omega)⟩
theorem KeepUp.counted{lo:Nat}{A B:World}(h:KeepUp lo A B){a:Nat}{n1 n2 n3 n4:Int}(ha:lo<=a)(hc:counted A a n1 n2 n3 n4):counted B a n1 n2 n3 n4:=by
 have hb:=h.same a ha (Jca hc);have e1:∀i,B.cell? (Ad a i)=A.cell? (Ad a i):=λi=>World.cell?_of_block (w:=A) (a:=(Ad a i)) hb;have e2:∀i,B.frozen? (Ad a i)=A.frozen? (Ad a i):=λi=>World.frozen?_of_block (w:=A) (a:=(Ad a i)) hb;unfold Go.Proofs.YtbkeomcicobohaaGreatDoor.counted;rw[e1,e1,e1,e1,e2,e2,e2,e2];exact hc
theorem KeepUp.cell{lo:Nat}{A B:World}(h:KeepUp lo A B){a i:Nat}{v:Value}(ha:lo<=a)(hc:A.cell? (Ad a i)=some v):B.cell? (Ad a i)=some v:=by
 have hb:=h.same a ha (blt A _ hc);exact(World.cell?_of_block (w:=A) (a:=(Ad a i)) hb).trans hc
def JfU (pre:List (Nat×Nat)) (p:Nat×Nat):Array Value :=
 #[cnt (sum1 pre) (sum2 pre) pre.length (sum4 pre),cnt p.2 (cH p.1) 1 (cL p.1)]
attribute [local go_sem] Oper.semAt_some
theorem Jqu(l:Nat)(b0 b1 lo:Nat)(h0:lo<=b0)(h1:lo<=b1)(hne:b0≠b1)(r:Nat)(n n1 n2 n3 n4:Int)(w:World)(hlw:lo<=w.heap.size)(hc:counted w b1 n1 n2 n3 n4)(hy:w.cell? ⟨b0,0,none⟩=some (.func (.yield l) #[] #[]))
    (R1 R0:World->Prop)
    (hR:∀A,Bw w A->YieldAt Fence.wide 0 prog l #[cnt n1 n2 n3 n4,cnt n (cH r) 1 (cL r)] A λe A' =>
      (e=.returned (.bool true)/\R1 A'/\KeepUp lo A A')\/(e=.returned (.bool false)/\R0 A'/\KeepUp lo A A')) :
    Cg 246 #[.int .i32 r,.int .i64 n,.pointer (some ⟨b0,0,none⟩),.pointer (some ⟨b1,0,none⟩)] w λe w' =>
     (e = .returned (.bool true)/\counted w' b1 (wrap64 (n1+n)) (wrap64 (n2+cH r)) (wrap64 (n3+1)) (wrap64 (n4+cL r))/\w'.cell? ⟨b0,0,none⟩=some (.func (.yield l) #[] #[]) /\
       ∃A',R1 A'/\Below lo A' w')\/(e=.returned (.bool false)/\R0 w'):=by
 have hlt:=Jca hc;have hlt0:b0<w.heap.size:=blt w _ hy;have HC:=hdz hc;have cO:=λ(w:World)=>Jii r n w;generalize cH r=x2 at *;generalize cL r=x4 at *;generalize (r:Int)=R at cO ⊢;unfold cnt at hR;refine(callsIn_wide (n:=1)).1 ?_;refine callsIn_of_wp func246 rfl trivial ?_ rfl;simp only[ntmps246,List.size_toArray,List.length_cons,List.length_nil,Nat.reduceAdd,Nat.reduceSub,Array.replicate_succ,Array.replicate_zero,List.push_toArray,List.append_toArray,List.nil_append,List.cons_append]
 gi_wp2_with (refine⟨trivial,?_⟩;gi_at_call 88;refine(callsIn_wide.2 (cO _)).mono ?_;rintro e w1 ⟨rfl,hb1⟩;have hb2:Bw w (w1.alloc (.cells #[.int .i64 n,.int .i64 x2,.int .i64 1,.int .i64 x4] 78)):=hb1.alloc hb1.size _;have HC2:=JaR HC.out hb2 hlt;have HB:=hdz hb2;obtain⟨⟨a0,a1,a2,a3⟩,b0',b1',b2',b3'⟩:=HC2;have hy2:=(hb2.cell (p:=⟨b0,0,none⟩) hlt0).trans hy;obtain⟨fn,tmps,assign,body,hyy,hRd⟩:=hR _ hb2;clear hb2)
 refine hRd.mono ?_;rintro e A' (⟨rfl,hR1,hk⟩|⟨rfl,hR0,hk⟩)
 . have HCA:=hk.counted h1 (JaR HC.out HB.out hlt)
   have HCN:counted (w1.alloc (.cells #[.int .i64 n,.int .i64 x2,.int .i64 1,.int .i64 x4] 78)) w1.heap.size n x2 1 x4:=by
    refine⟨⟨?_,?_,?_,?_⟩,?_,?_,?_,?_⟩<;>simp[go_sem]
   have HCO:=hk.counted (Nat.le_trans hlw hb1.size) HCN;have hyA:=hk.cell h0 hy2;have HCA':=hdz HCA;have hyA':=hdz hyA;obtain⟨⟨c0,c1,c2,c3⟩,d0,d1,d2,d3⟩:=HCA;obtain⟨⟨e0,e1,e2,e3⟩,f0,f1,f2,f3⟩:=HCO;have hlA:b1<A'.heap.size:=Jca HCA'.out;have hlA0:b0<A'.heap.size:=blt A' _ hyA;clear a0 a1 a2 a3 b0' b1' b2' b3' hy2 hyy hRd hy HC hc cO hR HCN hyA
   gi_wp2_with (refine⟨trivial,?_⟩;gi_at_call 87;refine(callsIn_wide.2 (JgV _ _ _ _ _ _ _ _ _)).mono ?_;rintro e w2 ⟨rfl,hb2⟩;have HC3:=Jad HCA'.out hb2;have HC4:=hdz HC3;obtain⟨⟨g0,g1,g2,g3⟩,k0,k1,k2,k3⟩:=HC3;have hB3:=hdz hb2;clear hb2)
   have hy3:w2.cell? ⟨b0,0,none⟩=some (.func (.yield l) #[] #[]):=(hB3.out.cell (p:=⟨b0,0,none⟩) hlA0).trans hyA'.out;go_ret;exact .inl ⟨rfl,JaN HC4.out,by simp[go_sem,hy3],A',hR1,Jhs (hB3.out.mono (Nat.le_of_lt (Nat.lt_of_le_of_lt h1 hlA))) h1 _ _ _ _⟩
 . gi_wp2
   go_ret;exact .inr ⟨rfl,hR0⟩
theorem Jq8(l:Nat)(b0 b1 lo:Nat)(h0:lo<=b0)(h1:lo<=b1)(hne:b0≠b1)(W0:World)(xs:List (Nat×Nat))(hx:xs.length<1000000000)(hx4:∀p∈xs,p.2<=4)(J Jx:List (Nat×Nat)->World->Prop)
    (hz:∀pre A,J pre A->Bw W0 A) (hzx:∀pre A,Jx pre A->Bw W0 A) (hJ:∀pre A B,J pre A->Below lo A B->J pre B)
    (hR:∀pre x A,J pre A->(∃rest,xs=pre++[x]++rest)->YieldAt Fence.wide 0 prog l (JfU pre x) A λe A' =>
      (e=.returned (.bool true)/\J (pre++[x]) A'/\KeepUp lo A A')\/(e=.returned (.bool false)/\Jx (pre++[x]) A'/\KeepUp lo A A')) :
    TakesS W0 246 #[Pd b0 0,Pd b1 0] xs
     (λdone w=>J done w/\lo<=w.heap.size/\counted w b1 (sum1 done) (sum2 done) (done.length:Int) (sum4 done)/\w.cell? (Ad b0 0)=some (.func (.yield l) #[] #[]))
     (λdone w=>Jx done w) where
 enters:=enters_of func246 (by kernel_rfl) rfl
 stays:=λdone w w' hI hb=>⟨hJ _ _ _ hI.1 (hb.mono hI.2.1),Nat.le_trans hI.2.1 hb.size,Jad hI.2.2.1 hb,(zC hb b0 0 (blt w _ hI.2.2.2)).trans hI.2.2.2⟩
 step := λdone p rest e w hI hw=>by
  obtain⟨hj,hlw,hc,hy⟩:=hI;have hlen:=congrArg List.length e;rw[List.length_append]at hlen;have k1:=JlC done λq hq=>hx4 q (by rw[e];simp[hq]);have k2:=JiO done;have k4:=JiN done;have hp:=hx4 p (by rw[e];simp);have hp2:=JvF p.1;have hp4:=JvE p.1;refine(Jqu l b0 b1 lo h0 h1 hne p.1 p.2 _ _ _ _ w hlw hc hy (J (done++[p])) (Jx (done++[p])) λA hb=>hR done p A (hJ _ _ _ hj (hb.mono hlw)) ⟨rest,by rw[e];simp⟩).mono ?_;rintro e' w' (⟨rfl,c,hy',A',hj',hb'⟩|⟨rfl,hj'⟩)
  . rw[Jar (by omega) (by omega),Jar (by omega) (by omega),Jar (by omega) (by omega),Jar (by omega) (by omega)]at c
    have e1:sum1 (done++[p])=sum1 done+p.2:=by simp[sum1]
    have e2:sum2 (done++[p])=sum2 done+cH p.1:=by simp[sum2]
    have e3:(((done++[p]).length:Nat):Int)=done.length+1:=by simp
    have e4:sum4 (done++[p])=sum4 done+cL p.1:=by simp[sum4]
    have hJw:=hJ _ _ _ hj' hb';refine⟨hz _ _ hJw,.inl ⟨rfl,hJw,Nat.le_trans h1 (Nat.le_of_lt (Jca c)),?_,hy'⟩⟩;rw[e1,e2,e3,e4];exact c
  . exact⟨hzx _ _ hj',.inr ⟨rfl,hj'⟩⟩
theorem Jlx(l:Nat)(w:World):(binOp .eql 310 (.func (.yield l) #[] #[]) .nilFunc).run prog w=.ok (.bool false) w:=by kernel_rfl
theorem Jpz(s:ByteArray)(hs:s.size<400000000)(W0:World)(hT:Lib.Utf8Tabs 3 4 W0)(sb:Nat)(W:World)(hsb:W.cell? (Ad sb 0)=some (.string s)) :
    Jlv prog 245 #[Pd sb 0] JfU (Below W.heap.size) (KeepUp W.heap.size) (Below W0.heap.size W0)
     (λxs=>xs=(scan s.data.toList).1) (λpre=>∃rest,(scan s.data.toList).1=pre++rest) W:=by
 intro l J Jx hz hzx hJ hJx hR hj0;have hlen:=JgQ s.data.toList;rw[←Lib.size_eq]at hlen;have hW:=hz _ _ hj0;have hlt:=blt W _ hsb
 have hb2:Bw W ((W.alloc (Oc #[.func (.yield l) #[] #[]] 310)).alloc (Oc #[I6 0,I6 0,I6 0,I6 0] 78)) :=
  ((brf _ W).alloc (nlr _) _).alloc (by rw[wsa];exact Nat.le_succ _) _
 have cE:=Jrv s (by unfold maxLen;omega) 246 #[Pd W.heap.size 0,.pointer (some (Ad (W.heap.size+1) 0))] W0 hT _ _
  (Jq8 l W.heap.size (W.heap.size+1) W.heap.size (nlr _) (Nat.le_succ _) (by omega) W0 (scan s.data.toList).1 (by omega) (Jo4 _) J Jx hz hzx hJ hR) _ (hz _ _ (hJ _ _ _ hj0 hb2))
  ⟨hJ _ _ _ hj0 hb2,hb2.size,(by refine⟨⟨?_,?_,?_,?_⟩,?_,?_,?_,?_⟩<;>simp[go_sem,sum1,sum2,sum4]),(by simp[go_sem])⟩
 have hs2:=(zC ((brf _ W).alloc (nlr _) (Oc #[.func (.yield l) #[] #[]] 310)) sb 0 hlt).trans hsb;have hs3:=(zC hb2 sb 0 hlt).trans hsb;clear hb2 hR hj0 hW hlen hs;have hnil:∀w,(binOp .eql 310 (.func (.yield l) #[] #[]) .nilFunc).run prog w=.ok (.bool false) w:=λw=>Jlx l w;refine callsIn_wide.2 ?_;simp only[List.append_toArray,List.cons_append,List.nil_append]
 go_enter func245,ntmps245
 go_wp2_with (go_at_call 85;refine cE.mono ?_;rintro e w1 ⟨⟨v,rfl⟩,hb1,⟨hj1,_⟩|⟨pre,rest,e1,hj1⟩⟩)
 . go_end0
   exact⟨⟨_,rfl⟩,.inl ⟨_,rfl,hj1⟩⟩
 . go_end0
   exact⟨⟨_,rfl⟩,.inr ⟨pre,⟨rest,e1⟩,hj1⟩⟩
end
section
attribute [local go_sem] Oper.semAt_some Jaj JaD
theorem Jqq(s:ByteArray)(w:World):Cg 201 #[.string s] w λe w'=>e=.returned (.func (.func 245) #[] #[Pd w.heap.size 0])/\w'=w.alloc (Oc #[.string s] 9):=by
 go_enter func201,ntmps201
 go_wp2;go_ret;exact⟨rfl,rfl⟩
def cntV (rs:List Nat):Value:=.agg #[I6 (C1 rs),I6 (C2 rs),I6 (C3 rs),I6 (C4 rs)]
def seek (f:List Nat->Bool):List Nat->List Nat->Option (List Nat)
 | _,[]=>none
 | pre,r :: rs=>if f (pre++[r]) then some (pre++[r]) else seek f (pre++[r]) rs
theorem Jf7(f:List Nat->Bool):∀(c1 pre c2:List Nat),seek f pre c1=none->seek f pre (c1++c2)=seek f (pre++c1) c2
 | [],pre,c2,_=>by simp
 | r :: c1,pre,c2,h=>by
  simp only[seek]at h
  by_cases hf:f (pre++[r])=true
  . rw[if_pos hf]at h;cases h
  . rw[if_neg hf]at h
    rw[List.cons_append,seek,if_neg hf,Jf7 f c1 (pre++[r]) c2 h];simp
def asks (W:World) (F:Nat) (cap:Array Value) (f:List Nat->Bool):Prop :=
 (∀args w,(callFunc F args).run prog w=.ok (.enter F args) w) /\
 ∀rs wx,C1 rs<=200000000->Bw W wx->Cg F (#[cntV rs]++cap) wx (Rt wx (.bool (f rs)))
theorem JgU(a b:List Nat)(hz:C1 (a++b)<=200000000)(w:World):Cg 87 #[cntV a,cntV b] w (Rt w (cntV (a++b))):=by
 have h:=JgV (C1 a) (C2 a) (C3 a) (C4 a) (C1 b) (C2 b) (C3 b) (C4 b) w;rw[Jbc]at hz;have a2:=Job a;have a3:=JjQ a;have a4:=JjP a;have b2:=Job b;have b3:=JjQ b;have b4:=JjP b;rw[Jar (by omega) (by omega),Jar (by omega) (by omega),Jar (by omega) (by omega),Jar (by omega) (by omega),←Jbc,←JjS,←JjR,←Jet]at h;exact h
theorem JhT(c1:List Nat)(r:Nat):JfU (wide c1) (r,(enc r).length)=#[cntV c1,cntV [r]]:=by
 simp[JfU,cnt,cntV,C1,C2,C3,C4,wide,sum1,sum2,sum4]
theorem Jqt(f:List Nat->Bool)(F:Nat)(cap:Array Value)(fs c:List Nat)(hc:∀r∈c,Jbp r)(hz:C1 (fs++c)<=100000000)(w:World)(hT:Lib.Utf8Tabs 3 4 w)(hE:asks w F cap f) :
    Cg 220 #[cntV fs,.string (Jah c),.func (.func F) #[] cap] w (Rt w (cntV ((seek f fs c).getD fs))):=by
 have HZ:Hid (C1 (fs++c)<=100000000):=hz;have HT:Hid (Lib.Utf8Tabs 3 4 w):=hT;have hent:=hE.1;have HE:Hid (∀rs wx,C1 rs<=200000000->Bw w wx->Cg F (#[cntV rs]++cap) wx (Rt wx (.bool (f rs)))):=hE.2;have HSC:Hid ((scan (Jah c).data.toList).1=wide c):=by show _=_;rw[JbT,JeF c hc]
 have hsz:(Jah c).size<=100000000:=by rw[JaI];have:=Jqs hz;rw[Jcb]at this;omega
 clear hE hc hz hT;have HV:Hid (cntV fs=.agg #[I6 (C1 fs),I6 (C2 fs),I6 (C3 fs),I6 (C4 fs)]):=rfl;rw[HV.out];refine(callsIn_wide (n:=3)).1 ?_;refine callsIn_of_wp_marks func220 rfl trivial ?_ rfl;simp only[ntmps220,List.size_toArray,List.length_cons,List.length_nil,Nat.reduceAdd,Nat.reduceSub,Array.replicate_succ,Array.replicate_zero,List.push_toArray,List.append_toArray,List.nil_append,List.cons_append]
 gi_wp2_with (refine⟨trivial,?_⟩;gi_at_call 201;refine(callsIn_wide.2 (Jqq (Jah c) _)).mono ?_;rintro e w13 ⟨rfl,rfl⟩)
 obtain⟨W4,hW4⟩:∃W4,W4=(((w.alloc (Oc #[Value.int IntKind.i64 (C1 fs),Value.int IntKind.i64 (C2 fs),Value.int IntKind.i64 (C3 fs),Value.int IntKind.i64 (C4 fs)] 78)).alloc (Oc #[Value.func (Fn.func F) #[] cap] 220)).alloc (Oc #[Value.int IntKind.i64 0,Value.int IntKind.i64 0,Value.int IntKind.i64 0,Value.int IntKind.i64 0] 78)).alloc (Oc #[.string (Jah c)] 9):=⟨_,rfl⟩;have hb4:Bw w W4:=by rw[hW4];exact((((brf _ w).alloc (nlr _) _).alloc (by simp) _).alloc (by simp;omega) _).alloc (by simp;omega) _
 have hs4:W4.heap.size=w.heap.size+4:=by rw[hW4];simp
 have f4:counted W4 w.heap.size (C1 fs) (C2 fs) (C3 fs) (C4 fs):=by rw[hW4];refine⟨⟨?_,?_,?_,?_⟩,?_,?_,?_,?_⟩<;>simp[go_sem]
 have e4:W4.cell? (Ad (w.heap.size+1) 0)=some (.func (.func F) #[] cap):=by rw[hW4];simp[go_sem]
 have r4:counted W4 (w.heap.size+2) 0 0 0 0:=by rw[hW4];refine⟨⟨?_,?_,?_,?_⟩,?_,?_,?_,?_⟩<;>simp[go_sem]
 have s4:W4.cell? (Ad (w.heap.size+3) 0)=some (.string (Jah c)):=by rw[hW4];simp[go_sem]
 rw[←hW4];clear hW4
 refine Jey (gf:=245) (lb:=#[.pointer (some (Ad (w.heap.size+3) 0))]) rfl (enters_of func245 (by kernel_rfl) rfl) (encs:=JfU) (λ_ _=>rfl)
  (It:=Below (w.heap.size+6)) (Kp:=KeepUp (w.heap.size+6)) (Z:=Below w.heap.size w) (S:=λxs=>xs=(scan (Jah c).data.toList).1) (Sp:=λpre=>∃rest,(scan (Jah c).data.toList).1=pre++rest)
  ?seq ?its (λh k=>h.trans k) (λA o=>KeepUp.putObj A (.loop o) (by rw[hs4];omega))
  (λpre W=>Below (w.heap.size+4) W4 W/\∃c1 c2,c=c1++c2/\pre=wide c1/\seek f fs c1=none)
  (λk pre W=>k=.ret/\∃x,seek f fs c=some x/\counted W (w.heap.size+2) (C1 x) (C2 x) (C3 x) (C4 x)/\Bw w W/\w.heap.size+6<=W.heap.size) ?iz ?ixz ?ii ?ib ?ix ?ixb ?h0 ?round ?done ?stop
 case seq =>
  intro W hs1 hb1;rw[hs4]at hs1 hb1;have:=Jpz (Jah c) (by omega) w HT.out (w.heap.size+3) W ((zC hb1 (w.heap.size+3) 0 (by show w.heap.size+3<_;omega)).trans s4);rw[hs1]at this;exact this
 case its=>exact λA B h=>Same2.of_below h (by rw[hs4];omega)
 case iz=>exact λpre A h=>hb4.trans (h.1.mono (by omega))
 case ixz=>exact λk pre A h=>by obtain⟨_,x,_,_,h,_⟩:=h;exact h
 case ii=>exact λpre A B h hb=>⟨h.1.trans (hb.mono (by omega)),h.2⟩
 case ib=>exact λpre A o h=>⟨h.1.trans ((Put1.putObj _ A (.loop o)).below (by rw[hs4];omega)),h.2⟩
 case ix=>exact λk pre A B h hb=>by obtain⟨h0,x,h1,h2,h3,h4⟩:=h;exact⟨h0,x,h1,JaR h2 hb (by omega),h3.trans (hb.mono (by omega)),Nat.le_trans h4 hb.size⟩
 case ixb =>
  rintro k pre A o ⟨h0,x,h1,h2,h3,h4⟩;have hb:Below (w.heap.size+5) A (A.putObj (w.heap.size+5) (.loop o)):=(Put1.putObj _ A (.loop o)).below (nlr _);rw[hs4];exact⟨h0,x,h1,JaR h2 hb (by omega),h3.trans (hb.mono (by omega)),Nat.le_trans h4 hb.size⟩
 case h0=>exact λW hs hb _=>by rw[hs4]at hb;exact⟨hb,[],c,rfl,rfl,rfl⟩
 case round =>
  rintro l pre x W ⟨hI,c1,c2,hcc,rfl,hsk⟩ hlW ⟨rest,hsp⟩;rw[hs4]at hlW ⊢;rw[HSC.out,List.append_assoc,hcc,JcS]at hsp;have hsp2:=List.append_cancel_left hsp;obtain ⟨r,d2,rfl,rfl⟩:∃r d2,c2=r :: d2/\x=(r,(enc r).length):=by
   cases c2 with
   | nil=>simp[wide]at hsp2
   | cons r d2=>simp only[wide,List.map_cons,List.singleton_append,List.cons.injEq]at hsp2;exact⟨r,d2,rfl,hsp2.1.symm⟩
  have HW:Hid (wide c1++[(r,(enc r).length)]=wide (c1++[r])):=by show _=_;rw[JcS];rfl
  have HCC:Hid (c=(c1++[r])++d2):=by show _=_;rw[hcc];simp
  have HSK:Hid (seek f fs c1=none):=hsk;have hzc:C1 (fs++(c1++[r]))<=100000000:=by have:=HZ.out;rw[HCC.out,←List.append_assoc]at this;exact JgF this
  have HP1:Hid (∀wx,Cg 87 #[cntV c1,cntV [r]] wx (Rt wx (cntV (c1++[r])))):=λwx=>JgU c1 [r] (by have:=Jqs hzc;omega) wx;have HP2:Hid (∀wx,Cg 87 #[cntV fs,cntV (c1++[r])] wx (Rt wx (cntV (fs++(c1++[r]))))):=λwx=>JgU fs (c1++[r]) (by omega) wx;have HQ:Hid (∀wx,Bw w wx->Cg F (#[cntV (fs++(c1++[r]))]++cap) wx (Rt wx (.bool (f (fs++(c1++[r])))))):=λwx hb=>HE.out _ wx (by omega) hb;rw[JhT];clear hsp hsp2 hcc hsk hzc;unfold cntV at HP1 HP2 HQ ⊢;generalize C1 c1=y1 at *;generalize C2 c1=y2 at *;generalize C3 c1=y3 at *;generalize C4 c1=y4 at *;generalize C1 [r]=u1 at *;generalize C2 [r]=u2 at *;generalize C3 [r]=u3 at *;generalize C4 [r]=u4 at *
  gi_wp2
  refine⟨(((Same2.refl _ W).alloc (by omega) _).alloc (by rw[wsa];omega) _),((KeepUp.refl _ W).alloc _).alloc _,?_⟩;intro w20 hp _;have hww:Bw W ((W.alloc (Oc #[I6 y1,I6 y2,I6 y3,I6 y4] 78)).alloc (Oc #[I6 u1,I6 u2,I6 u3,I6 u4] 78)):=((brf _ W).alloc (nlr _) _).alloc (by rw[wsa];exact Nat.le_succ _) _;have hs20:w20.heap.size=W.heap.size+2:=by rw[hp.size,World.size_alloc,World.size_alloc]
  have hWW:Below (w.heap.size+4) W4 w20:=hI.trans ((hww.mono (by omega)).trans (hp.below (by omega)));have hKU:KeepUp (w.heap.size+6) W w20:=⟨by omega,λk h1 h2=>(hp.block k (by omega)).trans (hww.block k h2)⟩;have hS2:Same2 (w.heap.size+4) ((W.alloc (Oc #[I6 y1,I6 y2,I6 y3,I6 y4] 78)).alloc (Oc #[I6 u1,I6 u2,I6 u3,I6 u4] 78)) w20->True:=λ_=>trivial;have f20:=JaR f4 hWW (by omega);have r20:=JaR r4 hWW (by omega);have e20:=(zC hWW (w.heap.size+1) 0 (by show w.heap.size+1<_;omega)).trans e4;have a20:counted w20 W.heap.size y1 y2 y3 y4:=by
   have h:counted ((W.alloc (Oc #[I6 y1,I6 y2,I6 y3,I6 y4] 78)).alloc (Oc #[I6 u1,I6 u2,I6 u3,I6 u4] 78)) W.heap.size y1 y2 y3 y4:=Jad (JaK W y1 y2 y3 y4 _) (zA _ _);obtain⟨⟨h0,h1,h2,h3⟩,k0,k1,k2,k3⟩:=h;exact⟨⟨(hp.cell (by omega)).trans h0,(hp.cell (by omega)).trans h1,(hp.cell (by omega)).trans h2,(hp.cell (by omega)).trans h3⟩,(hp.frozen (by omega)).trans k0,(hp.frozen (by omega)).trans k1,(hp.frozen (by omega)).trans k2,(hp.frozen (by omega)).trans k3⟩
  have o20:counted w20 (W.heap.size+1) u1 u2 u3 u4:=by
   have h:counted ((W.alloc (Oc #[I6 y1,I6 y2,I6 y3,I6 y4] 78)).alloc (Oc #[I6 u1,I6 u2,I6 u3,I6 u4] 78)) (W.heap.size+1) u1 u2 u3 u4:=by have:=JaK (W.alloc (Oc #[I6 y1,I6 y2,I6 y3,I6 y4] 78)) u1 u2 u3 u4 78;rwa[World.size_alloc]at this
   obtain⟨⟨h0,h1,h2,h3⟩,k0,k1,k2,k3⟩:=h;exact⟨⟨(hp.cell (by omega)).trans h0,(hp.cell (by omega)).trans h1,(hp.cell (by omega)).trans h2,(hp.cell (by omega)).trans h3⟩,(hp.frozen (by omega)).trans k0,(hp.frozen (by omega)).trans k1,(hp.frozen (by omega)).trans k2,(hp.frozen (by omega)).trans k3⟩
  have hw20:Bw w w20:=hb4.trans (hWW.mono (by omega));clear hp hww hS2 f4 r4 e4 s4
  gi_wp2
  refine Je7 6 7 (by kernel_rfl) rfl (by kernel_rfl) ?_;intro w21 hb21;obtain⟨G,hG⟩:=Jas w21;have f21:=Jad f20 hb21;have a21:=Jad a20 hb21;have o21:=Jad o20 hb21;obtain⟨⟨f0,f1,f2,f3⟩,_⟩:=f21;obtain⟨⟨a0,a1,a2,a3⟩,_⟩:=a21;obtain⟨⟨o0,o1,o2,o3⟩,_⟩:=o21;have gf0:=hG.cell f0;have gf1:=hG.cell f1;have gf2:=hG.cell f2;have gf3:=hG.cell f3;have ga0:=hG.cell a0;have ga1:=hG.cell a1;have ga2:=hG.cell a2;have ga3:=hG.cell a3;have go0:=hG.cell o0;have go1:=hG.cell o1;have go2:=hG.cell o2;have go3:=hG.cell o3;clear f0 f1 f2 f3 a0 a1 a2 a3 o0 o1 o2 o3
  (refine Jaa hG (i:=0) rfl (by kernel_rfl) (by kernel_rfl) (by kernel_rfl) (λK hK=>?_);go_simp;refine hK _ ?_;clear hK K)
  (refine Jaa hG (i:=1) rfl (by kernel_rfl) (by kernel_rfl) (by kernel_rfl) (λK hK=>?_);go_simp;refine hK _ ?_;clear hK K)
  (refine Jaa hG (i:=2) rfl (by kernel_rfl) (by kernel_rfl) (by kernel_rfl) (λK hK=>?_);go_simp;refine hK _ ?_;clear hK K)
  (refine Jaa hG (i:=3) rfl (by kernel_rfl) (by kernel_rfl) (by kernel_rfl) (λK hK=>?_);go_simp;apply Exists.intro;refine⟨λ_=>?_,hK _ ?_⟩;exact HP1.out _;clear hK K)
  (refine Jaa hG (i:=4) rfl (by kernel_rfl) (by kernel_rfl) (by kernel_rfl) (λK hK=>?_);go_simp;apply Exists.intro;refine⟨λ_=>?_,hK _ ?_⟩;exact HP2.out _;clear hK K)
  clear gf0 gf1 gf2 gf3 ga0 ga1 ga2 ga3 go0 go1 go2 go3 hG;refine Jbf (i:=5) rfl (by kernel_rfl) ?_;intro w22 hb22 K hK
  go_simp
  have hb22a:Bw w22 (w22.alloc (Oc #[I6 0,I6 0,I6 0,I6 0] 78)):=(brf _ w22).alloc (nlr _) _;refine hK _ _ hb22a ?_;clear hK K;refine JdF (i:=6) rfl (by kernel_rfl) (by kernel_rfl) ?_;intro w23 hb23 K hK;have hh:=Jad (JaK w22 0 0 0 0 78) hb23;have HH:=hdz hh;obtain⟨⟨h0,h1,h2,h3⟩,k0,k1,k2,k3⟩:=hh
  go_simp
  refine hK _ _ ?_;clear hK K;refine Jbi (by kernel_rfl) ?_;intro w24 hb24;have hb23':=hb21.trans (hb22.mono hb21.size);have hb2a:=hb23'.trans (hb22a.mono hb23'.size);have hb2b:=hb2a.trans (hb23.mono hb2a.size);have hb2c:=Jbn hb2b (B:=w22.heap.size) hb23'.size (I6 (C1 (fs++(c1++[r])))) (I6 (C2 (fs++(c1++[r])))) (I6 (C3 (fs++(c1++[r])))) (I6 (C4 (fs++(c1++[r]))));have hbF:=hb2c.trans (hb24.mono hb2c.size);have h24:=Jad (JaN (m1:=C1 (fs++(c1++[r]))) (m2:=C2 (fs++(c1++[r]))) (m3:=C3 (fs++(c1++[r]))) (m4:=C4 (fs++(c1++[r]))) HH.out) hb24;have e24:=(zC hbF (w.heap.size+1) 0 (by show w.heap.size+1<_;omega)).trans e20;have r24:=Jad r20 hbF;have hw24:Bw w w24:=hw20.trans (hbF.mono hw20.size);have hKU24:KeepUp (w.heap.size+6) W w24:=hKU.trans (KeepUp.of_below hbF);have HCQ:=HQ.out w24 hw24;have H24:=hdz h24;have HR24:=hdz r24;have HBF:=hdz hbF;have HWW:=hdz hWW;clear hb21 hb22 hb22a hb23 hb24 hb23' hb2a hb2b hb2c HH h0 h1 h2 h3 k0 k1 k2 k3 f20 r20 a20 o20 e20 hKU hKU24 hbF hWW;generalize w22.heap.size=hB at *;obtain⟨⟨h0,h1,h2,h3⟩,_⟩:=h24;obtain⟨_,t0,t1,t2,t3⟩:=r24;generalize hX1:C1 (fs++(c1++[r]))=X1 at *;generalize hX2:C2 (fs++(c1++[r]))=X2 at *;generalize hX3:C3 (fs++(c1++[r]))=X3 at *;generalize hX4:C4 (fs++(c1++[r]))=X4 at *;generalize hfx:f (fs++(c1++[r]))=fx at *
  gi_wp2
  refine⟨trivial,rfl,?_⟩;refine(CallsIn.inRound l (callsIn_wide.2 HCQ)).mono ?_;rintro e w25 ⟨rfl,hb25⟩;have h25:=Jad H24.out hb25;have r25:=Jad HR24.out hb25;have HR25:=hdz r25;have hbZ:=HBF.out.trans (hb25.mono HBF.out.size);have HBZ:=hdz hbZ;have HWZ:Hid _:=hw24.trans (hb25.mono hw24.size);clear h0 h1 h2 h3 t0 t1 t2 t3 e24 hb25 hbZ HCQ;obtain⟨⟨h0,h1,h2,h3⟩,_⟩:=h25;obtain⟨⟨z0,z1,z2,z3⟩,t0,t1,t2,t3⟩:=r25
  cases fx with
  | false =>
   gi_wp2
   refine⟨Same2.of_below HBZ.out (by omega),KeepUp.of_below HBZ.out,HWW.out.trans (HBZ.out.mono (by omega)),c1++[r],d2,HCC.out,HW.out,?_⟩;rw[Jf7 f c1 fs [r] HSK.out,seek,List.append_assoc,hfx];rfl
  | true =>
   gi_wp2
   have hkk:KeepUp (w.heap.size+6) w20 w25:=KeepUp.of_below HBZ.out
   refine ⟨((((Same2.of_below HBZ.out (by omega)).setCell (by show w.heap.size+2≠_;omega) (by show w.heap.size+2≠_;omega) _).setCell (by show w.heap.size+2≠_;omega) (by show w.heap.size+2≠_;omega) _).setCell (by show w.heap.size+2≠_;omega) (by show w.heap.size+2≠_;omega) _).setCell (by show w.heap.size+2≠_;omega) (by show w.heap.size+2≠_;omega) _,
    (((hkk.setCell (by show w.heap.size+2<_;omega) _).setCell (by show w.heap.size+2<_;omega) _).setCell (by show w.heap.size+2<_;omega) _).setCell (by show w.heap.size+2<_;omega) _,rfl,fs++(c1++[r]),?_,?_,Jbn HWZ.out (by omega) _ _ _ _,?_⟩
   . rw[HCC.out,List.append_assoc,Jf7 f c1 fs ([r]++d2) HSK.out,List.singleton_append,seek,List.append_assoc,hfx]
     rfl
   . rw[hX1,hX2,hX3,hX4]
     exact JaN HR25.out
   . have:=HBZ.out.size
     simp[World.setCell];omega
 case done =>
  rintro xs W rfl ⟨hI,c1,c2,hcc,hx,hsk⟩ hDef;rw[hs4]at hDef ⊢
  have HN:Hid (seek f fs c=none):=by
   show _=_;rw[HSC.out]at hx;have:c2=[]:=by
    have:=congrArg List.length hx;rw[hcc]at this;simp only[wide,List.length_map,List.length_append]at this;exact List.length_eq_zero_iff.1 (by omega)
   subst this;rw[hcc,List.append_nil];exact hsk
  have f5:=JaR f4 hI (by omega);have r5:=JaR r4 hI (by omega);have HR5:=hdz r5;have hbW:Bw w W:=hb4.trans (hI.mono (by omega));have HBW:=hdz hbW;have hIs:=hI.size;clear hcc hx hsk hbW hI f4 r4 e4 s4;obtain⟨⟨f0,f1,f2,f3⟩,_⟩:=f5;obtain⟨⟨z0,z1,z2,z3⟩,t0,t1,t2,t3⟩:=r5;generalize C1 fs=y1 at *;generalize C2 fs=y2 at *;generalize C3 fs=y3 at *;generalize C4 fs=y4 at *
  gi_wp2
  have hset:=JaN (m1:=y1) (m2:=y2) (m3:=y3) (m4:=y4) HR5.out;obtain⟨⟨x0,x1,x2,x3⟩,_⟩:=hset;have hDef':((((W.setCell (Ad (w.heap.size+2) 0) (I6 y1)).setCell (Ad (w.heap.size+2) 1) (I6 y2)).setCell (Ad (w.heap.size+2) 2) (I6 y3)).setCell (Ad (w.heap.size+2) 3) (I6 y4)).heap[w.heap.size+4]?=some (.deferred (some [])):=by
   refine(Below.heap_setCell _ _ _ _ ?_).trans ((Below.heap_setCell _ _ _ _ ?_).trans ((Below.heap_setCell _ _ _ _ ?_).trans ((Below.heap_setCell _ _ _ _ ?_).trans hDef)))<;>(show w.heap.size+4≠w.heap.size+2;omega)
  have hP:=Put1.putObj (w.heap.size+4) ((((W.setCell (Ad (w.heap.size+2) 0) (I6 y1)).setCell (Ad (w.heap.size+2) 1) (I6 y2)).setCell (Ad (w.heap.size+2) 2) (I6 y3)).setCell (Ad (w.heap.size+2) 3) (I6 y4)) (.deferred none);have p0:=(hP.cell (b:=w.heap.size+2) (o:=0) (by omega)).trans x0;have p1:=(hP.cell (b:=w.heap.size+2) (o:=1) (by omega)).trans x1;have p2:=(hP.cell (b:=w.heap.size+2) (o:=2) (by omega)).trans x2;have p3:=(hP.cell (b:=w.heap.size+2) (o:=3) (by omega)).trans x3;refine⟨by simp,.inl ⟨_,_,rfl,run_takeDeferred hDef',?_⟩⟩;refine⟨.agg #[I6 y1,I6 y2,I6 y3,I6 y4],by simp[results,results220,go_sem,p0,p1,p2,p3],?_,(Jbn HBW.out (B:=w.heap.size+2) (by omega) _ _ _ _).trans (hP.below (by omega))⟩;rw[HN.out];exact congrArg Ending.returned HV.out.symm
 case stop =>
  rintro k pre W hsp ⟨rfl,x,hx,hc2,hbW,hsW⟩ hDef;rw[hs4]at hDef ⊢;obtain⟨⟨z0,z1,z2,z3⟩,_⟩:=hc2;clear f4 r4 e4 s4
  gi_wp2
  have hP:=Put1.putObj (w.heap.size+4) W (.deferred none);have p0:=(hP.cell (b:=w.heap.size+2) (o:=0) (by omega)).trans z0;have p1:=(hP.cell (b:=w.heap.size+2) (o:=1) (by omega)).trans z1;have p2:=(hP.cell (b:=w.heap.size+2) (o:=2) (by omega)).trans z2;have p3:=(hP.cell (b:=w.heap.size+2) (o:=3) (by omega)).trans z3;refine⟨by simp,.inl ⟨_,_,rfl,run_takeDeferred hDef,?_⟩⟩;refine⟨cntV x,by simp[results,results220,go_sem,p0,p1,p2,p3,cntV],?_,hbW.trans (hP.below (by omega))⟩;rw[hx];rfl
theorem JkM(a b c d:Int)(w:World):(Instr.field 78 (.agg #[I6 a,I6 b,I6 c,I6 d]) 0).run prog w=.ok (I6 a) w:=by kernel_rfl
theorem JkL(a b c d:Int)(w:World):(Instr.field 78 (.agg #[I6 a,I6 b,I6 c,I6 d]) 3).run prog w=.ok (I6 d) w:=by kernel_rfl
attribute [local go_sem] JkM JkL
end
section
attribute [local go_sem] Oper.semAt_some Jaj JaD JkM JkL
theorem JuJ{l r:T}{c:List Nat}(h:okT (.node l c r)):okT l/\okT r/\JbO c:=by
 obtain⟨⟨b1,b2,_,_⟩,h2⟩:=h;exact⟨⟨b1,λx hx=>h2 x (by simp[T.chunks,hx])⟩,⟨b2,λx hx=>h2 x (by simp[T.chunks,hx])⟩,h2 c (by simp[T.chunks])⟩
end
section
attribute [local go_sem] Oper.semAt_some Jaj JaD
variable {f : List Nat → Bool}{W : World}
def Jjd (f:List Nat->Bool):Prop:=∀a b,f a=true->f (a++b)=true
def find (f:List Nat->Bool) (pre rs:List Nat):List Nat:=if f pre then pre else (seek f pre rs).getD (pre++rs)
theorem JlJ{f:List Nat->Bool}(hf:Jjd f):∀(rs pre:List Nat),f (pre++rs)=false->seek f pre rs=none
 | [],pre,_=>rfl
 | r :: rs,pre,h=>by
  have h1:f ((pre++[r])++rs)=false:=by rw[List.append_assoc];exact h
  have h2:f (pre++[r])=false:=by
   cases e:f (pre++[r]) with
   | false=>rfl
   | true=>rw[hf _ rs e]at h1;cases h1
  rw[seek,h2,if_neg (by simp),JlJ hf rs _ h1]
theorem JiY{f:List Nat->Bool}{x:List Nat}:∀(a pre b:List Nat),seek f pre a=some x->seek f pre (a++b)=some x
 | [],_,_,h=>by cases h
 | r :: a,pre,b,h=>by
  rw[List.cons_append];simp only[seek]at h ⊢
  split at h
  . rename_i hr;rw[if_pos hr];exact h
  . rename_i hr;rw[if_neg hr];exact JiY a _ b h
theorem JlI{f:List Nat->Bool}:∀(rs pre:List Nat),f pre=false->f (pre++rs)=true->∃x,seek f pre rs=some x
 | [],pre,h0,h=>by rw[List.append_nil,h0]at h;cases h
 | r :: rs,pre,h0,h=>by
  cases e:f (pre++[r]) with
  | true=>exact⟨_,by rw[seek,e];rfl⟩
  | false =>
   obtain⟨x,hx⟩:=JlI rs (pre++[r]) e (by rw[List.append_assoc];exact h);exact⟨x,by rw[seek,e];exact hx⟩
theorem Jwd(hf:Jjd f){a b:List Nat}(h:f (a++b)=false):f a=false:=by
 cases e:f a with
 | false=>rfl
 | true=>rw[hf a b e]at h;cases h
theorem Jn4{pre l m:List Nat}(h:f (pre++l)=true):find f pre (l++m)=find f pre l:=by
 unfold find
 cases e:f pre with
 | true=>rfl
 | false =>
  obtain⟨x,hx⟩:=JlI l pre e h;rw[JiY l pre m hx,hx];rfl
theorem Jt0(hf:Jjd f){pre l c r:List Nat}(h1:f (pre++l)=false)(h2:f (pre++l++c)=true):find f pre (l++c++r)=(seek f (pre++l) c).getD (pre++l):=by
 unfold find;obtain⟨x,hx⟩:=JlI c (pre++l) h1 h2;rw[Jwd hf h1,List.append_assoc l,Jf7 f l pre (c++r) (JlJ hf l pre h1),JiY c _ r hx,hx];rfl
theorem JkK(hf:Jjd f){pre m r:List Nat}(h:f (pre++m)=false):find f pre (m++r)=find f (pre++m) r:=by
 unfold find;rw[Jwd hf h,h,Jf7 f m pre r (JlJ hf m pre h),List.append_assoc];rfl
theorem JrD{W':World}{F:Nat}{cap:Array Value}(h:asks W F cap f)(hb:Bw W W'):asks W' F cap f :=
 ⟨h.1,λrs wx hz hb'=>h.2 rs wx hz (hb.trans (hb'.mono hb.size))⟩
theorem Jrw{A B:World}{a:Nat}{n1 n2 n3 n4:Int}(h:B.heap[a]?=A.heap[a]?)(hc:counted A a n1 n2 n3 n4):counted B a n1 n2 n3 n4:=by
 obtain⟨⟨a0,a1,a2,a3⟩,b0,b1,b2,b3⟩:=hc;exact⟨⟨(JeX h 0).trans a0,(JeX h 1).trans a1,(JeX h 2).trans a2,(JeX h 3).trans a3⟩,(Jfv h 0).trans b0,(Jfv h 1).trans b1,(Jfv h 2).trans b2,(Jfv h 3).trans b3⟩
def JiU (v:Value) (W:World):Nat:=match v with | .pointer (some p)=>(match W.cell? (Ad p.block 12) with | some (.int _ n)=>n.toNat | _=>0) | _=>0
theorem Jff{q:Option Addr}{t:T}(h:Jau W q t):JiU (.pointer q) W=t.size:=by
 cases t with
 | nil=>obtain rfl:q=none:=h;rfl
 | node l c r =>
  obtain⟨b,_,_,rfl,_,_,_,⟨_,h12⟩,_⟩:=h;simp only[JiU,h12];omega
theorem Jm8(f:List Nat->Bool)(hf:Jjd f)(F:Nat)(cap:Array Value)(p:Option Addr)(t:T)(w:World)(hT:Lib.Utf8Tabs 3 4 w)(ht:Jau w p t)(ho:okT t)(hz:C1 t.runes<=100000000)(hE:asks w F cap f) :
    Cg 173 #[.pointer p,.func (.func F) #[] cap] w (Rt w (cntV (find f [] t.runes))):=by
 have hent:=hE.1;have HE:Hid (asks w F cap f):=hE;have HT:Hid (Lib.Utf8Tabs 3 4 w):=hT;have HI:Hid (Jau w p t/\okT t/\C1 t.runes<=100000000):=⟨ht,ho,hz⟩;clear hE hT ht ho hz
 go_enter func173,ntmps173
 go_wp2
 go_loopw [0,6,7] (λv _ _ wr=>∃q tt pre,v=.pointer q/\Jau wr q tt/\okT tt/\counted wr (w.heap.size+1) (C1 pre) (C2 pre) (C3 pre) (C4 pre)/\counted wr w.heap.size 0 0 0 0/\Bw w wr/\C1 (pre++tt.runes)<=100000000/\find f [] t.runes=find f pre tt.runes/\wr.cell? (Ad (w.heap.size+1) 5)=none) (λv _ _ wr=>JiU v wr)
 case atStart =>
  have hb2:Bw w ((w.alloc (Oc #[I6 0,I6 0,I6 0,I6 0] 78)).alloc (Oc #[I6 0,I6 0,I6 0,I6 0] 78)):=((brf _ w).alloc (nlr _) _).alloc (by simp) _;refine⟨p,t,[],rfl,Jab hb2 HI.out.1,HI.out.2.1,?_,Jad (JaK w 0 0 0 0 _) (zA _ _),hb2,HI.out.2.2,rfl,by simp[go_sem]⟩;have:=JaK (w.alloc (Oc #[I6 0,I6 0,I6 0,I6 0] 78)) 0 0 0 0 78;rwa[World.size_alloc]at this
 case round =>
  obtain⟨q,tt,pre,rfl,hq,hok,hA,hR,hbw,hzz,hfd,hn5⟩:=hrel;have HN5:Hid (wr.cell? (Ad (w.heap.size+1) 5)=none):=hn5;clear hn5;have HA:=hdz hA;have HRR:=hdz hR;have HBW:=hdz hbw;have HQ:=hdz hq
  cases tt with
  | nil =>
   obtain rfl:q=none:=hq;have HF:Hid (find f [] t.runes=pre):=by
    show _=_;rw[hfd];unfold find;simp only[T.runes,seek,Option.getD_none,List.append_nil]
    split<;>rfl
   clear hok hzz hfd;obtain⟨⟨a0,a1,a2,a3⟩,_⟩:=hA;obtain⟨⟨z0,z1,z2,z3⟩,y0,y1,y2,y3⟩:=hR;go_wp2;have hset:=JaN (m1:=C1 pre) (m2:=C2 pre) (m3:=C3 pre) (m4:=C4 pre) HRR.out;obtain⟨⟨x0,x1,x2,x3⟩,_⟩:=hset;refine bodyPost_ret (v:=cntV pre) (by simp[results,results173,go_sem,x0,x1,x2,x3,cntV]) rfl ⟨by rw[HF.out],Jbn HBW.out (nlr _) _ _ _ _⟩
  | node l c r =>
   obtain⟨b1,pl,pr,rfl,⟨c0,c1,c2,c3,c4⟩,⟨c5,c6⟩,_,_,hl,hr⟩:=hq;obtain⟨hol,hor,hx⟩:=JuJ hok;have e0:(T.node l c r).runes=l.runes++c++r.runes:=by simp[T.runes]
   rw[e0]at hzz hfd;go_wp2;have hz1:C1 (pre++l.runes)<=200000000:=by rw[←List.append_assoc,←List.append_assoc]at hzz;have:=JgF (JgF hzz);omega
   have hz2:C1 (pre++l.runes++c)<=200000000:=by rw[←List.append_assoc,←List.append_assoc]at hzz;have:=JgF hzz;omega
   have HZ:Hid (C1 (pre++(l.runes++c++r.runes))<=100000000):=hzz;have HO:Hid (okT l/\okT r/\JbO c):=⟨hol,hor,hx⟩;have HL:Hid (Jau wr pl l):=hl;have hne1:b1≠w.heap.size+1:=λe=>by rw[e,HA.out.1.1]at c0;cases c0
   have HRT:Hid (Jau wr pr r):=hr;have HFD:Hid (find f [] t.runes=find f pre (l.runes++c++r.runes)):=hfd;clear hl hr hol hor hx hzz hfd hok e0 hR;refine Ja4 8 9 (by kernel_rfl) rfl ?_;intro w11 hb11;obtain⟨G,hG⟩:=Jas w11;have a11:=Jad hA hb11;obtain⟨⟨a0,a1,a2,a3⟩,_⟩:=a11;have ga0:=hG.cell a0;have ga1:=hG.cell a1;have ga2:=hG.cell a2;have ga3:=hG.cell a3;have g5:=hG.cell (Jac hb11 c5);have cC:=λx=>Jc2 pl l (G x) (Jab (hb11.trans ((hG.below x).mono hb11.size)) HL.out);have cP:=λx=>JgU pre l.runes hz1 (G x);unfold cntV at cP;clear a0 a1 a2 a3
   (refine Jaa hG (i:=0) rfl (by kernel_rfl) (by kernel_rfl) (by kernel_rfl) (λK hK=>?_);go_simp;refine hK _ ?_;clear hK K)
   (refine Jaa hG (i:=1) rfl (by kernel_rfl) (by kernel_rfl) (by kernel_rfl) (λK hK=>?_);go_simp;refine hK _ ?_;clear hK K)
   (refine Jaa hG (i:=2) rfl (by kernel_rfl) (by kernel_rfl) (by kernel_rfl) (λK hK=>?_);go_simp;refine hK _ ?_;clear hK K)
   (refine Jaa hG (i:=3) rfl (by kernel_rfl) (by kernel_rfl) (by kernel_rfl) (λK hK=>?_);go_simp;refine hK _ ?_;clear hK K)
   (refine Jaa hG (i:=4) rfl (by kernel_rfl) (by kernel_rfl) (by kernel_rfl) (λK hK=>?_);go_simp;refine hK _ ?_;clear hK K)
   (refine Jaa hG (i:=5) rfl (by kernel_rfl) (by kernel_rfl) (by kernel_rfl) (λK hK=>?_);go_simp;apply Exists.intro;refine⟨λ_=>?_,hK _ ?_⟩;exact cC _;clear hK K)
   (refine Jaa hG (i:=6) rfl (by kernel_rfl) (by kernel_rfl) (by kernel_rfl) (λK hK=>?_);go_simp;apply Exists.intro;refine⟨λ_=>?_,hK _ ?_⟩;exact cP _;clear hK K)
   clear ga0 ga1 ga2 ga3 g5 cC cP hG;refine Jbf (i:=7) rfl (by kernel_rfl) ?_;intro w12 hb12 K hK
   go_simp
   have hb1a:Bw w12 (w12.alloc (Oc #[I6 0,I6 0,I6 0,I6 0] 78)):=(brf _ w12).alloc (nlr _) _;refine hK _ _ hb1a ?_;clear hK K;refine JdF (i:=8) rfl (by kernel_rfl) (by kernel_rfl) ?_;intro w13 hb13 K hK;have hh:=Jad (JaK w12 0 0 0 0 78) hb13;have HH:=hdz hh;obtain⟨⟨h0,h1,h2,h3⟩,k0,k1,k2,k3⟩:=hh
   go_simp
   refine hK _ _ ?_;clear hK K;refine Jbi (by kernel_rfl) ?_;intro w14 hb14;have hx1:=hb11.trans (hb12.mono hb11.size);have hx2:=hx1.trans (hb1a.mono hx1.size);have hx3:=hx2.trans (hb13.mono hx2.size);have hx4:=Jbn hx3 (B:=w12.heap.size) hx1.size (I6 (C1 (pre++l.runes))) (I6 (C2 (pre++l.runes))) (I6 (C3 (pre++l.runes))) (I6 (C4 (pre++l.runes)));have hB1:=hx4.trans (hb14.mono hx4.size);have hC1:=Jad (JaN (m1:=C1 (pre++l.runes)) (m2:=C2 (pre++l.runes)) (m3:=C3 (pre++l.runes)) (m4:=C4 (pre++l.runes)) HH.out) hb14;clear hb11 hb12 hb1a hb13 hb14 hx1 hx2 hx3 hx4 HH h0 h1 h2 h3 k0 k1 k2 k3;generalize w12.heap.size=B1 at *;have d0:=Jac hB1 c0;have d1:=Jac hB1 c1;have d2:=Jac hB1 c2;have d3:=Jac hB1 c3;have d4:=Jac hB1 c4;go_wp2;refine Ja4 8 9 (by kernel_rfl) rfl ?_;intro w21 hb21;obtain⟨G,hG⟩:=Jas w21;have a21:=Jad hC1 hb21;obtain⟨⟨a0,a1,a2,a3⟩,_⟩:=a21;have ga0:=hG.cell a0;have ga1:=hG.cell a1;have ga2:=hG.cell a2;have ga3:=hG.cell a3;have g1:=hG.cell (Jac hb21 d1);have g2:=hG.cell (Jac hb21 d2);have g3:=hG.cell (Jac hb21 d3);have g4:=hG.cell (Jac hb21 d4);have cP:=λx=>JgU (pre++l.runes) c hz2 (G x);unfold cntV at cP;clear a0 a1 a2 a3
   (refine Jaa hG (i:=0) rfl (by kernel_rfl) (by kernel_rfl) (by kernel_rfl) (λK hK=>?_);go_simp;refine hK _ ?_;clear hK K)
   (refine Jaa hG (i:=1) rfl (by kernel_rfl) (by kernel_rfl) (by kernel_rfl) (λK hK=>?_);go_simp;refine hK _ ?_;clear hK K)
   (refine Jaa hG (i:=2) rfl (by kernel_rfl) (by kernel_rfl) (by kernel_rfl) (λK hK=>?_);go_simp;refine hK _ ?_;clear hK K)
   (refine Jaa hG (i:=3) rfl (by kernel_rfl) (by kernel_rfl) (by kernel_rfl) (λK hK=>?_);go_simp;refine hK _ ?_;clear hK K)
   (refine Jaa hG (i:=4) rfl (by kernel_rfl) (by kernel_rfl) (by kernel_rfl) (λK hK=>?_);go_simp;refine hK _ ?_;clear hK K)
   (refine Jaa hG (i:=5) rfl (by kernel_rfl) (by kernel_rfl) (by kernel_rfl) (λK hK=>?_);go_simp;refine hK _ ?_;clear hK K)
   (refine Jaa hG (i:=6) rfl (by kernel_rfl) (by kernel_rfl) (by kernel_rfl) (λK hK=>?_);go_simp;apply Exists.intro;refine⟨λ_=>?_,hK _ ?_⟩;exact cP _;clear hK K)
   clear ga0 ga1 ga2 ga3 g1 g2 g3 g4 cP hG d0 d1 d2 d3 d4;refine Jbf (i:=7) rfl (by kernel_rfl) ?_;intro w22 hb22 K hK
   go_simp
   have hb2a:Bw w22 (w22.alloc (Oc #[I6 0,I6 0,I6 0,I6 0] 78)):=(brf _ w22).alloc (nlr _) _;refine hK _ _ hb2a ?_;clear hK K;refine JdF (i:=8) rfl (by kernel_rfl) (by kernel_rfl) ?_;intro w23 hb23 K hK;have hh:=Jad (JaK w22 0 0 0 0 78) hb23;have HH:=hdz hh;obtain⟨⟨h0,h1,h2,h3⟩,k0,k1,k2,k3⟩:=hh
   go_simp
   refine hK _ _ ?_;clear hK K;refine Jbi (by kernel_rfl) ?_;intro w24 hb24;have hx1:=hb21.trans (hb22.mono hb21.size);have hne2:w22.heap.size≠w.heap.size+1:=by have:=hx1.size;have:=hB1.size;have:=Jca HA.out;omega
   have hx2:=hx1.trans (hb2a.mono hx1.size);have hx3:=hx2.trans (hb23.mono hx2.size);have hx4:=Jbn hx3 (B:=w22.heap.size) hx1.size (I6 (C1 (pre++(l.runes++c)))) (I6 (C2 (pre++(l.runes++c)))) (I6 (C3 (pre++(l.runes++c)))) (I6 (C4 (pre++(l.runes++c))));have hB2:=hx4.trans (hb24.mono hx4.size);have hC2:=Jad (JaN (m1:=C1 (pre++(l.runes++c))) (m2:=C2 (pre++(l.runes++c))) (m3:=C3 (pre++(l.runes++c))) (m4:=C4 (pre++(l.runes++c))) HH.out) hb24;clear hb21 hb22 hb2a hb23 hb24 hx1 hx2 hx3 hx4 HH h0 h1 h2 h3 k0 k1 k2 k3;generalize w22.heap.size=B2 at *;have hB12:=hB1.trans (hB2.mono hB1.size);have hF:=Jad hC1 hB2;have HF:=hdz hF;have HH2:=hdz hC2;have hbw2:=hbw.trans (hB12.mono hbw.size);obtain⟨⟨f0,f1,f2,f3⟩,_⟩:=hF;go_wp2;have hq1:=HE.out.2 (pre++l.runes) w24 hz1 hbw2;refine hq1.mono ?_;rintro e w31 ⟨rfl,hb31⟩;have hB13:=hB12.trans (hb31.mono hB12.size);have hF3:=Jad HF.out hb31;have hH3:=Jad HH2.out hb31;have hbw3:=hbw.trans (hB13.mono hbw.size);have e0:=Jac hB13 c0;have e5:=Jac hB13 c5;have e6:=Jac hB13 c6;have HF3:=hdz hF3;have HH3:=hdz hH3;have HB13:=hdz hB13;have HBW3:=hdz hbw3;clear f0 f1 f2 f3 hq1 hb31 hC1 hC2 hB1 hB2 hB12 hbw2 c0 c1 c2 c3 c4 c5 c6 hB13 hbw3 hbw hA;obtain⟨⟨f0,f1,f2,f3⟩,_⟩:=hF3;obtain⟨⟨h0,h1,h2,h3⟩,_⟩:=hH3
   cases hf1:f (pre++l.runes) with
   | true =>
    clear h0 h1 h2 h3 f0 f1 f2 f3;go_wp2
    go_roundw
    case rel=>exact⟨pl,l,pre,rfl,Jab HB13.out HL.out,HO.out.1,Jad HA.out HB13.out,Jad HRR.out HB13.out,HBW3.out,(by have:=HZ.out;rw[List.append_assoc l.runes,←List.append_assoc]at this;exact JgF this),by rw[HFD.out,List.append_assoc,Jn4 hf1],(JeX (HB13.out.block (w.heap.size+1) (Jca HA.out)) 5).trans HN5.out⟩
    case measure =>
     show JiU _ _<JiU _ _;rw[Jff (Jab HB13.out HL.out),Jff HQ.out];simp only[T.size];omega
   | false =>
    go_wp2;have hq2:=HE.out.2 (pre++(l.runes++c)) w31 (by rw[←List.append_assoc];exact hz2) HBW3.out;refine hq2.mono ?_;rintro e w41 ⟨rfl,hb41⟩;have hF4:=Jad HF3.out hb41;have hH4:=Jad HH3.out hb41;have hB14:=HB13.out.trans (hb41.mono HB13.out.size);have hbw4:=HBW3.out.trans (hb41.mono HBW3.out.size);have i0:=Jac hb41 e0;have i6:=Jac hb41 e6;have HB14:=hdz hB14;have HBW4:=hdz hbw4;clear hq2 hb41 f0 f1 f2 f3 h0 h1 h2 h3 e0 e5 e6;obtain⟨⟨f0,f1,f2,f3⟩,_⟩:=hF4;obtain⟨⟨h0,h1,h2,h3⟩,_⟩:=hH4
    cases hf2:f (pre++(l.runes++c)) with
    | true =>
     go_wp2;refine Ja4 8 9 (by kernel_rfl) rfl ?_;intro w51 hb51;obtain⟨G,hG⟩:=Jas w51;have ga0:=hG.cell (Jac hb51 f0);have ga1:=hG.cell (Jac hb51 f1);have ga2:=hG.cell (Jac hb51 f2);have ga3:=hG.cell (Jac hb51 f3);have g0:=hG.cell (Jac hb51 i0);have hbw5:=hbw4.trans (hb51.mono hbw4.size);have cW:=λx=>Jqt f F cap (pre++l.runes) c HO.out.2.2.2.2 (by have:=HZ.out;rw[←List.append_assoc,←List.append_assoc]at this;exact JgF this) (G x) (Go.Proofs.Utf8Tabs_below HT.out (hbw5.trans ((hG.below x).mono hbw5.size))) (JrD HE.out (hbw5.trans ((hG.below x).mono hbw5.size)));have HN:Hid (find f [] t.runes=(seek f (pre++l.runes) c).getD (pre++l.runes)):=by
      show _=_;rw[HFD.out,Jt0 hf hf1 (by rw[List.append_assoc];exact hf2)]
     generalize (seek f (pre++l.runes) c).getD (pre++l.runes)=X at *;unfold cntV at cW
     (refine Jaa hG (i:=0) rfl (by kernel_rfl) (by kernel_rfl) (by kernel_rfl) (λK hK=>?_);go_simp;refine hK _ ?_;clear hK K)
     (refine Jaa hG (i:=1) rfl (by kernel_rfl) (by kernel_rfl) (by kernel_rfl) (λK hK=>?_);go_simp;refine hK _ ?_;clear hK K)
     (refine Jaa hG (i:=2) rfl (by kernel_rfl) (by kernel_rfl) (by kernel_rfl) (λK hK=>?_);go_simp;refine hK _ ?_;clear hK K)
     (refine Jaa hG (i:=3) rfl (by kernel_rfl) (by kernel_rfl) (by kernel_rfl) (λK hK=>?_);go_simp;refine hK _ ?_;clear hK K)
     (refine Jaa hG (i:=4) rfl (by kernel_rfl) (by kernel_rfl) (by kernel_rfl) (λK hK=>?_);go_simp;refine hK _ ?_;clear hK K)
     (refine Jaa hG (i:=5) rfl (by kernel_rfl) (by kernel_rfl) (by kernel_rfl) (λK hK=>?_);go_simp;refine hK _ ?_;clear hK K)
     (refine Jaa hG (i:=6) rfl (by kernel_rfl) (by kernel_rfl) (by kernel_rfl) (λK hK=>?_);go_simp;refine hK _ ?_;clear hK K)
     (refine Jaa hG (i:=7) rfl (by kernel_rfl) (by kernel_rfl) (by kernel_rfl) (λK hK=>?_);go_simp;apply Exists.intro;refine⟨λ_=>?_,hK _ ?_⟩;exact cW _;clear hK K)
     clear ga0 ga1 ga2 ga3 g0 cW hG f0 f1 f2 f3 h0 h1 h2 h3 i0 i6;refine JdF (i:=8) rfl (by kernel_rfl) (by kernel_rfl) ?_;intro w53 hb53 K hK;have hbw6:=hbw5.trans (hb53.mono hbw5.size);have hr6:=Jad HRR.out (HB14.out.trans ((hb51.trans (hb53.mono hb51.size)).mono HB14.out.size));have HR6:=hdz hr6;obtain⟨⟨z0,z1,z2,z3⟩,y0,y1,y2,y3⟩:=hr6
     go_simp
     refine hK _ _ ?_;clear hK K;refine Jbi (by kernel_rfl) ?_;intro w54 hb54;have hset:=Jad (JaN (m1:=C1 X) (m2:=C2 X) (m3:=C3 X) (m4:=C4 X) HR6.out) hb54;have hbw7:=Jbn hbw6 (nlr _) (I6 (C1 X)) (I6 (C2 X)) (I6 (C3 X)) (I6 (C4 X));have hbw8:=hbw7.trans (hb54.mono hbw7.size);clear z0 z1 z2 z3 y0 y1 y2 y3 hb54;obtain⟨⟨x0,x1,x2,x3⟩,_⟩:=hset;go_wp2;refine bodyPost_ret (v:=cntV X) (by simp[results,results173,go_sem,x0,x1,x2,x3,cntV]) rfl ⟨by rw[HN.out],hbw8⟩
    | false =>
     go_wp2;refine Jfa (w.heap.size+1) 7 7 (by kernel_rfl) rfl ?_;intro w51 hb51;obtain⟨G,hG⟩:=JfN (w.heap.size+1) w51;have hw0:=But.refl (w.heap.size+1) w51;have ga0:=hG.cell hne2 (Jac hb51 h0);have ga1:=hG.cell hne2 (Jac hb51 h1);have ga2:=hG.cell hne2 (Jac hb51 h2);have ga3:=hG.cell hne2 (Jac hb51 h3);have g6:=hG.cell hne1 (Jac hb51 i6)
     (refine JaZ hG hw0 (i:=0) rfl (by kernel_rfl) (by kernel_rfl) (by kernel_rfl) (λK hK=>?_);go_simp;refine hK _ ?_;clear hK K)
     (refine JaZ hG hw0 (i:=1) rfl (by kernel_rfl) (by kernel_rfl) (by kernel_rfl) (λK hK=>?_);go_simp;refine hK _ ?_;clear hK K)
     (refine JaZ hG hw0 (i:=2) rfl (by kernel_rfl) (by kernel_rfl) (by kernel_rfl) (λK hK=>?_);go_simp;refine hK _ ?_;clear hK K)
     (refine JaZ hG hw0 (i:=3) rfl (by kernel_rfl) (by kernel_rfl) (by kernel_rfl) (λK hK=>?_);go_simp;refine hK _ ?_;clear hK K)
     (refine JaZ hG hw0 (i:=4) rfl (by kernel_rfl) (by kernel_rfl) (by kernel_rfl) (λK hK=>?_);go_simp;refine hK _ ?_;clear hK K)
     clear ga0 ga1 ga2 ga3 g6 hG f0 f1 f2 f3 h0 h1 h2 h3 i0 i6;refine Jfx (i:=5) (by kernel_rfl) ⟨_,rfl,?_⟩;intro w53 hb53 K hK;have hb43:=hb51.trans (hb53.mono hb51.size);have hB15:=HB14.out.trans (hb43.mono HB14.out.size);have ha6:=Jad HA.out hB15;have HA6:=hdz ha6;have HB15:=hdz hB15;obtain⟨⟨z0,z1,z2,z3⟩,y0,y1,y2,y3⟩:=ha6
     go_simp
     refine hK _ _ (λh=>(((h.setCell rfl _).setCell rfl _).setCell rfl _).setCell rfl _) ?_;clear hK K z0 z1 z2 z3 y0 y1 y2 y3;refine Jfx (i:=6) (by kernel_rfl) ⟨_,rfl,?_⟩;intro w55 hb55 K hK
     go_simp
     refine hK _ _ (λh=>h) ?_;clear hK K;refine Jmv (by kernel_rfl) ?_;intro w56 hb56;have hb57:=hb55.trans (hb56.mono hb55.size);have HN6:Hid (w53.cell? (Ad (w.heap.size+1) 5)=none):=(JeX (HB15.out.block (w.heap.size+1) (Jca HA.out)) 5).trans HN5.out;have HBU:Hid _:=((((But.refl (w.heap.size+1) w53).setCell (p:=(Ad (w.heap.size+1) 0)) rfl (I6 (C1 (pre++(l.runes++c))))).setCell (p:=(Ad (w.heap.size+1) 1)) rfl (I6 (C2 (pre++(l.runes++c))))).setCell (p:=(Ad (w.heap.size+1) 2)) rfl (I6 (C3 (pre++(l.runes++c))))).setCell (p:=(Ad (w.heap.size+1) 3)) rfl (I6 (C4 (pre++(l.runes++c))));have hT6:=Jab hb57 (JcC HBU.out HN6.out (Jab HB15.out HRT.out));have hA7:=Jad (JaN (m1:=C1 (pre++(l.runes++c))) (m2:=C2 (pre++(l.runes++c))) (m3:=C3 (pre++(l.runes++c))) (m4:=C4 (pre++(l.runes++c))) HA6.out) hb57;have hbw5:Bw w w53:=HBW4.out.trans (hb43.mono HBW4.out.size);have hbw6:=Jbn hbw5 (B:=w.heap.size+1) (Nat.le_succ _) (I6 (C1 (pre++(l.runes++c)))) (I6 (C2 (pre++(l.runes++c)))) (I6 (C3 (pre++(l.runes++c)))) (I6 (C4 (pre++(l.runes++c))));have hbw7:=hbw6.trans (hb57.mono hbw6.size);have hR5:=Jad HRR.out HB15.out;have hR7:=Jad (Jrw (HBU.out.block w.heap.size (Jca hR5) (by omega)) hR5) hb57;have hlt5:w.heap.size+1<w53.heap.size:=Nat.lt_of_lt_of_le (Jca HA.out) HB15.out.size;have hn7:=(JeX (hb57.block (w.heap.size+1) (by simpa[World.setCell] using hlt5)) 5).trans ((World.cell?_setCell_other _ _ (Ad (w.heap.size+1) 5) _ (by simp)).trans ((World.cell?_setCell_other _ _ (Ad (w.heap.size+1) 5) _ (by simp)).trans ((World.cell?_setCell_other _ _ (Ad (w.heap.size+1) 5) _ (by simp)).trans ((World.cell?_setCell_other _ _ (Ad (w.heap.size+1) 5) _ (by simp)).trans HN6.out))));have HG:Hid (find f [] t.runes=find f (pre++(l.runes++c)) r.runes):=by
      show _=_;rw[HFD.out,JkK hf hf2]
     clear hb43 hb51 hb53 hb55 hb56 hB14 hbw4 hbw5 hbw6 hB15 hR5 hlt5;go_wp2
     go_roundw
     case rel=>exact⟨pr,r,pre++(l.runes++c),rfl,hT6,HO.out.2.1,hA7,hR7,hbw7,(by have:=HZ.out;rwa[←List.append_assoc]at this),HG.out,hn7⟩
     case measure =>
      show JiU _ _<JiU _ _;rw[Jff hT6,Jff HQ.out];simp only[T.size];omega
end
section
attribute [local go_sem] Oper.semAt_some Jaj JaD JkM JkL
def by_ (u:Int) (rs:List Nat):Int:=if u=1 then C1 rs else if u=2 then C2 rs else if u=3 then C3 rs else 0
theorem Jb9(u:Int)(a b:List Nat):by_ u (a++b)=by_ u a+by_ u b:=by
 unfold by_
 split
 . exact Jbc a b
 . split
   . exact JjS a b
   . split
     . exact JjR a b
     . rfl
theorem Jdd(u:Int)(a:List Nat):0<=by_ u a:=by
 unfold by_
 split
 . exact JdN a
 . split
   . exact(Job a).1
   . split
     . exact(JjQ a).1
     . omega
theorem JdH(u:Int)(rs:List Nat)(w:World):Cg 119 #[cntV rs,I6 u] w (Rt w (I6 (by_ u rs))):=by
 have hbw:Bw w (w.alloc (Oc #[I6 (C1 rs),I6 (C2 rs),I6 (C3 rs),I6 (C4 rs)] 78)):=zA _ _;unfold cntV by_
 by_cases h1:u=1
 . subst h1
   go_enter func119,ntmps119
   go_wp2;go_ret;exact⟨rfl,hbw⟩
 . have k1:(u==1)=false:=beq_eq_false_iff_ne.2 h1
   rw[if_neg h1]
   by_cases h2:u=2
   . subst h2
     go_enter func119,ntmps119
     go_wp2;go_ret;exact⟨rfl,hbw⟩
   . have k2:(u==2)=false:=beq_eq_false_iff_ne.2 h2
     rw[if_neg h2]
     by_cases h3:u=3
     . subst h3
       go_enter func119,ntmps119
       go_wp2;go_ret;exact⟨rfl,hbw⟩
     . have k3:(u==3)=false:=beq_eq_false_iff_ne.2 h3
       rw[if_neg h3];clear h1 h2 h3
       go_enter func119,ntmps119
       go_wp2;go_ret;exact⟨rfl,hbw⟩
def JaY (u at_:Int) (rs:List Nat):Bool:=decide (at_<=by_ u rs)
theorem Jin(u at_:Int):Jjd (JaY u at_):=λa b h=>by
 have h1:at_<=by_ u a:=of_decide_eq_true h;have:=Jdd u b;exact decide_eq_true (by rw[Jb9];omega)
def Ja3 (line:Int) (rs:List Nat):Bool:=decide (line<=C4 rs)
theorem Je0(line:Int):Jjd (Ja3 line):=λa b h=>by
 have h1:line<=C4 a:=of_decide_eq_true h;have:=(JjP b).1;exact decide_eq_true (by rw[Jet];omega)
theorem Jrf(line:Int)(b:Nat)(W:World)(hb:W.cell? (Ad b 0)=some (I6 line)):asks W 175 #[Pd b 0] (Ja3 line):=by
 refine⟨enters_of func175 (by kernel_rfl) rfl,λrs wx _ hbx=>?_⟩;have h0:=Jac hbx hb;have hbw:Bw wx (wx.alloc (Oc #[I6 (C1 rs),I6 (C2 rs),I6 (C3 rs),I6 (C4 rs)] 78)):=zA _ _;have h1:=Jac hbw h0;unfold cntV Ja3
 go_enter func175,ntmps175
 go_wp2;go_ret;exact⟨by simp,hbw⟩
theorem Jpv(u at_:Int)(b1 b2:Nat)(W:World)(hu:W.cell? (Ad b1 0)=some (I6 u))(ha:W.cell? (Ad b2 0)=some (I6 at_)):asks W 174 #[Pd b1 0,Pd b2 0] (JaY u at_):=by
 refine⟨enters_of func174 (by kernel_rfl) rfl,λrs wx _ hbx=>?_⟩;have h0:=Jac hbx hu;have h1:=Jac hbx ha;have hbw:Bw wx (wx.alloc (Oc #[I6 (C1 rs),I6 (C2 rs),I6 (C3 rs),I6 (C4 rs)] 78)):=zA _ _;have hc:=JaK wx (C1 rs) (C2 rs) (C3 rs) (C4 rs) 78;have k0:=Jac hbw h0;have k1:=Jac hbw h1;have cI:=λwy=>JdH u rs wy;unfold cntV at cI ⊢;unfold JaY;generalize by_ u rs=n at *
 go_enter func174,ntmps174
 go_wp2_with (go_at_call 9999)
 refine Ja4 6 6 (by kernel_rfl) rfl ?_;intro w1 hb1;obtain⟨G,hG⟩:=Jas w1;have hc1:=Jad hc hb1;obtain⟨⟨a0,a1,a2,a3⟩,_⟩:=hc1;have g0:=hG.cell a0;have g1:=hG.cell a1;have g2:=hG.cell a2;have g3:=hG.cell a3;have gu:=hG.cell (Jac hb1 k0);have ga:=hG.cell (Jac hb1 k1);have cG:=λx=>cI (G x)
 (refine Jaa hG (i:=0) rfl (by kernel_rfl) (by kernel_rfl) (by kernel_rfl) (λK hK=>?_);go_simp;refine hK _ ?_;clear hK K)
 (refine Jaa hG (i:=1) rfl (by kernel_rfl) (by kernel_rfl) (by kernel_rfl) (λK hK=>?_);go_simp;refine hK _ ?_;clear hK K)
 (refine Jaa hG (i:=2) rfl (by kernel_rfl) (by kernel_rfl) (by kernel_rfl) (λK hK=>?_);go_simp;apply Exists.intro;refine⟨λ_=>?_,hK _ ?_⟩;exact cG _;clear hK K)
 (refine Jaa hG (i:=3) rfl (by kernel_rfl) (by kernel_rfl) (by kernel_rfl) (λK hK=>?_);go_simp;refine hK _ ?_;clear hK K)
 (refine Jaa hG (i:=4) rfl (by kernel_rfl) (by kernel_rfl) (by kernel_rfl) (λK hK=>?_);go_simp;refine hK _ ?_;clear hK K)
 (refine Jaa hG (i:=5) rfl (by kernel_rfl) (by kernel_rfl) (by kernel_rfl) (λK hK=>?_);go_simp;refine hK _ ?_;clear hK K)
 clear g0 g1 g2 g3 gu ga cG hG;refine Jbi (by kernel_rfl) ?_;intro w2 hb2;have hb4:=hbw.trans ((hb1.trans (hb2.mono hb1.size)).mono hbw.size);clear hb1 hb2 a0 a1 a2 a3 k0 k1 hc;go_wp2;go_ret;exact⟨by simp,hb4⟩
theorem JuX(b:Nat)(rs:List Nat)(line:Int)(hl0:0<=line)(hl1:line<=C4 rs)(w:World)(hT:Lib.Utf8Tabs 3 4 w)(h:Jc5 w b rs)(hz:C1 rs<=100000000) :
    Cg 118 #[Pd b 0,I6 line] w (Rt w (.tuple #[cntV (find (Ja3 line) [] rs),.nilIface])):=by
 obtain⟨q,t,h1,_,_,h4,ho,rfl⟩:=h;have hb2:Bw w ((w.alloc (Oc #[I6 line] 3)).alloc (Oc #[I6 0,I6 0,I6 0,I6 0] 78)):=((brf _ w).alloc (nlr _) _).alloc (by simp) _;have hl:((w.alloc (Oc #[I6 line] 3)).alloc (Oc #[I6 0,I6 0,I6 0,I6 0] 78)).cell? (Ad w.heap.size 0)=some (I6 line):=by simp[go_sem]
 have hr:=JaK (w.alloc (Oc #[I6 line] 3)) 0 0 0 0 78;rw[wsa]at hr;have cT:=λwx (hb:Bw w wx)=>Jc1 b q wx (Jac hb h1);have cC:=λwx (hb:Bw w wx)=>Jc2 q t wx (Jab hb h4);have cU:=λwx (hb:Bw w wx) (hc:wx.cell? (Ad w.heap.size 0)=some (I6 line))=>Jm8 (Ja3 line) (Je0 line) 175 #[Pd w.heap.size 0] q t wx (Go.Proofs.Utf8Tabs_below hT hb) (Jab hb h4) ho hz (Jrf line w.heap.size wx hc);unfold cntV at cU ⊢;generalize find (Ja3 line) [] t.runes=X at *;generalize C1 t.runes=x1 at *;generalize C2 t.runes=x2 at *;generalize C3 t.runes=x3 at *;generalize C4 t.runes=x4 at *;have n0:¬line<0:=by omega
 have n1:¬x4<line:=by omega
 clear h4 ho hT
 go_enter func118,ntmps118
 go_wp2_with (go_at_call 171;refine(cT _ hb2).mono ?_;rintro e w1 ⟨rfl,hw1⟩;obtain rfl:=hw1.symm)
 obtain⟨W2,hW2⟩:∃W2,((w.alloc (Oc #[I6 line] 3)).alloc (Oc #[I6 0,I6 0,I6 0,I6 0] 78))=W2:=⟨_,rfl⟩;rw[hW2]at hb2 hl hr ⊢;clear hW2;refine Ja4 9 9 (by kernel_rfl) rfl ?_;intro w3 hb3;have hb23:=hb2.trans (hb3.mono hb2.size);obtain⟨G,hG⟩:=Jas w3;have gl:=hG.cell (Jac hb3 hl);have cG:=λx=>cC (G x) (hb23.trans ((hG.below x).mono hb23.size))
 (refine Jaa hG (i:=0) rfl (by kernel_rfl) (by kernel_rfl) (by kernel_rfl) (λK hK=>?_);go_simp;refine hK _ ?_;clear hK K)
 (refine Jaa hG (i:=1) rfl (by kernel_rfl) (by kernel_rfl) (by kernel_rfl) (λK hK=>?_);go_simp;refine hK _ ?_;clear hK K)
 (refine Jaa hG (i:=2) rfl (by kernel_rfl) (by kernel_rfl) (by kernel_rfl) (λK hK=>?_);go_simp;refine hK _ ?_;clear hK K)
 (refine Jaa hG (i:=3) rfl (by kernel_rfl) (by kernel_rfl) (by kernel_rfl) (λK hK=>?_);go_simp;refine hK _ ?_;clear hK K)
 (refine Jaa hG (i:=4) rfl (by kernel_rfl) (by kernel_rfl) (by kernel_rfl) (λK hK=>?_);go_simp;refine hK _ ?_;clear hK K)
 (refine Jaa hG (i:=5) rfl (by kernel_rfl) (by kernel_rfl) (by kernel_rfl) (λK hK=>?_);go_simp;apply Exists.intro;refine⟨λ_=>?_,hK _ ?_⟩;exact cG _;clear hK K)
 (refine Jaa hG (i:=6) rfl (by kernel_rfl) (by kernel_rfl) (by kernel_rfl) (λK hK=>?_);go_simp;refine hK _ ?_;clear hK K)
 (refine Jaa hG (i:=7) rfl (by kernel_rfl) (by kernel_rfl) (by kernel_rfl) (λK hK=>?_);go_simp;refine hK _ ?_;clear hK K)
 (refine Jaa hG (i:=8) rfl (by kernel_rfl) (by kernel_rfl) (by kernel_rfl) (λK hK=>?_);go_simp;refine hK _ ?_;clear hK K)
 clear gl cG hG;refine Jbi (by kernel_rfl) ?_;intro w4 hb4;have hb34:=hb3.trans (hb4.mono hb3.size);have hb24:=hb2.trans (hb34.mono hb2.size);have hl4:=Jac hb34 hl;have hr4:=Jad hr hb34;have cU4:=cU w4 hb24 hl4;clear hb3 hb4 hb34 hb23 cU cC cT hl hr
 go_wp2_with (go_at_call 173;refine cU4.mono ?_;rintro e w5 ⟨rfl,hb5⟩;have hr5:=Jad hr4 hb5;have HR5:=hdz hr5;obtain⟨⟨z0,z1,z2,z3⟩,y0,y1,y2,y3⟩:=hr5)
 have hset:=JaN (m1:=C1 X) (m2:=C2 X) (m3:=C3 X) (m4:=C4 X) HR5.out;obtain⟨⟨s0,s1,s2,s3⟩,_⟩:=hset;have hb25:=hb24.trans (hb5.mono hb24.size);refine bodyPost_ret (v:=.tuple #[.agg #[I6 (C1 X),I6 (C2 X),I6 (C3 X),I6 (C4 X)],.nilIface]) (by simp[results,results118,go_sem,s0,s1,s2,s3]) rfl ⟨rfl,Jbn hb25 (Nat.le_succ _) _ _ _ _⟩
theorem Jg9(u:Int)(hu:u=1\/u=2\/u=3)(w:World):Cg 170 #[I6 u] w λe w'=>e=.returned (.bool true)/\w'=w:=by
 rcases hu with rfl|rfl|rfl
 . go_enter func170,ntmps170
   go_wp2;go_ret;exact⟨rfl,rfl⟩
 . go_enter func170,ntmps170
   go_wp2;go_ret;exact⟨rfl,rfl⟩
 . go_enter func170,ntmps170
   go_wp2;go_ret;exact⟨rfl,rfl⟩
theorem JnY(b:Nat)(rs:List Nat)(u at_:Int)(hu:u=1\/u=2\/u=3)(hl0:0<=at_)(hl1:at_<=by_ u rs)(w:World)(hT:Lib.Utf8Tabs 3 4 w)(h:Jc5 w b rs)(hz:C1 rs<=100000000) :
    Cg 117 #[Pd b 0,I6 u,I6 at_] w λe w'=>e=.returned (.tuple (if by_ u (find (JaY u at_) [] rs)=at_ then #[cntV (find (JaY u at_) [] rs),.nilIface] else #[cntV [],.iface 25 (I6 10)]))/\Bw w w':=by
 obtain⟨q,t,h1,_,_,h4,ho,rfl⟩:=h;have hb2:Bw w (((w.alloc (Oc #[I6 u] 3)).alloc (Oc #[I6 at_] 3)).alloc (Oc #[I6 0,I6 0,I6 0,I6 0] 78)):=(((brf _ w).alloc (nlr _) _).alloc (by simp) _).alloc (by simp;omega) _;have hlu:(((w.alloc (Oc #[I6 u] 3)).alloc (Oc #[I6 at_] 3)).alloc (Oc #[I6 0,I6 0,I6 0,I6 0] 78)).cell? (Ad w.heap.size 0)=some (I6 u):=by simp[go_sem]
 have hla:(((w.alloc (Oc #[I6 u] 3)).alloc (Oc #[I6 at_] 3)).alloc (Oc #[I6 0,I6 0,I6 0,I6 0] 78)).cell? (Ad (w.heap.size+1) 0)=some (I6 at_):=by simp[go_sem]
 have hr:=JaK ((w.alloc (Oc #[I6 u] 3)).alloc (Oc #[I6 at_] 3)) 0 0 0 0 78;rw[wsa,World.size_alloc]at hr;have cT:=λwx (hb:Bw w wx)=>Jc1 b q wx (Jac hb h1);have cC:=λwx (hb:Bw w wx)=>Jc2 q t wx (Jab hb h4);have cN:=λwx=>Jg9 u hu wx;have cI:=λwx=>JdH u t.runes wx
 have HU:Hid (∀wx,Bw w wx->wx.cell? (Ad w.heap.size 0)=some (I6 u)->wx.cell? (Ad (w.heap.size+1) 0)=some (I6 at_)->Cg 173 #[.pointer q,.func (.func 174) #[] #[Pd w.heap.size 0,.pointer (some (Ad (w.heap.size+1) 0))]] wx λe w'=>e=.returned (cntV (find (JaY u at_) [] t.runes))/\Bw wx w') :=
  λwx (hb:Bw w wx) h1 h2=>Jm8 (JaY u at_) (Jin u at_) _ _ q t wx (Go.Proofs.Utf8Tabs_below hT hb) (Jab hb h4) ho hz (Jpv u at_ w.heap.size (w.heap.size+1) wx h1 h2)
 have HX:Hid (∀wx,Cg 119 #[cntV (find (JaY u at_) [] t.runes),I6 u] wx λe w'=>e=.returned (I6 (by_ u (find (JaY u at_) [] t.runes)))/\Bw wx w'):=λwx=>JdH u _ wx;generalize find (JaY u at_) [] t.runes=X at *;generalize by_ u t.runes=n at *;generalize by_ u X=nx at *;have n0:¬at_<0:=by omega
 have n1:¬n<at_:=by omega
 clear h4 ho hT hu hz;unfold cntV at cI HU HX ⊢
 go_enter func117,ntmps117
 go_wp2_with (first
  | (go_at_call 170;refine(cN _).mono ?_;rintro e w1 ⟨rfl,hw1⟩;obtain rfl:=hw1.symm)
  | (go_at_call 171;refine(cT _ hb2).mono ?_;rintro e w1 ⟨rfl,hw1⟩;obtain rfl:=hw1.symm))
 obtain⟨W2,hW2⟩:∃W2,(((w.alloc (Oc #[I6 u] 3)).alloc (Oc #[I6 at_] 3)).alloc (Oc #[I6 0,I6 0,I6 0,I6 0] 78))=W2:=⟨_,rfl⟩;rw[hW2]at hb2 hlu hla hr ⊢;clear hW2;refine Ja4 10 10 (by kernel_rfl) rfl ?_;intro w3 hb3;have hb23:=hb2.trans (hb3.mono hb2.size);obtain⟨G,hG⟩:=Jas w3;have gl:=hG.cell (Jac hb3 hla);have gu:=hG.cell (Jac hb3 hlu);have cG:=λx=>cC (G x) (hb23.trans ((hG.below x).mono hb23.size));have cJ:=λx=>cI (G x)
 (refine Jaa hG (i:=0) rfl (by kernel_rfl) (by kernel_rfl) (by kernel_rfl) (λK hK=>?_);go_simp;refine hK _ ?_;clear hK K)
 (refine Jaa hG (i:=1) rfl (by kernel_rfl) (by kernel_rfl) (by kernel_rfl) (λK hK=>?_);go_simp;refine hK _ ?_;clear hK K)
 (refine Jaa hG (i:=2) rfl (by kernel_rfl) (by kernel_rfl) (by kernel_rfl) (λK hK=>?_);go_simp;refine hK _ ?_;clear hK K)
 (refine Jaa hG (i:=3) rfl (by kernel_rfl) (by kernel_rfl) (by kernel_rfl) (λK hK=>?_);go_simp;refine hK _ ?_;clear hK K)
 (refine Jaa hG (i:=4) rfl (by kernel_rfl) (by kernel_rfl) (by kernel_rfl) (λK hK=>?_);go_simp;refine hK _ ?_;clear hK K)
 (refine Jaa hG (i:=5) rfl (by kernel_rfl) (by kernel_rfl) (by kernel_rfl) (λK hK=>?_);go_simp;apply Exists.intro;refine⟨λ_=>?_,hK _ ?_⟩;exact cG _;clear hK K)
 (refine Jaa hG (i:=6) rfl (by kernel_rfl) (by kernel_rfl) (by kernel_rfl) (λK hK=>?_);go_simp;refine hK _ ?_;clear hK K)
 (refine Jaa hG (i:=7) rfl (by kernel_rfl) (by kernel_rfl) (by kernel_rfl) (λK hK=>?_);go_simp;apply Exists.intro;refine⟨λ_=>?_,hK _ ?_⟩;exact cJ _;clear hK K)
 (refine Jaa hG (i:=8) rfl (by kernel_rfl) (by kernel_rfl) (by kernel_rfl) (λK hK=>?_);go_simp;refine hK _ ?_;clear hK K)
 (refine Jaa hG (i:=9) rfl (by kernel_rfl) (by kernel_rfl) (by kernel_rfl) (λK hK=>?_);go_simp;refine hK _ ?_;clear hK K)
 clear gl gu cG cJ hG;refine Jbi (by kernel_rfl) ?_;intro w4 hb4;have hb34:=hb3.trans (hb4.mono hb3.size);have hb24:=hb2.trans (hb34.mono hb2.size);have hlu4:=Jac hb34 hlu;have hla4:=Jac hb34 hla;have hr4:=Jad hr hb34;have cU4:=HU.out w4 hb24 hlu4 hla4;clear hb3 hb4 hb34 hb23 cC cT cI cN hlu hla hr
 go_wp2_with (go_at_call 173;refine cU4.mono ?_;rintro e w5 ⟨rfl,hb5⟩)
 have hbx:Bw w5 (w5.alloc (Oc #[I6 (C1 X),I6 (C2 X),I6 (C3 X),I6 (C4 X)] 78)):=zA _ _;have hb46:=hb5.trans (hbx.mono hb5.size);have hcX:=JaK w5 (C1 X) (C2 X) (C3 X) (C4 X) 78;have hlu6:=Jac hb46 hlu4;have hla6:=Jac hb46 hla4;have hr6:=Jad hr4 hb46;have hb26:=hb24.trans (hb46.mono hb24.size);generalize (w5.alloc (Oc #[I6 (C1 X),I6 (C2 X),I6 (C3 X),I6 (C4 X)] 78))=W6 at *;generalize w5.heap.size=B5 at *;clear hb5 hbx hb46 hlu4 hla4 hr4 hb24 cU4;refine Ja4 5 5 (by kernel_rfl) rfl ?_;intro w7 hb7;obtain⟨G,hG⟩:=Jas w7;have hc7:=Jad hcX hb7;obtain⟨⟨a0,a1,a2,a3⟩,_⟩:=hc7;have g0:=hG.cell a0;have g1:=hG.cell a1;have g2:=hG.cell a2;have g3:=hG.cell a3;have gu:=hG.cell (Jac hb7 hlu6);have ga:=hG.cell (Jac hb7 hla6);have cG:=λx=>HX.out (G x)
 (refine Jaa hG (i:=0) rfl (by kernel_rfl) (by kernel_rfl) (by kernel_rfl) (λK hK=>?_);go_simp;refine hK _ ?_;clear hK K)
 (refine Jaa hG (i:=1) rfl (by kernel_rfl) (by kernel_rfl) (by kernel_rfl) (λK hK=>?_);go_simp;refine hK _ ?_;clear hK K)
 (refine Jaa hG (i:=2) rfl (by kernel_rfl) (by kernel_rfl) (by kernel_rfl) (λK hK=>?_);go_simp;apply Exists.intro;refine⟨λ_=>?_,hK _ ?_⟩;exact cG _;clear hK K)
 (refine Jaa hG (i:=3) rfl (by kernel_rfl) (by kernel_rfl) (by kernel_rfl) (λK hK=>?_);go_simp;refine hK _ ?_;clear hK K)
 (refine Jaa hG (i:=4) rfl (by kernel_rfl) (by kernel_rfl) (by kernel_rfl) (λK hK=>?_);go_simp;refine hK _ ?_;clear hK K)
 clear g0 g1 g2 g3 gu ga cG hG a0 a1 a2 a3;refine Jbi (by kernel_rfl) ?_;intro w8 hb8;have hb78:=hb7.trans (hb8.mono hb7.size);have hb28:=hb26.trans (hb78.mono hb26.size);have hc8:=Jad hcX hb78;have hr8:=Jad hr6 hb78;have HR8:=hdz hr8;obtain⟨⟨a0,a1,a2,a3⟩,_⟩:=hc8;obtain⟨⟨z0,z1,z2,z3⟩,y0,y1,y2,y3⟩:=hr8;clear hb7 hb8 hb78 hb26 hcX hr6 hlu6 hla6
 by_cases hx:nx=at_
 . subst hx
   go_wp2;have hset:=JaN (m1:=C1 X) (m2:=C2 X) (m3:=C3 X) (m4:=C4 X) HR8.out;obtain⟨⟨s0,s1,s2,s3⟩,_⟩:=hset;refine bodyPost_ret (v:=.tuple #[.agg #[I6 (C1 X),I6 (C2 X),I6 (C3 X),I6 (C4 X)],.nilIface]) (by simp[results,results117,go_sem,s0,s1,s2,s3]) rfl ⟨rfl,Jbn hb28 (by omega) _ _ _ _⟩
 . have hx1:(nx==at_)=false:=beq_eq_false_iff_ne.2 hx
   go_wp2;have hset:=JaN (m1:=0) (m2:=0) (m3:=0) (m4:=0) HR8.out;obtain⟨⟨s0,s1,s2,s3⟩,_⟩:=hset;refine bodyPost_ret (v:=.tuple #[.agg #[I6 0,I6 0,I6 0,I6 0],.iface 25 (I6 10)]) (by simp[results,results117,go_sem,s0,s1,s2,s3]) rfl ⟨rfl,Jbn hb28 (by omega) _ _ _ _⟩
end
section
attribute [local go_sem] Oper.semAt_some
theorem Jn1(u:Int)(rs:List Nat):find (JaY u 0) [] rs=[]:=by
 unfold find;have:JaY u 0 []=true:=decide_eq_true (Jdd u []);rw[if_pos this]
theorem JjC(u:Int):by_ u []=0:=by
 unfold by_
 split
 . rfl
 . split
   . rfl
   . split<;>rfl
theorem JjU(b:Nat)(rs:List Nat)(u:Int)(hu:u=1\/u=2\/u=3)(w:World)(hT:Lib.Utf8Tabs 3 4 w)(h:Jc5 w b rs)(hz:C1 rs<=100000000) :
    Cg 121 #[Pd b 0,I6 u] w (Rt w .nilIface):=by
 have cA:=JnY b rs u 0 hu (Int.le_refl _) (Jdd u rs) w hT h hz;rw[Jn1,JjC,if_pos rfl]at cA;have HA:=hdz cA;unfold cntV at HA;clear cA hT h hu hz
 go_enter func121,ntmps121
 go_wp2_with (go_at_call 117;refine Calls.mono HA.out ?_;rintro e w1 ⟨rfl,hb1⟩)
 go_ret;exact⟨rfl,hb1.alloc hb1.size _⟩
end
section
variable {w w' w1 : World}{B e n M a b c : Nat}{v v' : Value}{xs : List Value}{o : Obj}{s : NSt}{p : Option Addr}
def JaL (p:Pt):List Value:=[I6 p.keep,I6 p.drop,Sx p.put]
def JaM (l:List Pt):List Value:=l.flatMap JaL
theorem JcZ(l:List Pt)(p:Pt):JaM (l++[p])=JaM l++JaL p:=by simp[JaM]
theorem JdX(l:List Pt):(JaM l).length=l.length*3:=by
 induction l with
 | nil=>rfl
 | cons p l ih =>
  have:JaM (p :: l)=JaL p++JaM l:=rfl;rw[this,List.length_append,ih,List.length_cons];show 3+_=_;omega
theorem Jb2(p:Pt):∀u∈JaL p,u.oneCell'=true:=by
 intro u hu;simp only[JaL,List.mem_cons,List.not_mem_nil,or_false]at hu
 rcases hu with rfl|rfl|rfl<;>rfl
theorem Jer(w:World)(l:List Value)(t:TypeId):∀j u,l[j]?=some u->(w.alloc (Oc l.toArray t)).cell? (((Ad w.heap.size 0):Addr).add j)=some u:=by
 intro j u hj;obtain⟨hl,rfl⟩:=List.getElem?_eq_some_iff.1 hj;rw[Addr.add_lit,Nat.zero_add];simp
theorem Jmp(w:World)(a:Addr)(x:Value)(l:List Value)(t:TypeId):∀j u,l[j]?=some u->((w.setCell a x).alloc (Oc l.toArray t)).cell? (((Ad w.heap.size 0):Addr).add j)=some u:=by
 have h:=Jer (w.setCell a x) l t;rwa[show(w.setCell a x).heap.size=w.heap.size by simp]at h
theorem Jcm:(prog.info? 96).map (λi=>(i.zero,i.size,i.bytes))=some (some (.agg #[I6 0,I6 0,.string ⟨#[]⟩]),3,32):=by kernel_rfl
theorem JhB:(prog.info? 5).map (λi=>(i.zero,i.size,i.bytes))=some (some (.int .u8 0),1,1):=by kernel_rfl
theorem JsJ{B' e' size size' n':Nat}{xs':List Value}(h:w.ownsRow B e size v n xs)(h':w.ownsRow B' e' size' v' n' xs')(hne:e≠e'):v.ownBlock=none\/v.ownBlock≠v'.ownBlock:=by
 rcases h.2 with ⟨rfl,_⟩|⟨g,cap,cur,rfl,_,hg,_⟩
 . exact .inl rfl
 . rcases h'.2 with ⟨rfl,_⟩ | ⟨g',cap',cur',rfl,_,hg',_⟩
   . exact .inr (by simp[Value.ownBlock])
   . refine .inr λe=>?_
     simp only[Value.ownBlock,Option.some.injEq]at e;subst e;rw[hg]at hg';simp only[Option.some.injEq,Obj.cells.injEq]at hg';exact hne hg'.2.1
structure gath (M:Nat) (w:World) (a:Nat) (s:NSt):Prop where
 out:∃p c,w.cell? (Ad a 0)=some (.slice p s.out.length c)/\w.ownsRow M 96 3 (.slice p s.out.length c) s.out.length (JaM s.out)
 outF:w.frozen? (Ad a 0)=false
 put:∃p c,w.cell? (Ad (a+1) 0)=some (.slice p s.put.length c)/\w.ownsRow M 5 1 (.slice p s.put.length c) s.put.length (Lib.byteCells s.put)
 putF:w.frozen? (Ad (a+1) 0)=false
 drop:w.cell? (Ad (a+2) 0)=some (I6 s.drop)
 dropF:w.frozen? (Ad (a+2) 0)=false
 tell:w.cell? (Ad (a+3) 0)=some (.func (.func 247) #[] #[.pointer (some (Ad (a+1) 0)),Pd a 0,.pointer (some (Ad (a+2) 0))])
 le:a+4<=M
 top:M<=w.heap.size
def KeptG (M a:Nat) (w w':World):Prop:=∀k o,w.heap[k]?=some o->k≠a->k≠a+1->k≠a+2->(∀c fz,M<=k->o≠.cells c 5 fz)->(∀c fz,M<=k->o≠.cells c 96 fz)->w'.heap[k]?=some o
structure BelowG (M a:Nat) (w w':World):Prop where
 below:Below a w w'
 kept:KeptG M a w w'
theorem Jaw{k:Nat}(h:w.heap[k]?=some o):k<w.heap.size:=by
 rcases Nat.lt_or_ge k w.heap.size with h' | h'
 . exact h'
 . rw[Array.getElem?_eq_none h']at h;cases h
theorem KeptG.refl(M a:Nat)(w:World):KeptG M a w w:=λ_ _ h _ _ _ _ _=>h
theorem KeptG.trans{x y z:World}(h:KeptG M a x y)(k:KeptG M a y z):KeptG M a x z:=λi o hi h1 h2 h3 h4 h5=>k i o (h i o hi h1 h2 h3 h4 h5) h1 h2 h3 h4 h5
theorem KeptG.of(h:Bw w w'):KeptG M a w w':=λk o hk _ _ _ _ _=>(h.block k (Jaw hk)).trans hk
theorem KeptG.alloc{M:Nat}{a:Nat}{w w':World}(h:KeptG M a w w')(o:Obj):KeptG M a w (w'.alloc o):=h.trans λk o' hk _ _ _ _ _=>(heap_alloc_old w' o (Jaw hk)).trans hk
theorem KeptG.set(h:KeptG M a w w'){b:Nat}(hb:b=a\/b=a+1\/b=a+2)(v:Value):KeptG M a w (w'.setCell (Ad b 0) v) :=
 h.trans λk o' hk h1 h2 h3 _ _=>(Below.heap_setCell _ _ _ _ (by show k≠b;omega)).trans hk
theorem KeptG.grown{size:Nat}{w2:World}(h:KeptG M a w w1)(hr:w1.ownsRow M e size v n xs)(he:e=5\/e=96)(hg:w1.grownBy w2 v.ownBlock):KeptG M a w w2:=by
 refine h.trans λk o hk _ _ _ h4 h5=>?_;refine(hg.block k (Jaw hk) ?_).trans hk;intro e';obtain⟨_,hrow⟩:=hr
 rcases hrow with ⟨hx,_⟩|⟨g,cap,cur,rfl,hge,hgg,_⟩
 . rw[hx]at e';cases e'
 . have e2:some k=some g:=e'
   obtain rfl:=osi e2;rw[hk]at hgg
   rcases he with rfl|rfl
   . exact h4 _ _ hge (osi hgg)
   . exact h5 _ _ hge (osi hgg)
theorem BelowG.size{M:Nat}{a:Nat}{w w':World}(h:BelowG M a w w'):w.heap.size<=w'.heap.size:=h.below.size
theorem BelowG.trans{M:Nat}{a:Nat}{x y z:World}(h:BelowG M a x y)(k:BelowG M a y z):BelowG M a x z:=⟨h.below.trans k.below,h.kept.trans k.kept⟩
theorem BelowG.of{M:Nat}{a:Nat}{w w':World}(h:Bw w w')(ha:a<=w.heap.size):BelowG M a w w':=⟨h.mono ha,.of h⟩
theorem BelowG.drew{M:Nat}{a:Nat}{w w':World}(h:BelowG M a w w'):BelowG M a w w'.drew:=⟨h.below.drew,h.kept⟩
theorem JbP(h:gath M w a s):a+3<w.heap.size:=blt w _ h.tell
theorem JbF(h:gath M w a s)(hb:Bw w w'):gath M w' a s:=by
 have hM:=h.le;have hT:=h.top;have hlt:=JbP h;obtain⟨⟨p,c,h1,h2⟩,h3,⟨p',c',h4,h5⟩,h6,h7,h8,h9⟩:=h
 exact ⟨⟨p,c,(zC hb a 0 (by show a<_;omega)).trans h1,Jbl h2 hb⟩,(hb.frozen (p:=(Ad a 0)) (by show a<_;omega)).trans h3,
  ⟨p',c',(zC hb (a+1) 0 (by show a+1<_;omega)).trans h4,Jbl h5 hb⟩,(hb.frozen (p:=(Ad (a+1) 0)) (by show a+1<_;omega)).trans h6,
  (zC hb (a+2) 0 (by show a+2<_;omega)).trans h7,(hb.frozen (p:=(Ad (a+2) 0)) (by show a+2<_;omega)).trans h8,(zC hb (a+3) 0 (by show a+3<_;omega)).trans h9,hM,Nat.le_trans hT hb.size⟩
theorem Jfk{size:Nat}(h:w.ownsRow B e size v n xs)(hb:b<B)(u:Value):(w.setCell (Ad b 0) u).ownsRow B e size v n xs:=by
 obtain⟨h0,hrow⟩:=h;refine⟨h0,?_⟩
 rcases hrow with hn|⟨g,cap,cur,rfl,hg,hgg,rest⟩
 . exact .inl hn
 . exact .inr ⟨g,cap,cur,rfl,hg,(Below.heap_setCell _ _ _ _ (by show g≠b;omega)).trans hgg,rest⟩
theorem Jax{b' o:Nat}(h:b'≠b)(u:Value):(w.setCell (Ad b 0) u).cell? (Ad b' o)=w.cell? (Ad b' o):=by
 unfold World.cell?;rw[Below.heap_setCell _ _ _ _ (by show b'≠b;exact h)]
def spare (w:World) (a b:Nat):Prop:=b<w.heap.size/\a+3<b/\∀v,w.cell? (Ad a 0)=some v->v.ownBlock≠some b
theorem Jgc(hc:w.cell? (Ad a 0)=some v)(hc1:(w1.cell? (Ad a 0)).isSome=true)(hg:(w.alloc o).grownBy w1 v.ownBlock)(hat:v'.ownBlock=v.ownBlock\/∃k,v'.ownBlock=some k/\w.heap.size<=k)(h:spare w a b) :
    spare (w1.setCell (Ad a 0) v') a b/\(w1.setCell (Ad a 0) v').heap[b]?=w.heap[b]?:=by
 obtain⟨h1,h2,h3⟩:=h;have hne:=h3 v hc;have hs:=hg.size;rw[wsa]at hs;refine⟨⟨by simp;omega,h2,?_⟩,?_⟩
 . intro u hu
   obtain⟨v0,hv0⟩:=Option.isSome_iff_exists.1 hc1;rw[World.cell?_setCell_same _ _ _ hv0]at hu;obtain rfl:=osi hu
   rcases hat with e|⟨k,e,hk⟩
   . rw[e];exact hne
   . rw[e]
     intro e;have:=osi e;omega
 . rw[Below.heap_setCell _ _ _ _ (by show b≠a;omega),hg.block b (by rw[wsa];omega) (λe=>hne e.symm)]
   exact heap_alloc_old w o h1
theorem Jd3(h:spare w a b)(hc:c≠a)(hb:c≠b)(u:Value):spare (w.setCell (Ad c 0) u) a b/\(w.setCell (Ad c 0) u).heap[b]?=w.heap[b]?:=by
 obtain⟨h1,h2,h3⟩:=h;refine⟨⟨by simpa using h1,h2,λv hv=>h3 v ?_⟩,Below.heap_setCell _ _ _ _ (by show b≠c;omega)⟩;rwa[Jax (by omega)]at hv
theorem JeN{q:Pt}(h:gath M w a s)(hc:w.cell? (Ad a 0)=some (.slice p s.out.length c))
    (hown1:w1.ownsRow M 96 3 v' (s.out.length+1) (JaM s.out++JaL q)) (hg:(w.alloc o).grownBy w1 (Value.slice p s.out.length c).ownBlock) :
    gath M (w1.setCell (Ad a 0) v') a ⟨s.out++[q],s.put,s.drop⟩/\BelowG M a w (w1.setCell (Ad a 0) v')/\w1.cell? (Ad a 0)=some (.slice p s.out.length c)/\w1.frozen? (Ad a 0)=false:=by
 have hM:=h.le;have hT:=h.top;have hlt:=JbP h;obtain⟨⟨p1,c1,h1,h2⟩,h3,⟨p',c',h4,h5⟩,h6,h7,h8,h9⟩:=h;rw[hc]at h1;simp only[Option.some.injEq,Value.slice.injEq,true_and]at h1;obtain⟨rfl,rfl⟩:=h1;have hrow:∀k,(Value.slice p s.out.length c).ownBlock=some k->a+4<=k:=λk hk=>Nat.le_trans hM (h2.lt k hk).1;have hb1:Below (a+4) w w1:=((brf (a+4) w).alloc (by omega) o).grown hg (by rw[wsa];omega) hrow;have hc1:w1.cell? (Ad a 0)=some (.slice p s.out.length c):=by rw[zC hb1 a 0 (by show a<_;omega)];exact hc
 have hf1:w1.frozen? (Ad a 0)=false:=by rw[hb1.frozen (p:=(Ad a 0)) (by show a<_;omega)];exact h3
 have h5':=(h5.alloc o).kept hg (JsJ (h5.alloc o) (h2.alloc o) (by decide));obtain⟨pv,cv,rfl⟩:=Jak hown1;refine⟨⟨⟨pv,cv,?_,?_⟩,?_,⟨p',c',?_,?_⟩,?_,?_,?_,?_,hM,(by have:=hb1.size;simp;omega)⟩,⟨(hb1.mono (show a<=a+4 by omega)).setCell (nlr _) _,(((KeptG.refl M a w).alloc o).grown (h2.alloc o) (.inr rfl) hg).set (.inl rfl) _⟩,hc1,hf1⟩
 . show _=some (Value.slice pv (s.out++[q]).length cv)
   rw[List.length_append];exact World.cell?_setCell_same _ _ _ hc1
 . show World.ownsRow _ _ _ _ (.slice pv (s.out++[q]).length cv) (s.out++[q]).length (JaM (s.out++[q]))
   rw[List.length_append,JcZ];exact Jfk hown1 (by omega) _
 . rw[World.frozen?_setCell];exact hf1
 . rw[Jax (by omega)];exact(zC hb1 (a+1) 0 (by show a+1<_;omega)).trans h4
 . exact Jfk h5' (by omega) _
 . rw[World.frozen?_setCell];exact(hb1.frozen (p:=(Ad (a+1) 0)) (by show a+1<_;omega)).trans h6
 . rw[Jax (by omega)];exact(zC hb1 (a+2) 0 (by show a+2<_;omega)).trans h7
 . rw[World.frozen?_setCell];exact(hb1.frozen (p:=(Ad (a+2) 0)) (by show a+2<_;omega)).trans h8
 . rw[Jax (by omega)];exact(zC hb1 (a+3) 0 (by show a+3<_;omega)).trans h9
theorem Jhg{q:List UInt8}(h:gath M w a s)(hc:w.cell? (Ad (a+1) 0)=some (.slice p s.put.length c))
    (hown1:w1.ownsRow M 5 1 v' (s.put.length+q.length) (Lib.byteCells s.put++Lib.byteCells q)) (hg:w.grownBy w1 (Value.slice p s.put.length c).ownBlock) :
    gath M (w1.setCell (Ad (a+1) 0) v') a ⟨s.out,s.put++q,s.drop⟩/\BelowG M a w (w1.setCell (Ad (a+1) 0) v')/\w1.cell? (Ad (a+1) 0)=some (.slice p s.put.length c)/\w1.frozen? (Ad (a+1) 0)=false:=by
 have hM:=h.le;have hT:=h.top;have hlt:=JbP h;obtain⟨⟨p',c',h4,h5⟩,h6,⟨p1,c1,h1,h2⟩,h3,h7,h8,h9⟩:=h;rw[hc]at h1;simp only[Option.some.injEq,Value.slice.injEq,true_and]at h1;obtain⟨rfl,rfl⟩:=h1;have hrow:∀k,(Value.slice p s.put.length c).ownBlock=some k->a+4<=k:=λk hk=>Nat.le_trans hM (h2.lt k hk).1;have hb1:Below (a+4) w w1:=(brf (a+4) w).grown hg (by omega) hrow;have hc1:w1.cell? (Ad (a+1) 0)=some (.slice p s.put.length c):=by rw[zC hb1 (a+1) 0 (by show a+1<_;omega)];exact hc
 have hf1:w1.frozen? (Ad (a+1) 0)=false:=by rw[hb1.frozen (p:=(Ad (a+1) 0)) (by show a+1<_;omega)];exact h3
 have h5':=h5.kept hg (JsJ h5 h2 (by decide));obtain⟨pv,cv,rfl⟩:=Jak hown1;refine⟨⟨⟨p',c',?_,?_⟩,?_,⟨pv,cv,?_,?_⟩,?_,?_,?_,?_,hM,(by have:=hb1.size;simp;omega)⟩,⟨(hb1.mono (show a<=a+4 by omega)).setCell (by show a<=a+1;omega) _,((KeptG.refl M a w).grown h2 (.inl rfl) hg).set (.inr (.inl rfl)) _⟩,hc1,hf1⟩
 . rw[Jax (by omega)];exact(zC hb1 a 0 (by show a<_;omega)).trans h4
 . exact Jfk h5' (by omega) _
 . rw[World.frozen?_setCell];exact(hb1.frozen (p:=(Ad a 0)) (by show a<_;omega)).trans h6
 . show _=some (Value.slice pv (s.put++q).length cv)
   rw[List.length_append];exact World.cell?_setCell_same _ _ _ hc1
 . show World.ownsRow _ _ _ _ (.slice pv (s.put++q).length cv) (s.put++q).length (Lib.byteCells (s.put++q))
   rw[List.length_append,Lib.byteCells_append];exact Jfk hown1 (by omega) _
 . rw[World.frozen?_setCell];exact hf1
 . rw[Jax (by omega)];exact(zC hb1 (a+2) 0 (by show a+2<_;omega)).trans h7
 . rw[World.frozen?_setCell];exact(hb1.frozen (p:=(Ad (a+2) 0)) (by show a+2<_;omega)).trans h8
 . rw[Jax (by omega)];exact(zC hb1 (a+3) 0 (by show a+3<_;omega)).trans h9
theorem JdD(h:gath M w a s)(d:Int):gath M (w.setCell (Ad (a+2) 0) (I6 d)) a ⟨s.out,s.put,d⟩/\BelowG M a w (w.setCell (Ad (a+2) 0) (I6 d)):=by
 have hM:=h.le;have hT:=h.top;have hlt:=JbP h;obtain⟨⟨p,c,h1,h2⟩,h3,⟨p',c',h4,h5⟩,h6,h7,h8,h9⟩:=h;refine⟨⟨⟨p,c,?_,Jfk h2 (by omega) _⟩,?_,⟨p',c',?_,Jfk h5 (by omega) _⟩,?_,World.cell?_setCell_same _ _ _ h7,?_,?_,hM,(by simp;omega)⟩,⟨(brf a w).setCell (by show a<=a+2;omega) _,(KeptG.refl M a w).set (.inr (.inr rfl)) _⟩⟩
 . rw[Jax (by omega)];exact h1
 . rw[World.frozen?_setCell];exact h3
 . rw[Jax (by omega)];exact h4
 . rw[World.frozen?_setCell];exact h6
 . rw[World.frozen?_setCell];exact h8
 . rw[Jax (by omega)];exact h9
theorem Jhh(h:gath M w a s)(hc:w.cell? (Ad (a+1) 0)=some (.slice p s.put.length c)) :
    gath M (w.setCell (Ad (a+1) 0) (.slice p 0 c)) a ⟨s.out,[],s.drop⟩/\BelowG M a w (w.setCell (Ad (a+1) 0) (.slice p 0 c)):=by
 have hM:=h.le;have hT:=h.top;have hlt:=JbP h;obtain⟨⟨p',c',h4,h5⟩,h6,⟨p1,c1,h1,h2⟩,h3,h7,h8,h9⟩:=h;have hc':=hc;rw[hc]at h1;simp only[Option.some.injEq,Value.slice.injEq,true_and]at h1;obtain⟨rfl,rfl⟩:=h1
 have h2':w.ownsRow M 5 1 (.slice p 0 c) 0 []:=by
  obtain⟨_,hrow⟩:=h2;refine⟨rfl,?_⟩
  rcases hrow with ⟨hn,h0⟩|⟨g,cap,cur,hv,hg,hgg,hnc,rest⟩
  . simp only[Value.slice.injEq]at hn
    obtain⟨rfl,_,rfl⟩:=hn;exact .inl ⟨rfl,rfl⟩
  . simp only[Value.slice.injEq,true_and]at hv
    obtain⟨rfl,rfl⟩:=hv;exact .inr ⟨g,c,cur,rfl,hg,hgg,Nat.zero_le _,rest.1,rest.2.1,by simp⟩
 refine⟨⟨⟨p',c',?_,Jfk h5 (by omega) _⟩,?_,⟨p,c,World.cell?_setCell_same _ _ _ hc',Jfk h2' (by omega) _⟩,?_,?_,?_,?_,hM,(by simp;omega)⟩,⟨(brf a w).setCell (by show a<=a+1;omega) _,(KeptG.refl M a w).set (.inr (.inl rfl)) _⟩⟩
 . rw[Jax (by omega)];exact h4
 . rw[World.frozen?_setCell];exact h6
 . rw[World.frozen?_setCell];exact h3
 . rw[Jax (by omega)];exact h7
 . rw[World.frozen?_setCell];exact h8
 . rw[Jax (by omega)];exact h9
end
section
variable {M : Nat}
theorem Jgg(w:World):Cg 205 #[] w λe w'=>e=.returned (.tuple #[.func (.func 248) #[] #[.pointer (some (Ad (w.heap.size+1) 0)),.pointer (some (Ad (w.heap.size+2) 0)),.pointer (some (Ad (w.heap.size+3) 0)),Pd w.heap.size 0],
      .func (.func 249) #[] #[.pointer (some (Ad (w.heap.size+3) 0)),Pd w.heap.size 0]])/\(∀M w2,Bw w' w2->w.heap.size+4<=M->M<=w2.heap.size->gath M w2 w.heap.size nst0)/\w'.heap.size=w.heap.size+4/\Bw w w':=by
 go_enter func205,ntmps205
 go_wp2
 go_ret2
 refine⟨rfl,λM w2 hb hM hT=>?_,by simp[World.size_alloc],?_⟩
 . have hs:=hb.size
   simp only[World.size_alloc]at hs;have hlt:∀k,k<4->w.heap.size+k<w.heap.size+1+1+1+1:=λk hk=>by omega
   refine⟨⟨none,0,(hb.cell (by simp only[World.size_alloc];omega)).trans (by simp[go_sem,nst0]),World.ownsRow_nil _ _ _ _⟩,(hb.frozen (by simp only[World.size_alloc];omega)).trans (by simp[go_sem]),⟨none,0,(hb.cell (by simp only[World.size_alloc];omega)).trans (by simp[go_sem,nst0]),World.ownsRow_nil _ _ _ _⟩,(hb.frozen (by simp only[World.size_alloc];omega)).trans (by simp[go_sem]),(hb.cell (by simp only[World.size_alloc];omega)).trans (by simp[go_sem,nst0]),(hb.frozen (by simp only[World.size_alloc];omega)).trans (by simp[go_sem]),(hb.cell (by simp only[World.size_alloc];omega)).trans (by simp[go_sem]),hM,hT⟩
 have b1:=(brf w.heap.size w).alloc (nlr _) (Oc #[.slice none 0 0] 94);have b2:=b1.alloc b1.size (Oc #[.slice none 0 0] 29);have b3:=b2.alloc b2.size (Oc #[I6 0] 3);exact b3.alloc b3.size _
theorem Ji9(p:Option Addr)(n c:Nat)(w:World):(Instr.sliceAt 29 (.slice p n c) none (some (I6 0)) none).run prog w=.ok (.slice p 0 c) w:=by
 have h:(if c=0 then p else Option.map (λx=>x.add 0) p)=p:=by
  cases p<;>simp[Addr.add]
 have:=run_sliceAt_slice (P:=prog) w 29 (.slice p n c) none (some (I6 0)) none (by kernel_rfl);rw[this];have h2:=run_slice_h (P:=prog) w 29 p n c (by kernel_rfl) .i64 0 (by omega) (by omega);rw[h2];have h3:(sizeOf (prog.elem 29)).run prog w=.ok 1 w:=by kernel_rfl
 rw[h3];simp only[Result.andThen,sliced,Int.toNat_zero,Nat.zero_mul,Nat.sub_zero];rw[h]
theorem tell_oo(a:Nat)(s:NSt)(w:World)(h:gath M w a s)(hlen:s.out.length<1000000000)(hput:s.put.length<1000000000)(hp:s.put=[])(hd:s.drop=0) :
    Cg 247 #[.pointer (some (Ad (a+1) 0)),Pd a 0,.pointer (some (Ad (a+2) 0))] w λe w'=>(∃v,e=.returned v)/\gath M w' a ⟨s.out,[],0⟩/\BelowG M a w w'/\∀b,spare w a b->w'.heap[b]?=w.heap[b]?:=by
 have hM:=h.le;have hT:=h.top;obtain⟨i0,hi,hz0,hz1,hz2⟩:=info_parts Jcm;have hcut:=Ji9;have hlt:=JbP h;have H0:=hdz h;obtain⟨⟨p,c,h1,h2⟩,h3,⟨p',c',h4,h5⟩,h6,h7,h8,h9⟩:=h;have hpl:¬(0:Int)<(s.put.length:Int):=by rw[hp];simp
 have hdb:(s.drop==0)=true:=beq_iff_eq.2 hd;clear h2 h5 h9 hp
 go_enter func247,ntmps247
 have HK0:=hdz h4;go_wp2;go_end0;have F1:=Jhh H0.out HK0.out;have F2:=JdD F1.1 0;refine⟨⟨_,rfl⟩,F2.1,F1.2.trans F2.2,λb hb=>?_⟩;have hb0:=hb.2.1;have e0:w.heap[b]?=w.heap[b]?:=rfl;have s0:=hb;have e1:=e0;have s1:=s0;have e2:=e1;have s2:=s1;have s3:=Jd3 s2 (c:=a+1) (by omega) (by omega) (.slice p' 0 c');exact((Jd3 s3.1 (c:=a+2) (by omega) (by omega) (I6 0)).2.trans s3.2).trans e2
theorem tell_od(a:Nat)(s:NSt)(w:World)(h:gath M w a s)(hlen:s.out.length<1000000000)(hput:s.put.length<1000000000)(hp:s.put=[])(hd:s.drop≠0) :
    Cg 247 #[.pointer (some (Ad (a+1) 0)),Pd a 0,.pointer (some (Ad (a+2) 0))] w λe w'=>(∃v,e=.returned v)/\gath M w' a ⟨s.out++[⟨0,s.drop,[]⟩],[],0⟩/\BelowG M a w w'/\∀b,spare w a b->w'.heap[b]?=w.heap[b]?:=by
 have hM:=h.le;have hT:=h.top;obtain⟨i0,hi,hz0,hz1,hz2⟩:=info_parts Jcm;have hcut:=Ji9;have hlt:=JbP h;have H0:=hdz h;obtain⟨⟨p,c,h1,h2⟩,h3,⟨p',c',h4,h5⟩,h6,h7,h8,h9⟩:=h;have HO:=hdz h2;have HC:=hdz h1;have hpl:¬(0:Int)<(s.put.length:Int):=by rw[hp];simp
 have hdb:(s.drop==0)=false:=beq_eq_false_iff_ne.2 hd;clear h2 h5 h9 hp
 go_enter func247,ntmps247
 go_wp2_with (at_builtin;refine wpList_append_own_at _ rfl _ _ 94 rfl M 96 i0 (.agg #[I6 0,I6 0,.string ⟨#[]⟩]) 3 32 underlying94 hi hz0 hz1 hz2 rfl (by decide) _ _ _ rfl (HO.out.alloc _) (Ad w.heap.size 0) 1 1 (JaL ⟨0,s.drop,[]⟩) rfl rfl (Jer _ _ _) (Jb2 _) (by unfold maxLen;omega) (by omega) (by first | omega | (simp;omega)) ?_)
 intro v2 w2 hown2 hg2 _ hat2;have P2:=JeN (q:=⟨0,s.drop,[]⟩) H0.out HC.out hown2 hg2;have hb2:Below (a+4) w w2:=((brf (a+4) w).alloc (by omega) _).grown hg2 (by rw[wsa];omega) λk hk=>Nat.le_trans hM (HO.out.lt k hk).1;have z4:=h4;have z6:=h6;have z7:=h7;have z8:=h8;obtain⟨p2,q2,hv2⟩:=Jak hown2;rw[hv2]at P2 ⊢;rw[hv2]at hat2;obtain⟨G2,B2,t1,t2⟩:=P2;have HS2:Hid (∀b,spare (w) a b->spare (w2.setCell (Ad a 0) (.slice p2 (s.out.length+1) q2)) a b/\(w2.setCell (Ad a 0) (.slice p2 (s.out.length+1) q2)).heap[b]?=(w).heap[b]?):=λb hb=>Jgc HC.out (by rw[t1];rfl) hg2 (hat2.imp id λe=>⟨_,e,by simp⟩) hb;clear hat2;have HG2:=hdz G2;have HB2:=hdz B2;have y4:=(zC hb2 (a+1) 0 (by show a+1<_;omega)).trans z4;have y6:=(hb2.frozen (p:=(Ad (a+1) 0)) (by show a+1<_;omega)).trans z6;have y7:=(zC hb2 (a+2) 0 (by show a+2<_;omega)).trans z7;have y8:=(hb2.frozen (p:=(Ad (a+2) 0)) (by show a+2<_;omega)).trans z8;have hs2:=hb2.size;have HK5:Hid ((w2.setCell (Ad a 0) (.slice p2 (s.out.length+1) q2)).cell? (Ad (a+1) 0)=some (.slice p' s.put.length c')):=(Jax (by omega) _).trans y4;clear z4 z6 z7 z8 G2 B2 hown2 hg2 hb2 hv2;clear h1 h3 h4 h6 h7 h8;go_wp2;go_end0;have F1:=Jhh HG2.out HK5.out;have F2:=JdD F1.1 0;refine⟨⟨_,rfl⟩,F2.1,(HB2.out).trans (F1.2.trans F2.2),λb hb=>?_⟩;have hb0:=hb.2.1;have e0:w.heap[b]?=w.heap[b]?:=rfl;have s0:=hb;have e1:=e0;have s1:=s0;have e2:=((HS2.out b s1).2).trans e1;have s2:=(HS2.out b s1).1;have s3:=Jd3 s2 (c:=a+1) (by omega) (by omega) (.slice p' 0 c');exact((Jd3 s3.1 (c:=a+2) (by omega) (by omega) (I6 0)).2.trans s3.2).trans e2
theorem tell_po(a:Nat)(s:NSt)(w:World)(h:gath M w a s)(hlen:s.out.length<1000000000)(hput:s.put.length<1000000000)(hp:s.put≠[])(hd:s.drop=0) :
    Cg 247 #[.pointer (some (Ad (a+1) 0)),Pd a 0,.pointer (some (Ad (a+2) 0))] w λe w'=>(∃v,e=.returned v)/\gath M w' a ⟨s.out++[⟨0,0,s.put⟩],[],0⟩/\BelowG M a w w'/\∀b,spare w a b->w'.heap[b]?=w.heap[b]?:=by
 have hM:=h.le;have hT:=h.top;obtain⟨i0,hi,hz0,hz1,hz2⟩:=info_parts Jcm;have hcut:=Ji9;have hlt:=JbP h;have H0:=hdz h;obtain⟨⟨p,c,h1,h2⟩,h3,⟨p',c',h4,h5⟩,h6,h7,h8,h9⟩:=h;have HO:=hdz h2;have HC:=hdz h1;have hpl:(0:Int)<(s.put.length:Int):=by have:=List.length_pos_iff.2 hp;omega
 have hconv:(convert 29 9 (.slice p' s.put.length c')).run prog w=.ok (Sx s.put) w:=Jkt rfl h5;have hdb:(s.drop==0)=true:=beq_iff_eq.2 hd;clear h2 h5 h9 hp
 go_enter func247,ntmps247
 go_wp2_with (at_builtin;refine wpList_append_own_at _ rfl _ _ 94 rfl M 96 i0 (.agg #[I6 0,I6 0,.string ⟨#[]⟩]) 3 32 underlying94 hi hz0 hz1 hz2 rfl (by decide) _ _ _ rfl (HO.out.alloc _) (Ad w.heap.size 0) 1 1 (JaL ⟨0,0,s.put⟩) rfl rfl (Jer _ _ _) (Jb2 _) (by unfold maxLen;omega) (by omega) (by first | omega | (simp;omega)) ?_)
 intro v1 w1 hown1 hg1 _ hat1;have P1:=JeN (q:=⟨0,0,s.put⟩) H0.out HC.out hown1 hg1;have hb1:Below (a+4) w w1:=((brf (a+4) w).alloc (by omega) _).grown hg1 (by rw[wsa];omega) λk hk=>Nat.le_trans hM (HO.out.lt k hk).1;obtain⟨p1,q1,hv1⟩:=Jak hown1;rw[hv1]at P1 hown1 ⊢;rw[hv1]at hat1;obtain⟨G1,B1,r1,r2⟩:=P1;have HS1:Hid (∀b,spare w a b->spare (w1.setCell (Ad a 0) (.slice p1 (s.out.length+1) q1)) a b/\(w1.setCell (Ad a 0) (.slice p1 (s.out.length+1) q1)).heap[b]?=w.heap[b]?):=λb hb=>Jgc HC.out (by rw[r1];rfl) hg1 (hat1.imp id λe=>⟨_,e,by simp⟩) hb;clear hat1;have HG1:=hdz G1;have HB1:=hdz B1;have k4:=(zC hb1 (a+1) 0 (by show a+1<_;omega)).trans h4;have k6:=(hb1.frozen (p:=(Ad (a+1) 0)) (by show a+1<_;omega)).trans h6;have k7:=(zC hb1 (a+2) 0 (by show a+2<_;omega)).trans h7;have k8:=(hb1.frozen (p:=(Ad (a+2) 0)) (by show a+2<_;omega)).trans h8;have hs1:=hb1.size;have HK4:Hid ((w1.setCell (Ad a 0) (.slice p1 (s.out.length+1) q1)).cell? (Ad (a+1) 0)=some (.slice p' s.put.length c')):=(Jax (by omega) _).trans k4;clear h1 h3 h4 h6 h7 h8 G1 B1 hown1 hg1 hconv hb1 hv1;go_wp2;go_end0;have F1:=Jhh HG1.out HK4.out;have F2:=JdD F1.1 0;refine⟨⟨_,rfl⟩,F2.1,(HB1.out).trans (F1.2.trans F2.2),λb hb=>?_⟩;have hb0:=hb.2.1;have e0:w.heap[b]?=w.heap[b]?:=rfl;have s0:=hb;have e1:=(HS1.out b s0).2;have s1:=(HS1.out b s0).1;have e2:=e1;have s2:=s1;have s3:=Jd3 s2 (c:=a+1) (by omega) (by omega) (.slice p' 0 c');exact((Jd3 s3.1 (c:=a+2) (by omega) (by omega) (I6 0)).2.trans s3.2).trans e2
theorem tell_pd(a:Nat)(s:NSt)(w:World)(h:gath M w a s)(hlen:s.out.length<1000000000)(hput:s.put.length<1000000000)(hp:s.put≠[])(hd:s.drop≠0) :
    Cg 247 #[.pointer (some (Ad (a+1) 0)),Pd a 0,.pointer (some (Ad (a+2) 0))] w λe w'=>(∃v,e=.returned v)/\gath M w' a ⟨s.out++[⟨0,0,s.put⟩,⟨0,s.drop,[]⟩],[],0⟩/\BelowG M a w w'/\∀b,spare w a b->w'.heap[b]?=w.heap[b]?:=by
 have hM:=h.le;have hT:=h.top;obtain⟨i0,hi,hz0,hz1,hz2⟩:=info_parts Jcm;have hcut:=Ji9;have hlt:=JbP h;have H0:=hdz h;obtain⟨⟨p,c,h1,h2⟩,h3,⟨p',c',h4,h5⟩,h6,h7,h8,h9⟩:=h;have HO:=hdz h2;have HC:=hdz h1;have hpl:(0:Int)<(s.put.length:Int):=by have:=List.length_pos_iff.2 hp;omega
 have hconv:(convert 29 9 (.slice p' s.put.length c')).run prog w=.ok (Sx s.put) w:=Jkt rfl h5;have hdb:(s.drop==0)=false:=beq_eq_false_iff_ne.2 hd;clear h2 h5 h9 hp
 go_enter func247,ntmps247
 go_wp2_with (at_builtin;refine wpList_append_own_at _ rfl _ _ 94 rfl M 96 i0 (.agg #[I6 0,I6 0,.string ⟨#[]⟩]) 3 32 underlying94 hi hz0 hz1 hz2 rfl (by decide) _ _ _ rfl (HO.out.alloc _) (Ad w.heap.size 0) 1 1 (JaL ⟨0,0,s.put⟩) rfl rfl (Jer _ _ _) (Jb2 _) (by unfold maxLen;omega) (by omega) (by first | omega | (simp;omega)) ?_)
 intro v1 w1 hown1 hg1 _ hat1;have P1:=JeN (q:=⟨0,0,s.put⟩) H0.out HC.out hown1 hg1;have hb1:Below (a+4) w w1:=((brf (a+4) w).alloc (by omega) _).grown hg1 (by rw[wsa];omega) λk hk=>Nat.le_trans hM (HO.out.lt k hk).1;obtain⟨p1,q1,hv1⟩:=Jak hown1;rw[hv1]at P1 hown1 ⊢;rw[hv1]at hat1;obtain⟨G1,B1,r1,r2⟩:=P1;have HS1:Hid (∀b,spare w a b->spare (w1.setCell (Ad a 0) (.slice p1 (s.out.length+1) q1)) a b/\(w1.setCell (Ad a 0) (.slice p1 (s.out.length+1) q1)).heap[b]?=w.heap[b]?):=λb hb=>Jgc HC.out (by rw[r1];rfl) hg1 (hat1.imp id λe=>⟨_,e,by simp⟩) hb;clear hat1;have HG1:=hdz G1;have HB1:=hdz B1;have HO1:Hid ((w1.setCell (Ad a 0) (.slice p1 (s.out.length+1) q1)).ownsRow M 96 3 (.slice p1 (s.out.length+1) q1) (s.out.length+1) (JaM s.out++JaL ⟨0,0,s.put⟩)):=Jfk hown1 (show a<M by omega) (.slice p1 (s.out.length+1) q1);have k4:=(zC hb1 (a+1) 0 (by show a+1<_;omega)).trans h4;have k6:=(hb1.frozen (p:=(Ad (a+1) 0)) (by show a+1<_;omega)).trans h6;have k7:=(zC hb1 (a+2) 0 (by show a+2<_;omega)).trans h7;have k8:=(hb1.frozen (p:=(Ad (a+2) 0)) (by show a+2<_;omega)).trans h8;have hs1:=hb1.size;have HK1:Hid ((w1.setCell (Ad a 0) (.slice p1 (s.out.length+1) q1)).cell? (Ad a 0)=some (.slice p1 (s.out.length+1) q1)):=World.cell?_setCell_same _ _ _ r1;have HK4:Hid ((w1.setCell (Ad a 0) (.slice p1 (s.out.length+1) q1)).cell? (Ad (a+1) 0)=some (.slice p' s.put.length c')):=(Jax (by omega) _).trans k4;clear h1 h3 h4 h6 h7 h8 G1 B1 hown1 hg1 hconv hb1 hv1
 go_wp2_with (at_builtin;refine wpList_append_own_at _ rfl _ _ 94 rfl M 96 i0 (.agg #[I6 0,I6 0,.string ⟨#[]⟩]) 3 32 underlying94 hi hz0 hz1 hz2 rfl (by decide) _ _ _ rfl (HO1.out.alloc _) (Ad w1.heap.size 0) 1 1 (JaL ⟨0,s.drop,[]⟩) rfl rfl (Jmp _ _ _ _ _) (Jb2 _) (by unfold maxLen;omega) (by omega) (by first | omega | (simp;omega)) ?_)
 intro v2 w2 hown2 hg2 _ hat2;have hown2':w2.ownsRow M 96 3 v2 ((s.out++[(⟨0,0,s.put⟩:Pt)]).length+1) (JaM (s.out++[(⟨0,0,s.put⟩:Pt)])++JaL ⟨0,s.drop,[]⟩):=by
  rw[JcZ,List.length_append,List.append_assoc];exact hown2
 have hls:(s.out++[(⟨0,0,s.put⟩:Pt)]).length=s.out.length+1:=by rw[List.length_append];rfl
 have HK1':(w1.setCell (Ad a 0) (.slice p1 (s.out.length+1) q1)).cell? (Ad a 0)=some (.slice p1 (s.out++[(⟨0,0,s.put⟩:Pt)]).length q1):=by rw[hls];exact HK1.out
 have P2:=JeN (q:=⟨0,s.drop,[]⟩) HG1.out HK1' hown2' (by rw[hls];exact hg2);have hb2:Below (a+4) (w1.setCell (Ad a 0) (.slice p1 (s.out.length+1) q1)) w2:=((brf (a+4) _).alloc (by simp;omega) _).grown hg2 (by rw[wsa];simp;omega) λk hk=>Nat.le_trans hM (HO1.out.lt k hk).1;have z4:=HK4.out;have z6:(w1.setCell (Ad a 0) (.slice p1 (s.out.length+1) q1)).frozen? (Ad (a+1) 0)=false:=by rw[World.frozen?_setCell];exact k6
 have z7:(w1.setCell (Ad a 0) (.slice p1 (s.out.length+1) q1)).cell? (Ad (a+2) 0)=some (I6 s.drop):=(Jax (by omega) _).trans k7;have z8:(w1.setCell (Ad a 0) (.slice p1 (s.out.length+1) q1)).frozen? (Ad (a+2) 0)=false:=by rw[World.frozen?_setCell];exact k8
 clear HK1';obtain⟨p2,q2,hv2⟩:=Jak hown2;rw[hv2]at P2 ⊢;rw[hv2]at hat2;obtain⟨G2,B2,t1,t2⟩:=P2;have HS2:Hid (∀b,spare (w1.setCell (Ad a 0) (.slice p1 (s.out.length+1) q1)) a b->spare (w2.setCell (Ad a 0) (.slice p2 ((s.out.length+1)+1) q2)) a b/\(w2.setCell (Ad a 0) (.slice p2 ((s.out.length+1)+1) q2)).heap[b]?=(w1.setCell (Ad a 0) (.slice p1 (s.out.length+1) q1)).heap[b]?):=λb hb=>Jgc HK1.out (by rw[t1];rfl) hg2 (hat2.imp id λe=>⟨_,e,by simp⟩) hb;clear hat2;have HG2:=hdz G2;have HB2:=hdz B2;have y4:=(zC hb2 (a+1) 0 (by show a+1<_;omega)).trans z4;have y6:=(hb2.frozen (p:=(Ad (a+1) 0)) (by show a+1<_;omega)).trans z6;have y7:=(zC hb2 (a+2) 0 (by show a+2<_;omega)).trans z7;have y8:=(hb2.frozen (p:=(Ad (a+2) 0)) (by show a+2<_;omega)).trans z8;have hs2:=hb2.size;have HK5:Hid ((w2.setCell (Ad a 0) (.slice p2 ((s.out.length+1)+1) q2)).cell? (Ad (a+1) 0)=some (.slice p' s.put.length c')):=(Jax (by omega) _).trans y4;clear z4 z6 z7 z8 G2 B2 hown2 hg2 hb2 hv2;clear k4 k6 k7 k8 r1 r2;clear hown2';go_wp2;go_end0;have F1:=Jhh HG2.out HK5.out;have F2:=JdD F1.1 0;have F3:=F2.1;rw[List.append_assoc]at F3;refine⟨⟨_,rfl⟩,F3,(HB1.out.trans HB2.out).trans (F1.2.trans F2.2),λb hb=>?_⟩;have hb0:=hb.2.1;have e0:w.heap[b]?=w.heap[b]?:=rfl;have s0:=hb;have e1:=(HS1.out b s0).2;have s1:=(HS1.out b s0).1;have e2:=((HS2.out b s1).2).trans e1;have s2:=(HS2.out b s1).1;have s3:=Jd3 s2 (c:=a+1) (by omega) (by omega) (.slice p' 0 c');exact((Jd3 s3.1 (c:=a+2) (by omega) (by omega) (I6 0)).2.trans s3.2).trans e2
theorem Jiw(a:Nat)(s:NSt)(w:World)(h:gath M w a s)(hlen:s.out.length<1000000000)(hput:s.put.length<1000000000) :
    Cg 247 #[.pointer (some (Ad (a+1) 0)),Pd a 0,.pointer (some (Ad (a+2) 0))] w λe w'=>(∃v,e=.returned v)/\gath M w' a ⟨JaG s,[],0⟩/\BelowG M a w w'/\∀b,spare w a b->w'.heap[b]?=w.heap[b]?:=by
 have hM:=h.le;have hT:=h.top;unfold JaG
 by_cases hp:s.put=[]
 . by_cases hd:s.drop=0
   . have:=tell_oo a s w h hlen hput hp hd
     simpa[hp,hd] using this
   . have:=tell_od a s w h hlen hput hp hd
     simpa[hp,hd] using this
 . by_cases hd:s.drop=0
   . have:=tell_po a s w h hlen hput hp hd
     simpa[hp,hd] using this
   . have:=tell_pd a s w h hlen hput hp hd
     simpa[hp,hd] using this
end
section
variable {M g n c : Nat}{w : World}{init : List Pt}{q : Pt}
def JaX (p:Pt):Value:=.agg #[I6 p.keep,I6 p.drop,Sx p.put]
theorem Jco(p:Pt)(w:World):Cg 159 #[JaX p] w (Rt w (.bool (decide (0<p.keep)))):=by
 unfold JaX
 go_enter func159,ntmps159
 go_wp2;go_ret;exact⟨rfl,zA _ _⟩
theorem JdV(p:Pt)(w:World):Cg 208 #[JaX p] w (Rt w (.bool (decide (0<p.drop)))):=by
 unfold JaX
 go_enter func208,ntmps208
 go_wp2;go_ret;exact⟨rfl,zA _ _⟩
theorem Jhl(a:Nat)(s:NSt)(w:World)(h:gath M w a s)(hlen:s.out.length<1000000000)(hput:s.put.length<1000000000) :
    Cg 249 #[.pointer (some (Ad (a+3) 0)),Pd a 0] w λe w'=>∃v,e=.returned v/\w'.ownsRow M 96 3 v (JaG s).length (JaM (JaG s))/\BelowG M a w w':=by
 have hM:=h.le;have hT:=h.top;have cT:=Jiw a s w h hlen hput;have h9:=h.tell;clear h
 go_enter func249,ntmps249
 go_wp2_with (go_at_call 247;refine cT.mono ?_;rintro e w1 ⟨⟨v,rfl⟩,⟨⟨p,c,h1,h2⟩,_⟩,hb,_⟩)
 go_ret;exact⟨_,rfl,h2,hb⟩
theorem Jtu{a:Nat}(h:gath M w a ⟨init++[q],[],0⟩)(hc:w.cell? (Ad a 0)=some (Sl g n c))(hn:n=(init++[q]).length)(k:Int) :
    gath M (w.setCell (Ad g (init.length*3)) (I6 k)) a ⟨init++[⟨k,q.drop,q.put⟩],[],0⟩/\BelowG M a w (w.setCell (Ad g (init.length*3)) (I6 k)):=by
 have hM:=h.le;have hT:=h.top;subst hn;obtain⟨⟨p1,c1,h1,h2⟩,h3,⟨p',c',h4,h5⟩,h6,h7,h8,h9⟩:=h;rw[hc]at h1;simp only[Option.some.injEq,Value.slice.injEq,true_and]at h1;obtain⟨rfl,rfl⟩:=h1;have hlt:=h2.lt g rfl;obtain⟨r1,r2⟩:=h2.stored (init.length*3) (I6 k);have hx:(JaM (init++[q])).set (init.length*3) (I6 k)=JaM (init++[⟨k,q.drop,q.put⟩]):=by
  rw[JcZ,JcZ,List.set_append_right _ _ (by rw[JdX];exact nlr _),JdX,Nat.sub_self];rfl
 rw[hx]at r1;have hl:(init++[(⟨k,q.drop,q.put⟩:Pt)]).length=(init++[q]).length:=by simp
 have r3:=h5.kept r2 (JsJ h5 h2 (by decide));refine⟨⟨⟨some (Ad g 0),c,?_,?_⟩,?_,⟨p',c',?_,r3⟩,?_,?_,?_,?_,hM,(by simp;omega)⟩,⟨(brf a w).setCell (by show a<=g;omega) _,(KeptG.refl M a w).grown h2 (.inr rfl) r2⟩⟩
 . show _=some (Value.slice _ (init++[(⟨k,q.drop,q.put⟩:Pt)]).length c)
   rw[hl];exact(World.cell?_of_block (a:=(Ad a 0)) (r2.block a (by omega) (by intro e;have:=osi e;omega))).trans hc
 . show World.ownsRow _ _ _ _ (.slice _ (init++[(⟨k,q.drop,q.put⟩:Pt)]).length c) (init++[(⟨k,q.drop,q.put⟩:Pt)]).length _
   rw[hl];exact r1
 . rw[World.frozen?_setCell];exact h3
 . exact(World.cell?_of_block (a:=(Ad (a+1) 0)) (r2.block (a+1) (by omega) (by intro e;have:=osi e;omega))).trans h4
 . rw[World.frozen?_setCell];exact h6
 . exact(World.cell?_of_block (a:=(Ad (a+2) 0)) (r2.block (a+2) (by omega) (by intro e;have:=osi e;omega))).trans h7
 . rw[World.frozen?_setCell];exact h8
 . exact(World.cell?_of_block (a:=(Ad (a+3) 0)) (r2.block (a+3) (by omega) (by intro e;have:=osi e;omega))).trans h9
theorem JkF{B:Nat}(h:w.ownsRow B 96 3 (Sl g n c) n (JaM (init++[q])))(hn:n=(init++[q]).length) :
    w.cell? (Ad g (init.length*3))=some (I6 q.keep)/\w.cell? (Ad g (init.length*3+1))=some (I6 q.drop)/\w.cell? (Ad g (init.length*3+2))=some (Sx q.put)/\w.frozen? (Ad g (init.length*3))=false:=by
 subst hn;have hn:(init++[q]).length=init.length+1:=by simp
 have e:∀j,j<3->(JaM (init++[q]))[init.length*3+j]?=(JaL q)[j]?:=by
  intro j hj;rw[JcZ,List.getElem?_append_right (by rw[JdX];omega),JdX]
  congr 1
  omega
 refine⟨?_,?_,?_,h.frozenAt _⟩
 . rw[h.cellAt _ (by rw[hn];omega)];exact e 0 (by omega)
 . rw[h.cellAt _ (by rw[hn];omega)];exact e 1 (by omega)
 . rw[h.cellAt _ (by rw[hn];omega)];exact e 2 (by omega)
theorem add_zero(a:Nat)(s:NSt)(p:Pt)(w:World)(h:gath M w a s)(hput:s.put.length+p.put.length<1000000000)(hd: -9223372036854775808<=s.drop+p.drop)(hd':s.drop+p.drop<9223372036854775808)(hout:s.out.length<100000000)
     :
    Cg 248 #[(.agg #[I6 0,I6 p.drop,Sx p.put]),.pointer (some (Ad (a+1) 0)),.pointer (some (Ad (a+2) 0)),.pointer (some (Ad (a+3) 0)),Pd a 0] w λe w'=>(∃v,e=.returned v)/\gath M w' a ⟨s.out,s.put++p.put,s.drop+p.drop⟩/\BelowG M a w w':=by
 have hM:=h.le;have hT:=h.top;obtain⟨i0,hi,hz0,hz1,hz2⟩:=info_parts Jcm;obtain⟨i1,hj,hy0,hy1,hy2⟩:=info_parts JhB;have hlt:=JbP h;have hb0':Bw w (w.alloc (Oc #[I6 0,I6 p.drop,Sx p.put] 96)):=zA _ _;have HG0:=hdz (JbF h hb0');have HB0:Hid (BelowG M a w (w.alloc (Oc #[I6 0,I6 p.drop,Sx p.put] 96))):=.of hb0' (by omega);have x0:(w.alloc (Oc #[I6 0,I6 p.drop,Sx p.put] 96)).cell? (Ad w.heap.size 0)=some (I6 0):=by simp[go_sem]
 have x1:(w.alloc (Oc #[I6 0,I6 p.drop,Sx p.put] 96)).cell? (Ad w.heap.size 1)=some (I6 p.drop):=by simp[go_sem]
 obtain⟨⟨pp,c,h1,h2⟩,h3,⟨p',c',h4,h5⟩,h6,h7,h8,h9⟩:=h;have HL1:Hid (∀k,(Value.slice pp s.out.length c).ownBlock=some k->k<w.heap.size):=λk hk'=>(h2.lt k hk').2;have HL2:Hid (∀k,(Value.slice p' s.put.length c').ownBlock=some k->k<w.heap.size):=λk hk'=>(h5.lt k hk').2;have hP:(w.alloc (Oc #[I6 0,I6 p.drop,Sx p.put] 96)).ownsRow M 5 1 (.slice p' s.put.length c') s.put.length (Lib.byteCells s.put):=h5.alloc _;have hC:(w.alloc (Oc #[I6 0,I6 p.drop,Sx p.put] 96)).cell? (Ad (a+1) 0)=some (.slice p' s.put.length c'):=(zC hb0' (a+1) 0 (by show a+1<_;omega)).trans h4;have hC0:(w.alloc (Oc #[I6 0,I6 p.drop,Sx p.put] 96)).cell? (Ad a 0)=some (.slice pp s.out.length c):=(zC hb0' a 0 (by show a<_;omega)).trans h1;have hD2:(w.alloc (Oc #[I6 0,I6 p.drop,Sx p.put] 96)).cell? (Ad (a+2) 0)=some (I6 s.drop):=(zC hb0' (a+2) 0 (by show a+2<_;omega)).trans h7;have hF2:(w.alloc (Oc #[I6 0,I6 p.drop,Sx p.put] 96)).frozen? (Ad (a+2) 0)=false:=(hb0'.frozen (p:=(Ad (a+2) 0)) (by show a+2<_;omega)).trans h8;have hD3:(w.alloc (Oc #[I6 0,I6 p.drop,Sx p.put] 96)).cell? (Ad (a+3) 0)=some (.func (.func 247) #[] #[.pointer (some (Ad (a+1) 0)),Pd a 0,.pointer (some (Ad (a+2) 0))]):=(zC hb0' (a+3) 0 (by show a+3<_;omega)).trans h9;have HP:=hdz hP
 have HX:Hid (∀w1 v1,w1.ownsRow M 5 1 v1 (s.put.length+(ByteArray.mk p.put.toArray).size) (Lib.byteCells s.put++Lib.strCells ⟨p.put.toArray⟩)->(w.alloc (Oc #[I6 0,I6 p.drop,Sx p.put] 96)).grownBy w1 (Value.slice p' s.put.length c').ownBlock ->
     gath M ((w1.setCell (Ad (a+1) 0) v1).setCell (Ad (a+2) 0) (I6 (s.drop+p.drop))) a ⟨s.out,s.put++p.put,s.drop+p.drop⟩/\BelowG M a w ((w1.setCell (Ad (a+1) 0) v1).setCell (Ad (a+2) 0) (I6 (s.drop+p.drop))) /\
     spare ((w1.setCell (Ad (a+1) 0) v1).setCell (Ad (a+2) 0) (I6 (s.drop+p.drop))) a w.heap.size /\
     w1.cell? (Ad (a+1) 0)=some (.slice p' s.put.length c')/\w1.frozen? (Ad (a+1) 0)=false/\w1.cell? (Ad (a+2) 0)=some (I6 s.drop)/\w1.frozen? (Ad (a+2) 0)=false /\
     w1.cell? (Ad (a+3) 0)=some (.func (.func 247) #[] #[.pointer (some (Ad (a+1) 0)),Pd a 0,.pointer (some (Ad (a+2) 0))]) /\
     (∀o,w1.cell? (Ad w.heap.size o)=(w.alloc (Oc #[I6 0,I6 p.drop,Sx p.put] 96)).cell? (Ad w.heap.size o))/\w.heap.size<w1.heap.size):=by
  intro w1 v1 q1 q2;have hz:(ByteArray.mk p.put.toArray).size=p.put.length:=by simp[ByteArray.size]
  rw[hz]at q1;obtain⟨g1,g2,g3,g4⟩:=Jhg (q:=p.put) HG0.out hC q1 q2;obtain⟨g5,g6⟩:=JdD g1 (s.drop+p.drop);have hlow:∀k,(Value.slice p' s.put.length c').ownBlock=some k->a+4<=k:=λk hk=>Nat.le_trans hM (hP.lt k hk).1;have hbb:Below (a+4) (w.alloc (Oc #[I6 0,I6 p.drop,Sx p.put] 96)) w1:=(brf _ _).grown q2 (by rw[wsa];omega) hlow;have hsz:=q2.size;rw[wsa]at hsz;refine⟨g5,HB0.out.trans (g2.trans g6),⟨by simp;omega,hlt,?_⟩,g3,g4,(zC hbb (a+2) 0 (by show a+2<_;omega)).trans hD2,(hbb.frozen (p:=(Ad (a+2) 0)) (by show a+2<_;omega)).trans hF2,(zC hbb (a+3) 0 (by show a+3<_;omega)).trans hD3,?_,by omega⟩
  . intro v hv
    rw[Jax (by omega),Jax (by omega),(zC hbb a 0 (by show a<_;omega)),hC0]at hv;obtain rfl:=osi hv;intro e;have:=HL1.out _ e;omega
  . intro o
    exact World.cell?_of_block (a:=(Ad w.heap.size o)) (q2.block w.heap.size (by rw[wsa];omega) (by intro e;have:=HL2.out _ e.symm;omega))
 clear h2 h5 hP hC hC0 hD2 hF2 hD3 hb0' h1 h3 h6 h7 h8 h9;have n0:a+1<w.heap.size:=by omega
 have HZ:Hid ((ByteArray.mk p.put.toArray).size=p.put.length):=by show _=_;simp[ByteArray.size]
 have n1:¬(a+1=w.heap.size):=by omega
 have n2:¬(w.heap.size=a+1):=by omega
 have n3:¬(a+2=w.heap.size):=by omega
 have n4:¬(w.heap.size=a+2):=by omega
 have hwrap:IntKind.i64.wrap (s.drop+p.drop)=s.drop+p.drop:=by rw[IntKind.wrap_i64];omega
 go_enter func248,ntmps248
 go_wp2_with (at_builtin;refine Lib.wpList_append_own_string _ rfl _ _ 29 9 rfl M 5 i1 underlying29 underlying9 hj hy0 hy1 hy2 _ _ _ rfl HP.out _ rfl (by rw[HZ.out];unfold maxLen;omega) (by rw[HZ.out];omega) (by simp;omega) ?_)
 intro v1 w1 hown1 hg1 _;have R:=HX.out w1 v1 hown1 hg1;obtain⟨pv,cv,rfl⟩:=Jak hown1;obtain⟨G2,B2,S2,r1,r2,r3,r4,r5,r6,r7⟩:=R;have y0:=(r6 0).trans x0;have y1:=(r6 1).trans x1;have HG2:=hdz G2;have HB2:=hdz B2;clear hown1 hg1 x0 x1 r6 G2 B2 S2 HX HL1 HL2 HP HG0 HB0 h4;go_wp2;refine bodyPost_ret (results_none rfl _ _ _) rfl ?_;exact⟨⟨_,rfl⟩,HG2.out,HB2.out⟩
theorem JvK(a:Nat)(s:NSt)(p:Pt)(w:World)(h:gath M w a s)(hput:s.put.length+p.put.length<1000000000)(hd: -9223372036854775808<=s.drop+p.drop)(hd':s.drop+p.drop<9223372036854775808)(hout:s.out.length<100000000)
    (hk:p.keep≠0) (L:List Pt) (hL:JaG ⟨s.out,s.put++p.put,s.drop+p.drop⟩=L) (hLq:L=[]) :
    Cg 248 #[(JaX p),.pointer (some (Ad (a+1) 0)),.pointer (some (Ad (a+2) 0)),.pointer (some (Ad (a+3) 0)),Pd a 0] w λe w'=>(∃v,e=.returned v)/\gath M w' a ⟨L++[⟨p.keep,0,[]⟩],[],0⟩/\BelowG M a w w':=by
 have hM:=h.le;have hT:=h.top;obtain⟨i0,hi,hz0,hz1,hz2⟩:=info_parts Jcm;obtain⟨i1,hj,hy0,hy1,hy2⟩:=info_parts JhB;have hlt:=JbP h;have hb0':Bw w (w.alloc (Oc #[I6 p.keep,I6 p.drop,Sx p.put] 96)):=zA _ _;have HG0:=hdz (JbF h hb0');have HB0:Hid (BelowG M a w (w.alloc (Oc #[I6 p.keep,I6 p.drop,Sx p.put] 96))):=.of hb0' (by omega);have x0:(w.alloc (Oc #[I6 p.keep,I6 p.drop,Sx p.put] 96)).cell? (Ad w.heap.size 0)=some (I6 p.keep):=by simp[go_sem]
 have x1:(w.alloc (Oc #[I6 p.keep,I6 p.drop,Sx p.put] 96)).cell? (Ad w.heap.size 1)=some (I6 p.drop):=by simp[go_sem]
 obtain⟨⟨pp,c,h1,h2⟩,h3,⟨p',c',h4,h5⟩,h6,h7,h8,h9⟩:=h;have HL1:Hid (∀k,(Value.slice pp s.out.length c).ownBlock=some k->k<w.heap.size):=λk hk'=>(h2.lt k hk').2;have HL2:Hid (∀k,(Value.slice p' s.put.length c').ownBlock=some k->k<w.heap.size):=λk hk'=>(h5.lt k hk').2;have hP:(w.alloc (Oc #[I6 p.keep,I6 p.drop,Sx p.put] 96)).ownsRow M 5 1 (.slice p' s.put.length c') s.put.length (Lib.byteCells s.put):=h5.alloc _;have hC:(w.alloc (Oc #[I6 p.keep,I6 p.drop,Sx p.put] 96)).cell? (Ad (a+1) 0)=some (.slice p' s.put.length c'):=(zC hb0' (a+1) 0 (by show a+1<_;omega)).trans h4;have hC0:(w.alloc (Oc #[I6 p.keep,I6 p.drop,Sx p.put] 96)).cell? (Ad a 0)=some (.slice pp s.out.length c):=(zC hb0' a 0 (by show a<_;omega)).trans h1;have hD2:(w.alloc (Oc #[I6 p.keep,I6 p.drop,Sx p.put] 96)).cell? (Ad (a+2) 0)=some (I6 s.drop):=(zC hb0' (a+2) 0 (by show a+2<_;omega)).trans h7;have hF2:(w.alloc (Oc #[I6 p.keep,I6 p.drop,Sx p.put] 96)).frozen? (Ad (a+2) 0)=false:=(hb0'.frozen (p:=(Ad (a+2) 0)) (by show a+2<_;omega)).trans h8;have hD3:(w.alloc (Oc #[I6 p.keep,I6 p.drop,Sx p.put] 96)).cell? (Ad (a+3) 0)=some (.func (.func 247) #[] #[.pointer (some (Ad (a+1) 0)),Pd a 0,.pointer (some (Ad (a+2) 0))]):=(zC hb0' (a+3) 0 (by show a+3<_;omega)).trans h9;have HP:=hdz hP
 have HX:Hid (∀w1 v1,w1.ownsRow M 5 1 v1 (s.put.length+(ByteArray.mk p.put.toArray).size) (Lib.byteCells s.put++Lib.strCells ⟨p.put.toArray⟩)->(w.alloc (Oc #[I6 p.keep,I6 p.drop,Sx p.put] 96)).grownBy w1 (Value.slice p' s.put.length c').ownBlock ->
     gath M ((w1.setCell (Ad (a+1) 0) v1).setCell (Ad (a+2) 0) (I6 (s.drop+p.drop))) a ⟨s.out,s.put++p.put,s.drop+p.drop⟩/\BelowG M a w ((w1.setCell (Ad (a+1) 0) v1).setCell (Ad (a+2) 0) (I6 (s.drop+p.drop))) /\
     spare ((w1.setCell (Ad (a+1) 0) v1).setCell (Ad (a+2) 0) (I6 (s.drop+p.drop))) a w.heap.size /\
     w1.cell? (Ad (a+1) 0)=some (.slice p' s.put.length c')/\w1.frozen? (Ad (a+1) 0)=false/\w1.cell? (Ad (a+2) 0)=some (I6 s.drop)/\w1.frozen? (Ad (a+2) 0)=false /\
     w1.cell? (Ad (a+3) 0)=some (.func (.func 247) #[] #[.pointer (some (Ad (a+1) 0)),Pd a 0,.pointer (some (Ad (a+2) 0))]) /\
     (∀o,w1.cell? (Ad w.heap.size o)=(w.alloc (Oc #[I6 p.keep,I6 p.drop,Sx p.put] 96)).cell? (Ad w.heap.size o))/\w.heap.size<w1.heap.size):=by
  intro w1 v1 q1 q2;have hz:(ByteArray.mk p.put.toArray).size=p.put.length:=by simp[ByteArray.size]
  rw[hz]at q1;obtain⟨g1,g2,g3,g4⟩:=Jhg (q:=p.put) HG0.out hC q1 q2;obtain⟨g5,g6⟩:=JdD g1 (s.drop+p.drop);have hlow:∀k,(Value.slice p' s.put.length c').ownBlock=some k->a+4<=k:=λk hk=>Nat.le_trans hM (hP.lt k hk).1;have hbb:Below (a+4) (w.alloc (Oc #[I6 p.keep,I6 p.drop,Sx p.put] 96)) w1:=(brf _ _).grown q2 (by rw[wsa];omega) hlow;have hsz:=q2.size;rw[wsa]at hsz;refine⟨g5,HB0.out.trans (g2.trans g6),⟨by simp;omega,hlt,?_⟩,g3,g4,(zC hbb (a+2) 0 (by show a+2<_;omega)).trans hD2,(hbb.frozen (p:=(Ad (a+2) 0)) (by show a+2<_;omega)).trans hF2,(zC hbb (a+3) 0 (by show a+3<_;omega)).trans hD3,?_,by omega⟩
  . intro v hv
    rw[Jax (by omega),Jax (by omega),(zC hbb a 0 (by show a<_;omega)),hC0]at hv;obtain rfl:=osi hv;intro e;have:=HL1.out _ e;omega
  . intro o
    exact World.cell?_of_block (a:=(Ad w.heap.size o)) (q2.block w.heap.size (by rw[wsa];omega) (by intro e;have:=HL2.out _ e.symm;omega))
 clear h2 h5 hP hC hC0 hD2 hF2 hD3 hb0' h1 h3 h6 h7 h8 h9;have n0:a+1<w.heap.size:=by omega
 have HZ:Hid ((ByteArray.mk p.put.toArray).size=p.put.length):=by show _=_;simp[ByteArray.size]
 have n1:¬(a+1=w.heap.size):=by omega
 have n2:¬(w.heap.size=a+1):=by omega
 have n3:¬(a+2=w.heap.size):=by omega
 have n4:¬(w.heap.size=a+2):=by omega
 have hwrap:IntKind.i64.wrap (s.drop+p.drop)=s.drop+p.drop:=by rw[IntKind.wrap_i64];omega
 unfold JaX
 go_enter func248,ntmps248
 go_wp2_with (at_builtin;refine Lib.wpList_append_own_string _ rfl _ _ 29 9 rfl M 5 i1 underlying29 underlying9 hj hy0 hy1 hy2 _ _ _ rfl HP.out _ rfl (by rw[HZ.out];unfold maxLen;omega) (by rw[HZ.out];omega) (by simp;omega) ?_)
 intro v1 w1 hown1 hg1 _;have R:=HX.out w1 v1 hown1 hg1;obtain⟨pv,cv,rfl⟩:=Jak hown1;obtain⟨G2,B2,S2,r1,r2,r3,r4,r5,r6,r7⟩:=R;have y0:=(r6 0).trans x0;have y1:=(r6 1).trans x1;have HG2:=hdz G2;have HB2:=hdz B2;have HS2:=hdz S2;clear hown1 hg1 x0 x1 r6 G2 B2 S2 HX HL1 HL2 HP HG0 HB0 h4;have hkb:(p.keep==0)=false:=beq_eq_false_iff_ne.2 hk
 go_wp2_with (go_at_call 9999)
 refine(Jiw a _ _ HG2.out (by show s.out.length<_;omega) (by show(s.put++p.put).length<_;rw[List.length_append];exact hput)).mono ?_;rintro e w3 ⟨⟨v3,rfl⟩,G3,B3,S3⟩;have hS3:=S3 _ HS2.out;have z0:w3.cell? (Ad w.heap.size 0)=some (I6 p.keep):=(World.cell?_of_block (a:=(Ad w.heap.size 0)) hS3).trans (by rw[Jax (by omega),Jax (by omega)];exact y0);rw[hL]at G3;have HB3:=hdz (HB2.out.trans B3);have hs3:w.heap.size<=w3.heap.size:=HB3.out.size;clear S3 hS3 B3 HB2 HS2 HG2 y0 y1 r1 r2 r3 r4 r5 r7;subst hLq;have HG3:=hdz G3;have hlt3:=JbP G3;obtain⟨⟨p3,c3,u1,u2⟩,u3,_,_,_,_,_⟩:=G3;have HU1:Hid (w3.cell? (Ad a 0)=some (.slice p3 0 c3)):=u1;have HU2:Hid (w3.ownsRow M 96 3 (.slice p3 0 c3) 0 (JaM [])):=u2;have u1':w3.cell? (Ad a 0)=some (.slice p3 0 c3):=u1;clear u1 u2
 go_wp2_with (at_builtin;refine wpList_append_own_at _ rfl _ _ 94 rfl M 96 i0 (.agg #[I6 0,I6 0,.string ⟨#[]⟩]) 3 32 underlying94 hi hz0 hz1 hz2 rfl (by decide) _ _ _ rfl (HU2.out.alloc _) (Ad w3.heap.size 0) 1 1 (JaL ⟨p.keep,0,[]⟩) rfl rfl (Jer _ _ _) (Jb2 _) (by unfold maxLen;omega) (by omega) (by first | omega | (simp;omega)) ?_)
 intro v5 w5 hown5 hg5 _ _;have P5:=JeN (q:=⟨p.keep,0,[]⟩) HG3.out HU1.out hown5 hg5;obtain⟨p5,q5,rfl⟩:=Jak hown5;obtain⟨G5,B5,t1,t2⟩:=P5;have HG5:=hdz G5;have HB5:=hdz B5;clear hown5 hg5 G5 B5 u1' u3 z0;go_wp2;go_end0;exact⟨⟨_,rfl⟩,HG5.out,HB3.out.trans HB5.out⟩
theorem JrJ(a:Nat)(s:NSt)(p:Pt)(w:World)(h:gath M w a s)(hput:s.put.length+p.put.length<1000000000)(hd: -9223372036854775808<=s.drop+p.drop)(hd':s.drop+p.drop<9223372036854775808)(hout:s.out.length<100000000)
    (hk:p.keep≠0) (L:List Pt) (hL:JaG ⟨s.out,s.put++p.put,s.drop+p.drop⟩=L) (init:List Pt) (q:Pt) (hLq:L=init++[q]) (hq:¬0<q.keep) :
    Cg 248 #[(JaX p),.pointer (some (Ad (a+1) 0)),.pointer (some (Ad (a+2) 0)),.pointer (some (Ad (a+3) 0)),Pd a 0] w λe w'=>(∃v,e=.returned v)/\gath M w' a ⟨L++[⟨p.keep,0,[]⟩],[],0⟩/\BelowG M a w w':=by
 have hM:=h.le;have hT:=h.top;obtain⟨i0,hi,hz0,hz1,hz2⟩:=info_parts Jcm;obtain⟨i1,hj,hy0,hy1,hy2⟩:=info_parts JhB;have hlt:=JbP h;have hb0':Bw w (w.alloc (Oc #[I6 p.keep,I6 p.drop,Sx p.put] 96)):=zA _ _;have HG0:=hdz (JbF h hb0');have HB0:Hid (BelowG M a w (w.alloc (Oc #[I6 p.keep,I6 p.drop,Sx p.put] 96))):=.of hb0' (by omega);have x0:(w.alloc (Oc #[I6 p.keep,I6 p.drop,Sx p.put] 96)).cell? (Ad w.heap.size 0)=some (I6 p.keep):=by simp[go_sem]
 have x1:(w.alloc (Oc #[I6 p.keep,I6 p.drop,Sx p.put] 96)).cell? (Ad w.heap.size 1)=some (I6 p.drop):=by simp[go_sem]
 obtain⟨⟨pp,c,h1,h2⟩,h3,⟨p',c',h4,h5⟩,h6,h7,h8,h9⟩:=h;have HL1:Hid (∀k,(Value.slice pp s.out.length c).ownBlock=some k->k<w.heap.size):=λk hk'=>(h2.lt k hk').2;have HL2:Hid (∀k,(Value.slice p' s.put.length c').ownBlock=some k->k<w.heap.size):=λk hk'=>(h5.lt k hk').2;have hP:(w.alloc (Oc #[I6 p.keep,I6 p.drop,Sx p.put] 96)).ownsRow M 5 1 (.slice p' s.put.length c') s.put.length (Lib.byteCells s.put):=h5.alloc _;have hC:(w.alloc (Oc #[I6 p.keep,I6 p.drop,Sx p.put] 96)).cell? (Ad (a+1) 0)=some (.slice p' s.put.length c'):=(zC hb0' (a+1) 0 (by show a+1<_;omega)).trans h4;have hC0:(w.alloc (Oc #[I6 p.keep,I6 p.drop,Sx p.put] 96)).cell? (Ad a 0)=some (.slice pp s.out.length c):=(zC hb0' a 0 (by show a<_;omega)).trans h1;have hD2:(w.alloc (Oc #[I6 p.keep,I6 p.drop,Sx p.put] 96)).cell? (Ad (a+2) 0)=some (I6 s.drop):=(zC hb0' (a+2) 0 (by show a+2<_;omega)).trans h7;have hF2:(w.alloc (Oc #[I6 p.keep,I6 p.drop,Sx p.put] 96)).frozen? (Ad (a+2) 0)=false:=(hb0'.frozen (p:=(Ad (a+2) 0)) (by show a+2<_;omega)).trans h8;have hD3:(w.alloc (Oc #[I6 p.keep,I6 p.drop,Sx p.put] 96)).cell? (Ad (a+3) 0)=some (.func (.func 247) #[] #[.pointer (some (Ad (a+1) 0)),Pd a 0,.pointer (some (Ad (a+2) 0))]):=(zC hb0' (a+3) 0 (by show a+3<_;omega)).trans h9;have HP:=hdz hP
 have HX:Hid (∀w1 v1,w1.ownsRow M 5 1 v1 (s.put.length+(ByteArray.mk p.put.toArray).size) (Lib.byteCells s.put++Lib.strCells ⟨p.put.toArray⟩)->(w.alloc (Oc #[I6 p.keep,I6 p.drop,Sx p.put] 96)).grownBy w1 (Value.slice p' s.put.length c').ownBlock ->
     gath M ((w1.setCell (Ad (a+1) 0) v1).setCell (Ad (a+2) 0) (I6 (s.drop+p.drop))) a ⟨s.out,s.put++p.put,s.drop+p.drop⟩/\BelowG M a w ((w1.setCell (Ad (a+1) 0) v1).setCell (Ad (a+2) 0) (I6 (s.drop+p.drop))) /\
     spare ((w1.setCell (Ad (a+1) 0) v1).setCell (Ad (a+2) 0) (I6 (s.drop+p.drop))) a w.heap.size /\
     w1.cell? (Ad (a+1) 0)=some (.slice p' s.put.length c')/\w1.frozen? (Ad (a+1) 0)=false/\w1.cell? (Ad (a+2) 0)=some (I6 s.drop)/\w1.frozen? (Ad (a+2) 0)=false /\
     w1.cell? (Ad (a+3) 0)=some (.func (.func 247) #[] #[.pointer (some (Ad (a+1) 0)),Pd a 0,.pointer (some (Ad (a+2) 0))]) /\
     (∀o,w1.cell? (Ad w.heap.size o)=(w.alloc (Oc #[I6 p.keep,I6 p.drop,Sx p.put] 96)).cell? (Ad w.heap.size o))/\w.heap.size<w1.heap.size):=by
  intro w1 v1 q1 q2;have hz:(ByteArray.mk p.put.toArray).size=p.put.length:=by simp[ByteArray.size]
  rw[hz]at q1;obtain⟨g1,g2,g3,g4⟩:=Jhg (q:=p.put) HG0.out hC q1 q2;obtain⟨g5,g6⟩:=JdD g1 (s.drop+p.drop);have hlow:∀k,(Value.slice p' s.put.length c').ownBlock=some k->a+4<=k:=λk hk=>Nat.le_trans hM (hP.lt k hk).1;have hbb:Below (a+4) (w.alloc (Oc #[I6 p.keep,I6 p.drop,Sx p.put] 96)) w1:=(brf _ _).grown q2 (by rw[wsa];omega) hlow;have hsz:=q2.size;rw[wsa]at hsz;refine⟨g5,HB0.out.trans (g2.trans g6),⟨by simp;omega,hlt,?_⟩,g3,g4,(zC hbb (a+2) 0 (by show a+2<_;omega)).trans hD2,(hbb.frozen (p:=(Ad (a+2) 0)) (by show a+2<_;omega)).trans hF2,(zC hbb (a+3) 0 (by show a+3<_;omega)).trans hD3,?_,by omega⟩
  . intro v hv
    rw[Jax (by omega),Jax (by omega),(zC hbb a 0 (by show a<_;omega)),hC0]at hv;obtain rfl:=osi hv;intro e;have:=HL1.out _ e;omega
  . intro o
    exact World.cell?_of_block (a:=(Ad w.heap.size o)) (q2.block w.heap.size (by rw[wsa];omega) (by intro e;have:=HL2.out _ e.symm;omega))
 clear h2 h5 hP hC hC0 hD2 hF2 hD3 hb0' h1 h3 h6 h7 h8 h9;have n0:a+1<w.heap.size:=by omega
 have HZ:Hid ((ByteArray.mk p.put.toArray).size=p.put.length):=by show _=_;simp[ByteArray.size]
 have n1:¬(a+1=w.heap.size):=by omega
 have n2:¬(w.heap.size=a+1):=by omega
 have n3:¬(a+2=w.heap.size):=by omega
 have n4:¬(w.heap.size=a+2):=by omega
 have hwrap:IntKind.i64.wrap (s.drop+p.drop)=s.drop+p.drop:=by rw[IntKind.wrap_i64];omega
 unfold JaX
 go_enter func248,ntmps248
 go_wp2_with (at_builtin;refine Lib.wpList_append_own_string _ rfl _ _ 29 9 rfl M 5 i1 underlying29 underlying9 hj hy0 hy1 hy2 _ _ _ rfl HP.out _ rfl (by rw[HZ.out];unfold maxLen;omega) (by rw[HZ.out];omega) (by simp;omega) ?_)
 intro v1 w1 hown1 hg1 _;have R:=HX.out w1 v1 hown1 hg1;obtain⟨pv,cv,rfl⟩:=Jak hown1;obtain⟨G2,B2,S2,r1,r2,r3,r4,r5,r6,r7⟩:=R;have y0:=(r6 0).trans x0;have y1:=(r6 1).trans x1;have HG2:=hdz G2;have HB2:=hdz B2;have HS2:=hdz S2;clear hown1 hg1 x0 x1 r6 G2 B2 S2 HX HL1 HL2 HP HG0 HB0 h4;have hkb:(p.keep==0)=false:=beq_eq_false_iff_ne.2 hk
 go_wp2_with (go_at_call 9999)
 refine(Jiw a _ _ HG2.out (by show s.out.length<_;omega) (by show(s.put++p.put).length<_;rw[List.length_append];exact hput)).mono ?_;rintro e w3 ⟨⟨v3,rfl⟩,G3,B3,S3⟩;have hS3:=S3 _ HS2.out;have z0:w3.cell? (Ad w.heap.size 0)=some (I6 p.keep):=(World.cell?_of_block (a:=(Ad w.heap.size 0)) hS3).trans (by rw[Jax (by omega),Jax (by omega)];exact y0);rw[hL]at G3;have HB3:=hdz (HB2.out.trans B3);have hs3:w.heap.size<=w3.heap.size:=HB3.out.size;clear S3 hS3 B3 HB2 HS2 HG2 y0 y1 r1 r2 r3 r4 r5 r7;obtain⟨m,hm⟩:∃m,m=init.length:=⟨_,rfl⟩;have hLn:L.length=m+1:=by rw[hLq,hm];simp
 have HLN:=hdz hLn
 have hbig:m+1<1000000000:=by
  have h1:L.length<=s.out.length+2:=by
   rw[←hL,JaG];simp only[List.length_append]
   split<;>split<;>simp
  omega
 have HG3:=hdz G3;have hlt3:=JbP G3;obtain⟨⟨p3,c3,u1,u2⟩,u3,_,_,_,_,_⟩:=G3;have u1':w3.cell? (Ad a 0)=some (.slice p3 (m+1) c3):=by rw[←hLn];exact u1
 have u2':w3.ownsRow M 96 3 (.slice p3 (m+1) c3) (m+1) (JaM L):=by rw[←hLn];exact u2
 obtain ⟨g,rfl⟩:∃g,p3=some (Ad g 0):=by
  rcases u2'.2 with ⟨_,h0⟩|⟨g,cap,cur,hv,_⟩
  . exact absurd h0 (by omega)
  . simp only[Value.slice.injEq]at hv
    exact⟨g,hv.1⟩
 have hgl:=(u2'.lt g rfl);have hlc:=JkF (by rw[hLq]at u2';exact u2') (show m+1=_ by rw[←hLq];exact hLn.symm);rw[←hm]at hlc;obtain⟨l0,l1,l2,l3⟩:=hlc;have HU2:=hdz u2';have hwm:IntKind.i64.wrap (((m+1:Nat):Int) - 1)=(m:Int):=by rw[IntKind.wrap_i64];omega
 have hge:(0:Int)<=(m:Int):=by omega
 have hlm:(m:Int)<((m+1:Nat):Int):=by omega
 clear u1 u2 u2' hLn hm hLq
 go_wp2_with (go_at_call 9999)
 refine(Jco q _).mono ?_;rintro e w4 ⟨rfl,hb4⟩;have G4:=JbF HG3.out hb4;have HG4:=hdz G4;have HB4:Hid (BelowG M a w w4):=HB3.out.trans (.of hb4 (by omega));have s0:=(zC hb4 w.heap.size 0 (blt w3 _ z0)).trans z0;have s1:=(zC hb4 a 0 (blt w3 _ u1')).trans u1';have sF:=(hb4.frozen (p:=(Ad a 0)) (blt w3 _ u1')).trans u3;have s2:=(zC hb4 g (m*3) (blt w3 _ l0)).trans l0;have s3:=(hb4.frozen (p:=(Ad g (m*3))) (blt w3 _ l0)).trans l3;have s4:=Jbl HU2.out hb4;have HS4:=hdz s4;have HS1:=hdz s1;have hs4:=hb4.size;clear hb4 s4 G4 u1' u3 l0 l1 l2 l3 z0;have hqd:decide (0<q.keep)=false:=decide_eq_false (by omega);rw[hqd]
 go_wp2_with (at_builtin;refine wpList_append_own_at _ rfl _ _ 94 rfl M 96 i0 (.agg #[I6 0,I6 0,.string ⟨#[]⟩]) 3 32 underlying94 hi hz0 hz1 hz2 rfl (by decide) _ _ _ rfl (HS4.out.alloc _) (Ad w4.heap.size 0) 1 1 (JaL ⟨p.keep,0,[]⟩) rfl rfl (Jer _ _ _) (Jb2 _) (by unfold maxLen;omega) (by omega) (by first | omega | (simp;omega)) ?_)
 intro v5 w5 hown5 hg5 _ _;have P5:=JeN (q:=⟨p.keep,0,[]⟩) HG4.out (show w4.cell? (Ad a 0)=some (Sl g L.length c3) by rw[HLN.out];exact HS1.out) (by show World.ownsRow _ _ _ _ _ (L.length+1) _;rw[HLN.out];exact hown5) (by show World.grownBy _ _ (Value.slice _ L.length _).ownBlock;rw[HLN.out];exact hg5);obtain⟨p5,q5,rfl⟩:=Jak hown5;obtain⟨G5,B5,t1,t2⟩:=P5;have HG5:=hdz G5;have HB5:=hdz B5;have t1':w5.cell? (Ad a 0)=some (Sl g (m+1) c3):=by rw[t1];show some (Value.slice _ L.length _)=_;rw[HLN.out]
 clear hown5 hg5 G5 B5 s0 s1 s2 s3 sF t1;go_wp2;go_end0;exact⟨⟨_,rfl⟩,HG5.out,HB4.out.trans HB5.out⟩
theorem Jua(a:Nat)(s:NSt)(p:Pt)(w:World)(h:gath M w a s)(hput:s.put.length+p.put.length<1000000000)(hd: -9223372036854775808<=s.drop+p.drop)(hd':s.drop+p.drop<9223372036854775808)(hout:s.out.length<100000000)
    (hk:p.keep≠0) (L:List Pt) (hL:JaG ⟨s.out,s.put++p.put,s.drop+p.drop⟩=L) (init:List Pt) (q:Pt) (hLq:L=init++[q]) (hq:0<q.keep) (hb0: -9223372036854775808<=q.keep+p.keep) (hb1:q.keep+p.keep<9223372036854775808) :
    Cg 248 #[(JaX p),.pointer (some (Ad (a+1) 0)),.pointer (some (Ad (a+2) 0)),.pointer (some (Ad (a+3) 0)),Pd a 0] w λe w'=>(∃v,e=.returned v)/\gath M w' a ⟨init++[⟨q.keep+p.keep,q.drop,q.put⟩],[],0⟩/\BelowG M a w w':=by
 have hM:=h.le;have hT:=h.top;obtain⟨i0,hi,hz0,hz1,hz2⟩:=info_parts Jcm;obtain⟨i1,hj,hy0,hy1,hy2⟩:=info_parts JhB;have hlt:=JbP h;have hb0':Bw w (w.alloc (Oc #[I6 p.keep,I6 p.drop,Sx p.put] 96)):=zA _ _;have HG0:=hdz (JbF h hb0');have HB0:Hid (BelowG M a w (w.alloc (Oc #[I6 p.keep,I6 p.drop,Sx p.put] 96))):=.of hb0' (by omega);have x0:(w.alloc (Oc #[I6 p.keep,I6 p.drop,Sx p.put] 96)).cell? (Ad w.heap.size 0)=some (I6 p.keep):=by simp[go_sem]
 have x1:(w.alloc (Oc #[I6 p.keep,I6 p.drop,Sx p.put] 96)).cell? (Ad w.heap.size 1)=some (I6 p.drop):=by simp[go_sem]
 obtain⟨⟨pp,c,h1,h2⟩,h3,⟨p',c',h4,h5⟩,h6,h7,h8,h9⟩:=h;have HL1:Hid (∀k,(Value.slice pp s.out.length c).ownBlock=some k->k<w.heap.size):=λk hk'=>(h2.lt k hk').2;have HL2:Hid (∀k,(Value.slice p' s.put.length c').ownBlock=some k->k<w.heap.size):=λk hk'=>(h5.lt k hk').2;have hP:(w.alloc (Oc #[I6 p.keep,I6 p.drop,Sx p.put] 96)).ownsRow M 5 1 (.slice p' s.put.length c') s.put.length (Lib.byteCells s.put):=h5.alloc _;have hC:(w.alloc (Oc #[I6 p.keep,I6 p.drop,Sx p.put] 96)).cell? (Ad (a+1) 0)=some (.slice p' s.put.length c'):=(zC hb0' (a+1) 0 (by show a+1<_;omega)).trans h4;have hC0:(w.alloc (Oc #[I6 p.keep,I6 p.drop,Sx p.put] 96)).cell? (Ad a 0)=some (.slice pp s.out.length c):=(zC hb0' a 0 (by show a<_;omega)).trans h1;have hD2:(w.alloc (Oc #[I6 p.keep,I6 p.drop,Sx p.put] 96)).cell? (Ad (a+2) 0)=some (I6 s.drop):=(zC hb0' (a+2) 0 (by show a+2<_;omega)).trans h7;have hF2:(w.alloc (Oc #[I6 p.keep,I6 p.drop,Sx p.put] 96)).frozen? (Ad (a+2) 0)=false:=(hb0'.frozen (p:=(Ad (a+2) 0)) (by show a+2<_;omega)).trans h8;have hD3:(w.alloc (Oc #[I6 p.keep,I6 p.drop,Sx p.put] 96)).cell? (Ad (a+3) 0)=some (.func (.func 247) #[] #[.pointer (some (Ad (a+1) 0)),Pd a 0,.pointer (some (Ad (a+2) 0))]):=(zC hb0' (a+3) 0 (by show a+3<_;omega)).trans h9;have HP:=hdz hP
 have HX:Hid (∀w1 v1,w1.ownsRow M 5 1 v1 (s.put.length+(ByteArray.mk p.put.toArray).size) (Lib.byteCells s.put++Lib.strCells ⟨p.put.toArray⟩)->(w.alloc (Oc #[I6 p.keep,I6 p.drop,Sx p.put] 96)).grownBy w1 (Value.slice p' s.put.length c').ownBlock ->
     gath M ((w1.setCell (Ad (a+1) 0) v1).setCell (Ad (a+2) 0) (I6 (s.drop+p.drop))) a ⟨s.out,s.put++p.put,s.drop+p.drop⟩/\BelowG M a w ((w1.setCell (Ad (a+1) 0) v1).setCell (Ad (a+2) 0) (I6 (s.drop+p.drop))) /\
     spare ((w1.setCell (Ad (a+1) 0) v1).setCell (Ad (a+2) 0) (I6 (s.drop+p.drop))) a w.heap.size /\
     w1.cell? (Ad (a+1) 0)=some (.slice p' s.put.length c')/\w1.frozen? (Ad (a+1) 0)=false/\w1.cell? (Ad (a+2) 0)=some (I6 s.drop)/\w1.frozen? (Ad (a+2) 0)=false /\
     w1.cell? (Ad (a+3) 0)=some (.func (.func 247) #[] #[.pointer (some (Ad (a+1) 0)),Pd a 0,.pointer (some (Ad (a+2) 0))]) /\
     (∀o,w1.cell? (Ad w.heap.size o)=(w.alloc (Oc #[I6 p.keep,I6 p.drop,Sx p.put] 96)).cell? (Ad w.heap.size o))/\w.heap.size<w1.heap.size):=by
  intro w1 v1 q1 q2;have hz:(ByteArray.mk p.put.toArray).size=p.put.length:=by simp[ByteArray.size]
  rw[hz]at q1;obtain⟨g1,g2,g3,g4⟩:=Jhg (q:=p.put) HG0.out hC q1 q2;obtain⟨g5,g6⟩:=JdD g1 (s.drop+p.drop);have hlow:∀k,(Value.slice p' s.put.length c').ownBlock=some k->a+4<=k:=λk hk=>Nat.le_trans hM (hP.lt k hk).1;have hbb:Below (a+4) (w.alloc (Oc #[I6 p.keep,I6 p.drop,Sx p.put] 96)) w1:=(brf _ _).grown q2 (by rw[wsa];omega) hlow;have hsz:=q2.size;rw[wsa]at hsz;refine⟨g5,HB0.out.trans (g2.trans g6),⟨by simp;omega,hlt,?_⟩,g3,g4,(zC hbb (a+2) 0 (by show a+2<_;omega)).trans hD2,(hbb.frozen (p:=(Ad (a+2) 0)) (by show a+2<_;omega)).trans hF2,(zC hbb (a+3) 0 (by show a+3<_;omega)).trans hD3,?_,by omega⟩
  . intro v hv
    rw[Jax (by omega),Jax (by omega),(zC hbb a 0 (by show a<_;omega)),hC0]at hv;obtain rfl:=osi hv;intro e;have:=HL1.out _ e;omega
  . intro o
    exact World.cell?_of_block (a:=(Ad w.heap.size o)) (q2.block w.heap.size (by rw[wsa];omega) (by intro e;have:=HL2.out _ e.symm;omega))
 clear h2 h5 hP hC hC0 hD2 hF2 hD3 hb0' h1 h3 h6 h7 h8 h9;have n0:a+1<w.heap.size:=by omega
 have HZ:Hid ((ByteArray.mk p.put.toArray).size=p.put.length):=by show _=_;simp[ByteArray.size]
 have n1:¬(a+1=w.heap.size):=by omega
 have n2:¬(w.heap.size=a+1):=by omega
 have n3:¬(a+2=w.heap.size):=by omega
 have n4:¬(w.heap.size=a+2):=by omega
 have hwrap:IntKind.i64.wrap (s.drop+p.drop)=s.drop+p.drop:=by rw[IntKind.wrap_i64];omega
 unfold JaX
 go_enter func248,ntmps248
 go_wp2_with (at_builtin;refine Lib.wpList_append_own_string _ rfl _ _ 29 9 rfl M 5 i1 underlying29 underlying9 hj hy0 hy1 hy2 _ _ _ rfl HP.out _ rfl (by rw[HZ.out];unfold maxLen;omega) (by rw[HZ.out];omega) (by simp;omega) ?_)
 intro v1 w1 hown1 hg1 _;have R:=HX.out w1 v1 hown1 hg1;obtain⟨pv,cv,rfl⟩:=Jak hown1;obtain⟨G2,B2,S2,r1,r2,r3,r4,r5,r6,r7⟩:=R;have y0:=(r6 0).trans x0;have y1:=(r6 1).trans x1;have HG2:=hdz G2;have HB2:=hdz B2;have HS2:=hdz S2;clear hown1 hg1 x0 x1 r6 G2 B2 S2 HX HL1 HL2 HP HG0 HB0 h4;have hkb:(p.keep==0)=false:=beq_eq_false_iff_ne.2 hk
 go_wp2_with (go_at_call 9999)
 refine(Jiw a _ _ HG2.out (by show s.out.length<_;omega) (by show(s.put++p.put).length<_;rw[List.length_append];exact hput)).mono ?_;rintro e w3 ⟨⟨v3,rfl⟩,G3,B3,S3⟩;have hS3:=S3 _ HS2.out;have z0:w3.cell? (Ad w.heap.size 0)=some (I6 p.keep):=(World.cell?_of_block (a:=(Ad w.heap.size 0)) hS3).trans (by rw[Jax (by omega),Jax (by omega)];exact y0);rw[hL]at G3;have HB3:=hdz (HB2.out.trans B3);have hs3:w.heap.size<=w3.heap.size:=HB3.out.size;clear S3 hS3 B3 HB2 HS2 HG2 y0 y1 r1 r2 r3 r4 r5 r7;obtain⟨m,hm⟩:∃m,m=init.length:=⟨_,rfl⟩;have hLn:L.length=m+1:=by rw[hLq,hm];simp
 have HLN:=hdz hLn
 have hbig:m+1<1000000000:=by
  have h1:L.length<=s.out.length+2:=by
   rw[←hL,JaG];simp only[List.length_append]
   split<;>split<;>simp
  omega
 have HG3:=hdz G3;have hlt3:=JbP G3;obtain⟨⟨p3,c3,u1,u2⟩,u3,_,_,_,_,_⟩:=G3;have u1':w3.cell? (Ad a 0)=some (.slice p3 (m+1) c3):=by rw[←hLn];exact u1
 have u2':w3.ownsRow M 96 3 (.slice p3 (m+1) c3) (m+1) (JaM L):=by rw[←hLn];exact u2
 obtain ⟨g,rfl⟩:∃g,p3=some (Ad g 0):=by
  rcases u2'.2 with ⟨_,h0⟩|⟨g,cap,cur,hv,_⟩
  . exact absurd h0 (by omega)
  . simp only[Value.slice.injEq]at hv
    exact⟨g,hv.1⟩
 have hgl:=(u2'.lt g rfl);have hlc:=JkF (by rw[hLq]at u2';exact u2') (show m+1=_ by rw[←hLq];exact hLn.symm);rw[←hm]at hlc;obtain⟨l0,l1,l2,l3⟩:=hlc;have HU2:=hdz u2';have hwm:IntKind.i64.wrap (((m+1:Nat):Int) - 1)=(m:Int):=by rw[IntKind.wrap_i64];omega
 have hge:(0:Int)<=(m:Int):=by omega
 have hlm:(m:Int)<((m+1:Nat):Int):=by omega
 have HM:=hdz hm;have HLQ:=hdz hLq;clear u1 u2 u2' hLn hm hLq
 go_wp2_with (go_at_call 9999)
 refine(Jco q _).mono ?_;rintro e w4 ⟨rfl,hb4⟩;have G4:=JbF HG3.out hb4;have HG4:=hdz G4;have HB4:Hid (BelowG M a w w4):=HB3.out.trans (.of hb4 (by omega));have s0:=(zC hb4 w.heap.size 0 (blt w3 _ z0)).trans z0;have s1:=(zC hb4 a 0 (blt w3 _ u1')).trans u1';have sF:=(hb4.frozen (p:=(Ad a 0)) (blt w3 _ u1')).trans u3;have s2:=(zC hb4 g (m*3) (blt w3 _ l0)).trans l0;have s3:=(hb4.frozen (p:=(Ad g (m*3))) (blt w3 _ l0)).trans l3;have s4:=Jbl HU2.out hb4;have HS1:=hdz s1;have hs4:=hb4.size;clear hb4 s4 G4 u1' u3 l0 l1 l2 l3 z0;have hqd:decide (0<q.keep)=true:=decide_eq_true (by omega);rw[hqd];have hwk:IntKind.i64.wrap (q.keep+p.keep)=q.keep+p.keep:=by rw[IntKind.wrap_i64];omega
 have HG5:Hid (gath M w4.drew a ⟨init++[q],[],0⟩):=by
  have:=JbF HG4.out (brf _ w4).drew;rw[HLQ.out]at this;exact this
 have P5:=Jtu (k:=q.keep+p.keep) HG5.out (show w4.drew.cell? (Ad a 0)=some (Sl g (m+1) c3) from HS1.out) (by rw[←HLQ.out];exact HLN.out.symm);rw[←HM.out]at P5;have HP5:=hdz P5;have HBD:=hdz HB4.out.drew;clear P5;go_wp2
 go_region
 all_goals
  go_wp2;refine bodyPost_ret (results_none rfl _ _ _) rfl ?_;exact⟨⟨_,rfl⟩,HP5.out.1,HBD.out.trans HP5.out.2⟩
theorem Jqp(a:Nat)(s:NSt)(p:Pt)(w:World)(h:gath M w a s)(hput:s.put.length+p.put.length<1000000000)(hd:0<=s.drop)(hd':s.drop+p.drop<4611686018427387904)(hp:0<=p.drop)(hk:0<=p.keep)(hout:s.out.length<100000000)
    (hkb:∀q∈s.out,0<=q.keep/\q.keep+p.keep<4611686018427387904) (hkk:p.keep<4611686018427387904) :
    Cg 248 #[JaX p,.pointer (some (Ad (a+1) 0)),.pointer (some (Ad (a+2) 0)),.pointer (some (Ad (a+3) 0)),Pd a 0] w λe w'=>(∃v,e=.returned v)/\gath M w' a (addP s p)/\BelowG M a w w':=by
 have hM:=h.le;have hT:=h.top
 by_cases hk0:p.keep=0
 . have:=add_zero a s p w h hput (by omega) (by omega) hout
   unfold addP JaX;rw[if_pos hk0,hk0];exact this
 . obtain ⟨L,hL⟩:∃L,JaG ⟨s.out,s.put++p.put,s.drop+p.drop⟩=L:=⟨_,rfl⟩
   unfold addP;rw[if_neg hk0,hL]
   have hmem:∀q∈L,0<=q.keep/\q.keep+p.keep<4611686018427387904:=by
    intro q hq;rw[←hL,JaG]at hq;simp only[List.mem_append]at hq
    rcases hq with hq|hq|hq
    . exact hkb q hq
    . split at hq
      . simp at hq
      . rw[List.mem_singleton.1 hq];exact⟨by simp,by simpa using hkk⟩
    . split at hq
      . simp at hq
      . rw[List.mem_singleton.1 hq];exact⟨by simp,by simpa using hkk⟩
   rcases List.eq_nil_or_concat L with hn|⟨init,q,hLq⟩
   . have:=JvK a s p w h hput (by omega) (by omega) hout hk0 L hL hn
     subst hn;exact this
   . have hq:=hmem q (by rw[hLq];simp)
     have hgl:L.getLast?=some q:=by rw[hLq];simp
     by_cases hqk:0<q.keep
     . have:=Jua a s p w h hput (by omega) (by omega) hout hk0 L hL init q (by simpa using hLq) hqk (by omega) (by omega)
       have e:Jbo L p.keep=init++[⟨q.keep+p.keep,q.drop,q.put⟩]:=by simp[Jbo,hqk,hLq]
       rw[e];exact this
     . have:=JrJ a s p w h hput (by omega) (by omega) hout hk0 L hL init q (by simpa using hLq) hqk
       have e:Jbo L p.keep=L++[⟨p.keep,0,[]⟩]:=by simp[Jbo,hgl,hqk]
       rw[e];exact this
theorem JvN(a:Nat)(s:NSt)(p:Pt)(w:World)(h:gath M w a s)(hput:s.put.length+p.put.length<1000000000)(hd:0<=s.drop)(hd':s.drop+p.drop<4611686018427387904)(hp:0<=p.drop)(hk:0<=p.keep)(hout:s.out.length<100000000)
    (hkb:∀q∈s.out,0<=q.keep/\q.keep+p.keep<4611686018427387904) (hkk:p.keep<4611686018427387904) :
    Cg 248 #[JaX p,.pointer (some (Ad (a+1) 0)),.pointer (some (Ad (a+2) 0)),.pointer (some (Ad (a+3) 0)),Pd a 0] w λe w'=>(∃v,e=.returned v)/\gath M w' a (addP s p)/\Below a w w' :=
 (Jqp a s p w h hput hd hd' hp hk hout hkb hkk).mono λe w' h=>⟨h.1,h.2.1,h.2.2.below⟩
theorem Jvu(a:Nat)(s:NSt)(w:World)(h:gath M w a s)(hlen:s.out.length<1000000000)(hput:s.put.length<1000000000) :
    Cg 249 #[.pointer (some (Ad (a+3) 0)),Pd a 0] w λe w'=>∃v,e=.returned v/\w'.ownsRow M 96 3 v (JaG s).length (JaM (JaG s))/\Below a w w' :=
 (Jhl a s w h hlen hput).mono λe w' h=>(by obtain⟨v,h1,h2,h3⟩:=h;exact⟨v,h1,h2,h3.below⟩)
end
section
variable {w : World}{v : Value}{ps : List Pt}{B C : Nat}
def opAt (w:World) (v:Value) (ps:List Pt):Prop :=
 ∃ p c,v=.slice p ps.length c/\ps.length<=c/\c<=maxLen/\(ps≠[]->∃b o,p=some (Ad b o)/\b<w.heap.size/\∀i q,ps[i]?=some q ->
  w.cell? (Ad b (o+i*3))=some (I6 q.keep)/\w.cell? (Ad b (o+i*3+1))=some (I6 q.drop)/\w.cell? (Ad b (o+i*3+2))=some (Sx q.put))
theorem JaJ{w':World}(h:opAt w v ps){B:Nat}(hb:Below B w w')(hB:w.heap.size<=B):opAt w' v ps:=by
 obtain⟨p,c,rfl,h1,h2,h3⟩:=h;refine⟨p,c,rfl,h1,h2,λhne=>?_⟩;obtain⟨b,o,e1,e2,e3⟩:=h3 hne;refine⟨b,o,e1,Nat.lt_of_lt_of_le e2 hb.size,λi q hi=>?_⟩;obtain⟨f1,f2,f3⟩:=e3 i q hi;exact⟨(zC hb b (o+i*3) (Nat.lt_of_lt_of_le e2 hB)).trans f1,(zC hb b (o+i*3+1) (Nat.lt_of_lt_of_le e2 hB)).trans f2,(zC hb b (o+i*3+2) (Nat.lt_of_lt_of_le e2 hB)).trans f3⟩
theorem Jgl(ps:List Pt)(i:Nat)(q:Pt)(hi:ps[i]?=some q):∀j,j<3->(JaM ps)[i*3+j]?=(JaL q)[j]?:=by
 induction ps generalizing i with
 | nil=>simp at hi
 | cons p ps ih =>
  intro j hj;have e:JaM (p :: ps)=JaL p++JaM ps:=rfl;have hl:(JaL p).length=3:=rfl;rw[e]
  cases i with
  | zero =>
   simp only[List.getElem?_cons_zero,Option.some.injEq]at hi;subst hi;rw[Nat.zero_mul,Nat.zero_add,List.getElem?_append_left (by rw[hl];exact hj)]
  | succ i =>
   rw[List.getElem?_append_right (by rw[hl];omega),hl,←ih i (by simpa using hi) j hj]
   congr 1
   omega
theorem JpL(h:w.ownsRow B 96 3 v ps.length (JaM ps)):opAt w v ps:=by
 have h':=h
 rcases h.2 with ⟨rfl,h2⟩|⟨g,cap,cur,rfl,h2,h3,h4,h5,h6,h7⟩
 . obtain rfl:ps=[]:=List.eq_nil_of_length_eq_zero h2
   exact⟨none,0,rfl,nlr _,Nat.zero_le _,λh=>absurd rfl h⟩
 . refine⟨_,cap,rfl,h4,h5,λ_=>⟨g,0,rfl,(alt h3),λi q hi=>?_⟩⟩
   have hlt:=(llt hi);have hc:=Jgl ps i q hi;refine⟨?_,?_,?_⟩
   . rw[Nat.zero_add,h'.cellAt _ (by omega)];exact hc 0 (by omega)
   . rw[Nat.zero_add,h'.cellAt _ (by omega)];exact hc 1 (by omega)
   . rw[Nat.zero_add,h'.cellAt _ (by omega)];exact hc 2 (by omega)
def opN (B:Nat) (w:World) (v:Value) (ps:List Pt):Prop:=opAt w v ps/\∀k,v.ownBlock=some k->B<=k/\∃cs fz,w.heap[k]?=some (.cells cs 96 fz)
theorem Jg6(hB:C<=B)(h:w.ownsRow B 96 3 v ps.length (JaM ps)):opN C w v ps:=by
 refine⟨JpL h,λk hk=>⟨Nat.le_trans hB (h.lt k hk).1,?_⟩⟩
 rcases h.2 with ⟨rfl,_⟩|⟨g,cap,cur,rfl,_,hg,_⟩
 . cases hk
 . obtain rfl:g=k:=osi hk
   exact⟨cur,_,hg⟩
theorem Jfl(B:Nat)(w:World):opN B w (.slice none 0 0) []:=⟨⟨none,0,rfl,nlr _,Nat.zero_le _,λh=>absurd rfl h⟩,λk hk=>by cases hk⟩
theorem opN.mono(h:opN B w v ps)(hB:C<=B):opN C w v ps:=⟨h.1,λk hk=>⟨Nat.le_trans hB (h.2 k hk).1,(h.2 k hk).2⟩⟩
def Jce (p:Pt):Prop:=0<=p.keep/\0<=p.drop
def wtP (p:Pt):Int:=p.keep+p.drop+p.put.length
def wts (ps:List Pt):Int:=(ps.map wtP).sum
theorem Jiu(ps:List Pt)(p:Pt):wts (ps++[p])=wts ps+wtP p:=by simp[wts]
theorem JfT(h:∀p∈ps,Jce p):0<=wts ps:=by
 induction ps with
 | nil=>simp[wts]
 | cons p ps ih =>
  have h1:=h p (List.mem_cons_self ..);have h2:=ih λq hq=>h q (List.mem_cons_of_mem _ hq);unfold wts at h2 ⊢;rw[List.map_cons,List.sum_cons];unfold Jce at h1;have:0<=wtP p:=by unfold wtP;omega
  omega
theorem Jly(h:∀p∈ps,Jce p)(k:Nat):wts (ps.take k)<=wts ps:=by
 have h1:wts ps=wts (ps.take k)+wts (ps.drop k):=by
  unfold wts;rw[←List.sum_append,←List.map_append,List.take_append_drop]
 have h2:=JfT (ps:=ps.drop k) λq hq=>h q (List.mem_of_mem_drop hq);omega
structure Bd (s:NSt) (T:Int) (n:Nat):Prop where
 put:(s.put.length:Int)<=T
 d0:0<=s.drop
 dT:s.drop<=T
 keep:∀q∈s.out,0<=q.keep/\q.keep<=T
 len:s.out.length<=3*n
theorem bd0:Bd nst0 0 0:=⟨by simp[nst0],by simp[nst0],by simp[nst0],by simp[nst0],by simp[nst0]⟩
theorem Bd.add{s:NSt}{T:Int}{n:Nat}(h:Bd s T n)(p:Pt)(hp:Jce p):Bd (addP s p) (T+wtP p) (n+1):=by
 obtain⟨k,d,q⟩:=p;obtain⟨p1,p2⟩:=hp;obtain⟨h1,h2,h3,h4,h5⟩:=h;have hw:wtP ⟨k,d,q⟩=k+d+q.length:=rfl;have e1:(0:Int)<=k:=p1;have e2:(0:Int)<=d:=p2;have hT:0<=T:=Int.le_trans h2 h3;rw[hw];unfold addP
 by_cases hk:k=0
 . rw [if_pos hk]
   refine⟨?_,?_,?_,?_,?_⟩
   . show((s.put++q).length:Int)<=_
     rw[List.length_append];omega
   . show 0<=s.drop+d;omega
   . show s.drop+d<=_;omega
   . intro x hx
     have:=h4 x hx;omega
   . show s.out.length<=_;omega
 . rw [if_neg hk]
   obtain⟨L,hL⟩:∃L,JaG ⟨s.out,s.put++q,s.drop+d⟩=L:=⟨_,rfl⟩
   have hm:∀x∈L,0<=x.keep/\x.keep<=T:=by
    intro x hx;rw[←hL,JaG]at hx;simp only[List.mem_append]at hx
    rcases hx with hx|hx|hx
    . exact h4 x hx
    . split at hx
      . simp at hx
      . rw[List.mem_singleton.1 hx];exact⟨by simp,hT⟩
    . split at hx
      . simp at hx
      . rw[List.mem_singleton.1 hx];exact⟨by simp,hT⟩
   have hl:L.length<=s.out.length+2:=by
    rw[←hL,JaG];simp only[List.length_append]
    split<;>split<;>simp
   have key:(∀x∈Jbo L k,0<=x.keep/\x.keep<=T+k)/\(Jbo L k).length<=L.length+1:=by
    have hsnoc:(∀x∈L++[⟨k,0,[]⟩],0<=x.keep/\x.keep<=T+k)/\(L++[(⟨k,0,[]⟩:Pt)]).length<=L.length+1:=by
     refine⟨λx hx=>?_,by simp⟩
     rcases List.mem_append.1 hx with hx|hx
     . have:=hm x hx;omega
     . rw[List.mem_singleton.1 hx];exact⟨e1,by show k<=_;omega⟩
    unfold Jbo
    split
    . rename_i q0 hq0
      split
      . rename_i hq1
        have hin:q0∈L:=List.mem_of_getLast? hq0;have:=hm q0 hin;refine⟨λx hx=>?_,by simp⟩
        rcases List.mem_append.1 hx with hx|hx
        . have:=hm x (List.dropLast_subset _ hx);omega
        . rw[List.mem_singleton.1 hx];exact⟨by show 0<=q0.keep+k;omega,by show q0.keep+k<=_;omega⟩
      . exact hsnoc
    . exact hsnoc
   rw[hL];refine⟨?_,by simp,?_,?_,?_⟩
   . show((0:Nat):Int)<=_;omega
   . show(0:Int)<=_;omega
   . intro x hx
     have:=key.1 x hx;show 0<=x.keep/\x.keep<=T+(k+d+q.length);omega
   . have:=key.2
     show(Jbo L k).length<=_;omega
theorem bds(ps:List Pt)(h:∀p∈ps,Jce p):Bd (ps.foldl addP nst0) (wts ps) ps.length:=by
 have key:∀n,n<=ps.length->Bd ((ps.take n).foldl addP nst0) (wts (ps.take n)) n:=by
  intro n
  induction n with
  | zero=>intro _;exact bd0
  | succ n ih =>
   intro hn;have:=ih (by omega);rw[List.take_succ_eq_append_getElem (by omega),List.foldl_append,Jiu];exact this.add _ (h _ (List.getElem_mem _))
 have:=key ps.length (nlr _);rwa[List.take_length]at this
theorem JeZ(v:Value)(ps:List Pt)(w:World)(hr:opAt w v ps)(hs:∀p∈ps,Jce p)(hw:wts ps<1000000000)(hl:ps.length<10000000) :
    Cg 207 #[v] w λe w'=>∃v',e=.returned v'/\w'.ownsRow w.heap.size 96 3 v' (Jap ps).length (JaM (Jap ps))/\Bw w w'/\w.heap.size+4<=w'.heap.size:=by
 obtain⟨p,c,rfl,r1,r2,r3⟩:=hr;obtain⟨n,hn⟩:∃n,n=ps.length:=⟨_,rfl⟩;rw[←hn]at r1 hl ⊢;have HN:=hdz hn;clear hn
 have R3:Hid (ps≠[]->∃b o,p=some (Ad b o)/\b<w.heap.size/\∀i q,ps[i]?=some q ->
  w.cell? (Ad b (o+i*3))=some (I6 q.keep)/\w.cell? (Ad b (o+i*3+1))=some (I6 q.drop)/\w.cell? (Ad b (o+i*3+2))=some (Sx q.put)):=r3
 have HS:=hdz hs;have HW:=hdz hw;clear r3 hs hw
 go_enter func207,ntmps207
 go_wp2_with (go_at_call 205;refine(Jgg w).mono ?_;rintro e w1 ⟨rfl,hG1,hz1,hb1⟩;have HG1:Hid (gath (w.heap.size+4) w1 w.heap.size nst0):=hG1 _ _ (brf _ _) (nlr _) (by omega);clear hz1;have HB1:=hdz hb1;clear hG1 hb1)
 go_loopw [13] (λi wr=>∃(k:Nat),k<=n/\i=.int .i64 k/\gath (w.heap.size+4) wr w.heap.size ((ps.take k).foldl addP nst0)/\Bw w wr) (λi _=>n - (intOf i).toNat)
 case atStart=>exact⟨0,Nat.zero_le _,rfl,HG1.out,HB1.out⟩
 case round =>
  obtain⟨k,hk,rfl,hg,hwr⟩:=hrel
  by_cases hlt:k<n
  . have hkr:k<ps.length:=by rw[←HN.out];exact hlt
    have hne:ps≠[]:=by intro e;rw[e]at hkr;exact absurd hkr (Nat.not_lt_zero _)
    obtain⟨b,o,rfl,hbw,hcell⟩:=R3.out hne;obtain⟨c0,c1,c2⟩:=hcell k ps[k] (lgg hkr);have g0:=(zC hwr b (o+k*3) hbw).trans c0;have g1:=(zC hwr b (o+k*3+1) hbw).trans c1;have g2:=(zC hwr b (o+k*3+2) hbw).trans c2;have hB:=bds (ps.take k) λq hq=>HS.out q (List.mem_of_mem_take hq);have hB1:=bds (ps.take (k+1)) λq hq=>HS.out q (List.mem_of_mem_take hq);have hT1:=Jly HS.out (k+1);have hT0:=Jly HS.out k;have hT2:=HW.out;have hsp:=HS.out ps[k] (List.getElem_mem _);have hts:ps.take (k+1)=ps.take k++[ps[k]]:=List.take_succ_eq_append_getElem hkr;have hlk:(ps.take k).length<=k:=by rw[List.length_take];omega
    rw[hts,Jiu]at hT1;have hnx:(ps.take (k+1)).foldl addP nst0=addP ((ps.take k).foldl addP nst0) ps[k]:=by rw[hts,List.foldl_append];rfl
    have hwp:wtP ps[k]=ps[k].keep+ps[k].drop+ps[k].put.length:=rfl;have HNX:=hdz hnx;clear hcell c0 c1 c2 hts hnx hB1;generalize ps[k]=q at *;obtain⟨s,hse⟩:∃s,s=(ps.take k).foldl addP nst0:=⟨_,rfl⟩;rw[←hse]at hg hB HNX;obtain⟨sp1,sp2⟩:=hsp;have hsize:=hwr.size;have CA:Hid (∀wx,Bw wr wx->Cg 248 #[JaX q,.pointer (some (Ad (w.heap.size+1) 0)),.pointer (some (Ad (w.heap.size+2) 0)),.pointer (some (Ad (w.heap.size+3) 0)),Pd w.heap.size 0] wx λe w'=>(∃v,e=.returned v)/\gath (w.heap.size+4) w' w.heap.size (addP s q)/\Below w.heap.size wx w'):=by
     intro wx hbx;have h1:=hB.put;have h2:=hB.d0;have h3:=hB.dT;have h5:=hB.len;exact JvN w.heap.size s q wx (JbF hg hbx) (by omega) h2 (by omega) sp2 sp1 (by omega) (λx hx=>by have:=hB.keep x hx;omega) (by omega)
    have HWR:=hdz hwr;unfold JaX at CA;clear hg hB hT1 hT0 hT2 hlk hwp hse sp1 sp2 hwr HG1 HB1
    go_wp2_with (go_at_call 248;refine(CA.out _ ((brf _ wr).alloc (nlr _) _)).mono ?_;rintro e w2 ⟨⟨v2,rfl⟩,hg2,hb2⟩;have HG2:=hdz hg2;have HB2:Hid (Bw w w2):=(HWR.out.alloc hsize _).trans hb2;clear hg2 hb2)
    go_roundw
    case rel=>exact⟨k+1,by omega,by go_num,by rw[HNX.out];exact HG2.out,HB2.out⟩
    case measure=>simp[intOf];omega
  . have e:ps.take k=ps:=List.take_of_length_le (by rw[←HN.out];omega)
    rw[e]at hg;have hB:=bds ps HS.out;have hT2:=HW.out
    have cD:Hid (Cg 249 #[.pointer (some (Ad (w.heap.size+3) 0)),Pd w.heap.size 0] wr λe w'=>∃v,e=.returned v/\w'.ownsRow (w.heap.size+4) 96 3 v (Jap ps).length (JaM (Jap ps))/\Below w.heap.size wr w') :=
     Jvu w.heap.size _ wr hg (by have:=hB.len;have:=HN.out;omega) (by have:=hB.put;omega)
    have hlt4:=JbP hg;clear e hg hB hT2 R3 HS HW HG1 HB1
    go_wp2_with (go_at_call 249;refine cD.out.mono ?_;rintro e w2 ⟨v2,rfl,ho2,hb2⟩)
    obtain⟨p2,q2,rfl⟩:=Jak ho2;go_ret;exact⟨_,rfl,JlR ho2 (by omega),hwr.trans hb2,by have:=hb2.size;omega⟩
end
def lenW (s:Int×Int) (p:Pt):Int×Int:=(IntKind.i64.wrap (s.1+IntKind.i64.wrap (p.keep+p.drop)),IntKind.i64.wrap (s.2+IntKind.i64.wrap (p.keep+p.put.length)))
def JaS (ps:List Pt):Int×Int:=ps.foldl lenW (0,0)
theorem Jct(v:Value)(ps:List Pt)(w:World)(hr:opAt w v ps)(hl:ps.length<10000000) :
    Cg 100 #[v] w (Rt w (.tuple #[I6 (JaS ps).1,I6 (JaS ps).2])):=by
 obtain⟨p,c,rfl,r1,r2,r3⟩:=hr;obtain⟨n,hn⟩:∃n,n=ps.length:=⟨_,rfl⟩;rw[←hn]at r1 hl ⊢;have HN:=hdz hn;clear hn
 have R3:Hid (ps≠[]->∃b o,p=some (Ad b o)/\b<w.heap.size/\∀i q,ps[i]?=some q ->
  w.cell? (Ad b (o+i*3))=some (I6 q.keep)/\w.cell? (Ad b (o+i*3+1))=some (I6 q.drop)/\w.cell? (Ad b (o+i*3+2))=some (Sx q.put)):=r3
 clear r3
 go_enter func100,ntmps100
 go_wp2
 go_loopw [2,3,8] (λx y i wr=>∃(k:Nat),k<=n/\i=.int .i64 k/\x=.int .i64 (JaS (ps.take k)).1/\y=.int .i64 (JaS (ps.take k)).2/\Bw w wr) (λ_ _ i _=>n - (intOf i).toNat)
 case atStart=>exact⟨0,Nat.zero_le _,rfl,rfl,rfl,brf _ _⟩
 case round =>
  obtain⟨k,hk,rfl,rfl,rfl,hwr⟩:=hrel
  by_cases hlt:k<n
  . have hkr:k<ps.length:=by rw[←HN.out];exact hlt
    have hne:ps≠[]:=by intro e;rw[e]at hkr;exact absurd hkr (Nat.not_lt_zero _)
    obtain⟨b,o,rfl,hbw,hcell⟩:=R3.out hne;obtain⟨c0,c1,c2⟩:=hcell k ps[k] (lgg hkr);have g0:=(zC hwr b (o+k*3) hbw).trans c0;have g1:=(zC hwr b (o+k*3+1) hbw).trans c1;have g2:=(zC hwr b (o+k*3+2) hbw).trans c2;have hts:JaS (ps.take (k+1))=lenW (JaS (ps.take k)) ps[k]:=by
     unfold JaS;rw[List.take_succ_eq_append_getElem hkr,List.foldl_append];rfl
    generalize ps[k]=q at *;generalize JaS (ps.take k)=AB at *;obtain⟨A,B⟩:=AB;obtain⟨K,D,U⟩:=q;unfold lenW at hts;simp only at hts g0 g1 g2 ⊢;obtain⟨x1,h1⟩:∃x,IntKind.i64.wrap (K+D)=x:=⟨_,rfl⟩;obtain⟨x2,h2⟩:∃x,IntKind.i64.wrap (K+(U.length:Int))=x:=⟨_,rfl⟩;obtain⟨y1,h3⟩:∃x,IntKind.i64.wrap (A+x1)=x:=⟨_,rfl⟩;obtain⟨y2,h4⟩:∃x,IntKind.i64.wrap (B+x2)=x:=⟨_,rfl⟩;rw[h1,h2,h3,h4]at hts;have HTS:=hdz hts;have HWR:=hdz hwr;clear hcell c0 c1 c2 hts hwr;go_wp2
    go_roundw
    case rel=>exact⟨k+1,by omega,by go_num,by rw[HTS.out],by rw[HTS.out],HWR.out.alloc HWR.out.size _⟩
    case measure=>simp[intOf];omega
  . have e:ps.take k=ps:=List.take_of_length_le (by rw[←HN.out];omega)
    rw[e];obtain⟨A,hA⟩:∃A,(JaS ps).1=A:=⟨_,rfl⟩;obtain⟨B,hB⟩:∃B,(JaS ps).2=B:=⟨_,rfl⟩;have HA:=hdz hA;have HB:=hdz hB;rw[hA,hB];clear e hA hB R3;go_wp2
    go_ret2
    exact⟨by rw[HA.out,HB.out];rfl,hwr⟩
end Go.Proofs.YtbkeomcicobohaaGreatDoor
