/-
  A part of the texts that the proof uses.
-/
import Derived.Test.YtkcpjanmemdjlaaGreatDoorPartC
set_option maxRecDepth 100000
set_option maxHeartbeats 40000000
set_option linter.all false
namespace Go.Proofs.YtkcpjanmemdjlaaGreatDoor
open Go.Proofs.Tryz Go.RowKit Go.Maps
section
attribute [local go_sem] Oper.semAt_some
theorem WO(p:Option Addr)(n c:Nat)(s:ByteArray)(w:World):Cg 73 #[.slice p n c,.string s] w λe w'=>e=.returned (.func (.func 108) #[] #[.pointer (some (Ad (w.heap.size+1) 0)),Pd w.heap.size 0])/\w'=(w.alloc (Oc #[.slice p n c] 37)).alloc (Oc #[.string s] 9):=by
 go_enter func73,ntmps73
 go_wp2;go_ret;exact⟨rfl,rfl⟩
def E7:List Pt->List UInt8->List (Pt×List UInt8)
 | [],_=>[]
 | p :: ps,s=>(p,s.take (Ab p).toNat) :: E7 ps (s.drop (Ab p).toNat)
def GQ:List Pt->List UInt8->List UInt8
 | [],s=>s
 | p :: ps,s=>GQ ps (s.drop (Ab p).toNat)
theorem gc(ps:List Pt)(p:Pt)(s:List UInt8):GQ (ps++[p]) s=(GQ ps s).drop (Ab p).toNat:=by
 induction ps generalizing s with
 | nil=>rfl
 | cons q ps ih=>exact ih _
theorem Sg(a b:List Pt)(s:List UInt8):E7 (a++b) s=E7 a s++E7 b (GQ a s):=by
 induction a generalizing s with
 | nil=>rfl
 | cons q a ih=>simp[E7,GQ,ih]
def LL:List Pt->List UInt8->Prop
 | [],_=>True
 | p :: ps,s=>0<=p.keep/\0<=p.drop/\Ab p<=s.length/\LL ps (s.drop (Ab p).toNat)
theorem cy(ps:List Pt)(s:List UInt8)(h:LL ps s)(k:Nat)(a:k<ps.length):0<=ps[k].keep/\0<=ps[k].drop/\Ab ps[k]<=(GQ (ps.take k) s).length:=by
 induction ps generalizing s k with
 | nil=>simp at a
 | cons p ps ih =>
  obtain⟨d,e,b,c⟩:=h
  cases k with
  | zero=>exact⟨d,e,b⟩
  | succ k=>exact ih _ c k (by simpa using a)
theorem dn(ps:List Pt)(s:List UInt8):(GQ ps s).length<=s.length:=by
 induction ps generalizing s with
 | nil=>exact Ai _
 | cons p ps ih =>
  have:=ih (s.drop (Ab p).toNat);rw[AM]at this;show(GQ ps _).length<=_;omega
theorem Wr(l:List UInt8)(n:Nat):(ByteArray.mk l.toArray).extract 0 n=⟨(l.take n).toArray⟩:=by
 apply EZ;simp
theorem Ws(l:List UInt8)(n:Nat):(ByteArray.mk l.toArray).extract n l.length=⟨(l.drop n).toArray⟩:=by
 apply EZ;have:List.take (l.length - n) (l.drop n)=l.drop n:=AQ (by rw[AM];exact Ai _);simp[this]
theorem WP(v:Value)(ps:List Pt)(s:List UInt8)(hs:s.length<1000000000)(hl:ps.length<10000000)(hf:LL ps s)(R:Nat->Prop)(O:Nat)(W:World)
    (h0:W.cell? (Ad O 0)=some v) (h1:W.cell? (Ad (O+1) 0)=some (Sx s)) (hop:Ae W v ps) (hR0:R O) (hR1:R (O+1)) (N:∀b o n c,v=.slice (some (Ad b o)) n c->ps≠[]->R b) (hRl:∀x,R x->x<W.heap.size) (Z:World->Prop) :
    Q4 prog 108 #[.pointer (some (Ad (O+1) 0)),Pd O 0] (λ_ (x:Pt×List UInt8)=>#[Cv x.1,Sx x.2]) (λA B=>Bw A B/\W.heap.size<=A.heap.size) (λA B=>A.heap.size<=B.heap.size/\∀x,R x->B.heap[x]?=A.heap[x]?) Z
     (λxs=>xs=E7 ps s) (λpre=>∃rest,E7 ps s=pre++rest) W:=by
 intro l J Jx hZ hZx hJ hJx hR hj0;have hlt0:=Ca W _ h0;have hlt1:=Ca W _ h1;obtain⟨p,c,rfl,r1,r2,r3⟩:=hop;obtain⟨n,hn⟩:∃n,n=ps.length:=⟨_,rfl⟩;rw[←hn]at r1 hl h0 N;have HN:=Aa hn
 have R3:Hid (ps≠[]->∃b o,p=some (Ad b o)/\b<W.heap.size/\∀i q,ps[i]?=some q ->
  W.cell? (Ad b (o+i*3))=some (I6 q.keep)/\W.cell? (Ad b (o+i*3+1))=some (I6 q.drop)/\W.cell? (Ad b (o+i*3+2))=some (Sx q.put)):=r3
 have HF:=Aa hf;have HSL:=Aa hs;have HRV:Hid (∀b o,p=some (Ad b o)->ps≠[]->R b):=λb o e=>N b o n c (by rw[e]);have HRL:=Aa hRl;clear r3 hf hn hs N hRl;refine callsIn_of_wp func108 rfl trivial ?_ rfl;simp only[ntmps108,EL,AJ,AR,Nat.reduceAdd,Nat.reduceSub,Array.replicate_succ,FD,FP,ET,BA,BR]
 gi_wp2
 gi_loopw [4,11] (λrest i wr=>∃(k:Nat),k<=n/\i=I6 k/\rest=Sx (GQ (ps.take k) s)/\W.heap.size<=wr.heap.size/\(∀x,R x->wr.heap[x]?=W.heap[x]?)/\J (E7 (ps.take k) s) wr) (λ_ i _=>n - (intOf i).toNat)
 case atStart=>exact⟨0,AV _,rfl,rfl,Ai _,λ_ _=>rfl,hj0⟩
 case round =>
  obtain⟨k,hk,rfl,rfl,H,d,j⟩:=hrel
  by_cases hlt:k<n
  . have f : k<ps.length:=by rw[←HN.out];exact hlt
    have X:ps≠[]:=by intro e;rw[e]at f;exact absurd f (AP _)
    obtain⟨b,o,rfl,hbw,g⟩:=R3.out X;obtain⟨c0,c1,c2⟩:=g k ps[k] (B7 f);have u:=d b (HRV.out b o rfl X);have g0:=(AE (w:=W) (w':=wr) (a:=(Ad b (o+k*3))) u).trans c0;have g1:=(AE (w:=W) (w':=wr) (a:=(Ad b (o+k*3+1))) u).trans c1;have g2:=(AE (w:=W) (w':=wr) (a:=(Ad b (o+k*3+2))) u).trans c2;obtain⟨f1,f2,f3⟩:=cy ps s HF.out k f;have hll:=dn (ps.take k) s;have hs9:=HSL.out;have L:ps.take (k+1)=ps.take k++[ps[k]]:=AD f;have t:E7 (ps.take (k+1)) s=E7 (ps.take k) s++[(ps[k],(GQ (ps.take k) s).take (Ab ps[k]).toNat)]:=by rw[L,Sg];rfl
    have z:GQ (ps.take (k+1)) s=(GQ (ps.take k) s).drop (Ab ps[k]).toNat:=by rw[L,gc]
    have y:∃rest,E7 ps s=(E7 (ps.take k) s++[(ps[k],(GQ (ps.take k) s).take (Ab ps[k]).toNat)])++rest:=by
     rw[←t];refine⟨E7 (ps.drop (k+1)) (GQ (ps.take (k+1)) s),?_⟩;rw[←Sg,AW]
    generalize ps[k]=q at *;generalize GQ (ps.take k) s=T at *;obtain⟨K,D,U⟩:=q;have C:Ab ⟨K,D,U⟩=K+D:=rfl;rw[C]at f3 t z y;simp only at f1 f2 g0 g1 g2;obtain⟨m,hm⟩:∃m:Nat,K+D=m:=⟨(K+D).toNat,by omega⟩;have hm':(K+D).toNat=m:=by omega
    rw[hm']at t z y;rw[hm]at f3;have hwm:IntKind.i64.wrap (K+D)=(m:Int):=by rw[BG];omega
    have hmT:m<=T.length:=by omega
    have hmi:(m:Int)<=(T.length:Int):=by omega
    have hm0:(0:Int)<=(m:Int):=by omega
    have P:=Wr T m;have e2:=Ws T m;have HJP:=Aa j;have HSP:=Aa y;have HPN:=Aa t;have HLN:=Aa z;have G:=Aa d;clear g c0 c1 c2 L t z y j C u d hm' f3 hll hs9 hm;have r:Bw wr (wr.alloc (Oc #[I6 K,I6 D,Sx U] 87)).drew:=(zA _ _).drew;obtain⟨fn,tmps,assign,body,S,Y⟩:=hR (E7 (ps.take k) s) (⟨K,D,U⟩,T.take m) _ (hJ _ _ _ HJP.out ⟨r,H⟩) HSP.out;unfold Cv at S
    gi_wp2
    have F:=Y.mono (λe E HH=>(⟨HH,by rcases HH with ⟨rfl,_⟩|⟨rfl,_⟩;exact⟨true,rfl⟩;exact⟨false,rfl⟩⟩:_/\∃bb:Bool,e=.returned (.bool bb)))
    gi_region_with (refine⟨rfl,F.mono ?_⟩;rintro e E ⟨HH,bb,rfl⟩)
    all_goals
     have I:(bb=true/\J (E7 (ps.take k) s++[(⟨K,D,U⟩,T.take m)]) E/\wr.heap.size<=E.heap.size/\∀x,R x->E.heap[x]?=wr.heap[x]?)\/(bb=false/\Jx (E7 (ps.take k) s++[(⟨K,D,U⟩,T.take m)]) E):=by
      rcases HH with ⟨P,e2,e3,e4⟩|⟨P,e2,_⟩
      . simp only[Ending.returned.injEq,Value.bool.injEq]at P
        refine .inl ⟨P,e2,AF r.size e3,λx Q=>(e4 x Q).trans ?_⟩;have hxl:x<wr.heap.size:=by
         rcases CQ x wr.heap.size with h|h
         . exact h
         . exact absurd (HRL.out x Q) (by have:=H;omega)
        exact r.block x hxl
      . simp only[Ending.returned.injEq,Value.bool.injEq]at P
        exact .inr ⟨P,e2⟩
     clear HH Y F S
     rcases I with ⟨rfl,hj2,hs2,hk2⟩|⟨rfl,hjx⟩
     . have HJ2:Hid (J (E7 (ps.take (k+1)) s) E):=by show J _ _;rw[HPN.out];exact hj2
       have HK2:Hid (∀x,R x->E.heap[x]?=W.heap[x]?):=λx Q=>(hk2 x Q).trans (G.out x Q);have hs3:W.heap.size<=E.heap.size:=AF H hs2;clear hj2 hk2 g0 g1 g2 r
       gi_wp2
       go_roundw
       case rel=>exact⟨k+1,by omega,by go_num,by rw[HLN.out],hs3,HK2.out,HJ2.out⟩
       case measure=>simp[intOf];omega
     . have HJX:=Aa hjx
       clear hjx g0 g1 g2 r
       gi_wp2
       refine bodyPost_ret (results_none rfl _ _ _) rfl ?_;exact⟨⟨_,rfl⟩,.inr ⟨_,HSP.out,HJX.out⟩⟩
  . have e:ps.take k=ps:=AQ (by rw[←HN.out];omega)
    rw[e]at j;have HJ:=Aa j;clear e j R3 HF
    gi_wp2
    go_end0;exact⟨⟨_,rfl⟩,.inl ⟨_,rfl,HJ.out⟩⟩
variable {ps : List Pt}{s : List UInt8}
def LX (b:UInt8):Bool:=Lib.runeStart (b.toNat:Int)
def GS (l:List UInt8):Bool:=match l with
 | []=>false
 | b :: _=>!LX b
def C9:List Pt->List UInt8->Bool
 | [],_=>false
 | p :: ps,s=>GS (s.take (Ab p).toNat) || C9 ps (s.drop (Ab p).toNat)
theorem bj(ps:List Pt)(s:List UInt8):C9 ps s=(E7 ps s).any λx=>GS x.2:=by
 induction ps generalizing s with
 | nil=>rfl
 | cons p ps ih=>simp[C9,E7,ih]
theorem LC{n:Int}(h:chkE ps n=0):∀p∈ps,Ek p:=by
 unfold chkE at h
 split at h
 . rename_i h1
   exact λp a=>(KC (Om h1 p a).1).1
 . rename_i h1
   exact absurd h h1
theorem em(a:∀p∈ps,Ek p)(h:D9 ps (s.length:Int)=0):LL ps s/\GQ ps s=[]:=by
 induction ps generalizing s with
 | nil =>
  unfold D9 at h;refine⟨trivial,?_⟩
  split at h
  . exact BC (by show s.length=0;omega)
  . cases h
 | cons p ps ih =>
  unfold D9 at h;have i:=a p (EO ..);obtain⟨f,g⟩:=i
  split at h
  . cases h
  . rename_i h3
    have j:Ab p=p.keep+p.drop:=rfl;have e:((s.drop (Ab p).toNat).length:Int)=(s.length:Int) - (p.keep+p.drop):=by rw[AM];omega
    rw[←e]at h;obtain⟨c,d⟩:=ih (λq b=>a q (DS _ b)) h;exact⟨⟨f,g,by omega,c⟩,d⟩
theorem Um(h:chkE ps (s.length:Int)=0):LL ps s/\GQ ps s=[]:=by
 have a:=LC h;unfold chkE at h
 split at h
 . exact em a h
 . rename_i h1;exact absurd h h1
def ordE (ps:List Pt) (s:List UInt8):Int:=if chkE ps (s.length:Int)=0 then (if C9 ps s then 10 else 0) else chkE ps (s.length:Int)
theorem Oj(s:List UInt8):(ByteArray.mk s.toArray).size=s.length:=by simp[ByteArray.size]
theorem kw(v:Value)(ps:List Pt)(s:List UInt8)(w:World)(h:Lib.Utf8Tabs 1 2 w)(i:Ae w v ps)(d:∀p∈ps,Cp p)(o:s.length<1000000000)(m:ps.length<10000000)(k:chkE ps (s.length:Int)≠0) :
    Cg 72 #[v,Sx s] w (Rt w (Ao (ordE ps s))):=by
 have g:Hid (∀b,Bw w b->Cg 68 #[v,I6 (s.length:Int)] b (Rt b (Ao (chkE ps (s.length:Int))))):=λb f=>L3 v ps _ b (Go.Proofs.Utf8Tabs_below h f) (Ec i f (Ai _)) d (by omega) m;unfold ordE;rw[if_neg k];have l:Ao (chkE ps (s.length:Int))=.iface 30 (I6 (chkE ps (s.length:Int))):=by unfold Ao;rw[if_neg k]
 rw[l]at g ⊢;generalize chkE ps (s.length:Int)=E at *;obtain⟨p,c,rfl,_⟩:=i;clear h d l
 go_enter func72,ntmps72
 go_wp2_with (go_at_call 68;refine(g.out _ (zA _ _)).mono ?_;rintro e j ⟨rfl,a⟩;have n:j.cell? (Ad w.heap.size 0)=some .nilIface:=(zC a w.heap.size 0 (by simp)).trans (by simp[go_sem]);have q:j.frozen? (Ad w.heap.size 0)=false:=(a.frozen (p:=(Ad w.heap.size 0)) (by simp)).trans (by simp[go_sem]))
 refine bodyPost_ret (v:=.iface 30 (I6 E)) (by simp[results,results72,go_sem,n]) rfl ?_;exact⟨rfl,((zA _ _).trans (a.mono (by simp))).setCell (p:=(Ad w.heap.size 0)) (Ai _) _⟩
theorem lh(v:Value)(ps:List Pt)(s:List UInt8)(w:World)(hT:Lib.Utf8Tabs 1 2 w)(hr:Ae w v ps)(hwf:∀p∈ps,Cp p)(hs:s.length<1000000000)(hl:ps.length<10000000)(he:chkE ps (s.length:Int)=0) :
    Cg 72 #[v,Sx s] w (Rt w (Ao (ordE ps s))):=by
 have cC:Hid (∀C,Bw w C->Cg 68 #[v,I6 (s.length:Int)] C (Rt C (Ao (chkE ps (s.length:Int))))):=λC u=>L3 v ps _ C (Go.Proofs.Utf8Tabs_below hT u) (Ec hr u (Ai _)) hwf (by omega) hl;obtain⟨N,hleft⟩:=Um he;unfold ordE;rw[if_pos he];have hV:Ao (chkE ps (s.length:Int))=.nilIface:=by unfold Ao;rw[if_pos he]
 rw[hV]at cC;have HF:=Aa N;have HR:=Aa hr;have HSL:=Aa hs;have HLP:=Aa hl;have HBO:=Aa (bj ps s);obtain⟨BB,hBB⟩:∃BB,C9 ps s=BB:=⟨_,rfl⟩;have HBB:=Aa hBB;rw[hBB];obtain⟨V,hV0⟩:∃V,Ao (if BB=true then 10 else 0)=V:=⟨_,rfl⟩;have HV:=Aa hV0;rw[hV0];clear hV0;have O:∀x o n c,v=.slice (some (Ad x o)) n c->ps≠[]->x<w.heap.size:=by
  intro x o n c e Q;obtain⟨p,c',rfl,_,_,y⟩:=hr;obtain⟨b,o',e1,e2,_⟩:=y Q;simp only[Value.slice.injEq]at e;rw[e.1]at e1;simp only[Option.some.injEq,Addr.mk.injEq]at e1;rw[e1.1];exact e2
 have HROW:=Aa O;obtain⟨p,c,rfl,_⟩:=hr;clear hT hwf hV N hleft O he hBB;have cO:=λ(C:World)=>WO p ps.length c ⟨s.toArray⟩ C;refine(callsIn_wide (n:=3)).1 ?_;refine callsIn_of_wp_marks func72 rfl trivial ?_ rfl;simp only[ntmps72,EL,AJ,AR,Nat.reduceAdd,Nat.reduceSub,Array.replicate_succ,FD,FP,ET,BA,BR]
 gi_wp2_with (first
  | (refine⟨trivial,?_⟩;gi_at_call 68;refine(callsIn_wide.2 (cC.out _ (zA _ _))).mono ?_;rintro e J ⟨rfl,g⟩;have c0:J.cell? (Ad w.heap.size 0)=some .nilIface:=(zC g w.heap.size 0 (by simp)).trans (by simp[go_sem]);have c1:J.frozen? (Ad w.heap.size 0)=false:=(g.frozen (p:=(Ad w.heap.size 0)) (by simp)).trans (by simp[go_sem]))
  | (refine⟨trivial,?_⟩;gi_at_call 73;refine(callsIn_wide.2 (cO _)).mono ?_;rintro e w13 ⟨rfl,rfl⟩))
 have R:Bw w J:=(zA _ _).trans (g.mono (by simp));have H:w.heap.size<J.heap.size:=Ca J _ c0;obtain⟨d,E⟩:∃d,J.heap.size=d:=⟨_,rfl⟩;obtain⟨I,m⟩:∃I,I=(J.alloc (Oc #[.slice p ps.length c] 37)).alloc (Oc #[Sx s] 9):=⟨_,rfl⟩;have F:Bw w I:=by rw[m];exact(R.alloc R.size _).alloc (by simp;omega) _
 have f:I.heap.size=d+2:=by rw[m,←E];simp
 have k0:I.cell? (Ad d 0)=some (.slice p ps.length c):=by rw[m,←E];simp[go_sem]
 have k1:I.cell? (Ad (d+1) 0)=some (Sx s):=by rw[m,←E];simp[go_sem]
 have K:I.cell? (Ad w.heap.size 0)=some .nilIface:=by
  have hB:Bw J I:=by rw[m];exact(zA _ _).alloc (by simp) _
  exact(zC hB w.heap.size 0 H).trans c0
 have L:I.frozen? (Ad w.heap.size 0)=false:=by
  have hB:Bw J I:=by rw[m];exact(zA _ _).alloc (by simp) _
  exact(hB.frozen (p:=(Ad w.heap.size 0)) H).trans c1
 rw[←m,E];rw[E]at H;clear m cC cO c0 c1 R g E
 refine ai (gf:=108) (lb:=#[.pointer (some (Ad (d+1) 0)),Pd d 0]) rfl (enters_of func108 (by kernel_rfl) rfl) (encs:=λ_ (x:Pt×List UInt8)=>#[Cv x.1,Sx x.2]) (λ_ _=>rfl)
  (It:=λA B=>Bw A B/\d+4<=A.heap.size) (Kp:=λA B=>A.heap.size<=B.heap.size/\∀x,(x=d\/x=d+1\/x<w.heap.size)->B.heap[x]?=A.heap[x]?) (Z:=λ_=>True) (S:=λxs=>xs=E7 ps s) (Sp:=λa=>∃rest,E7 ps s=a++rest)
  ?seq ?its (λh k=>⟨AF h.1 k.1,λx hx=>(k.2 x hx).trans (h.2 x hx)⟩) ?hkb
  (λa W=>Bw w W/\d+4<=W.heap.size/\W.cell? (Ad w.heap.size 0)=some .nilIface/\W.frozen? (Ad w.heap.size 0)=false/\(a.any λx=>GS x.2)=false)
  (λk a W=>k=.ret/\Bw w W/\d+4<=W.heap.size/\W.cell? (Ad w.heap.size 0)=some (.iface 30 (I6 10))/\(a.any λx=>GS x.2)=true) (λ_ _ _=>trivial) (λ_ _ _ _=>trivial) ?ii ?ib ?ix ?ixb ?h0 ?round ?done ?stop
 case seq =>
  intro W hs1 g;rw[f]at hs1 g;have hb9:Bw w W:=F.trans (g.mono (by omega));have:=WP (.slice p ps.length c) ps s HSL.out HLP.out HF.out (λx=>(x=d\/x=d+1\/x<w.heap.size)) d W ((zC g d 0 (by show d<_;omega)).trans k0) ((zC g (d+1) 0 (by show d+1<_;omega)).trans k1) (Ec HR.out hb9 (Ai _)) (.inl rfl) (.inr (.inl rfl)) (λb o n c' e Q=>.inr (.inr (HROW.out b o n c' e Q))) (by rintro x (rfl|rfl|hx)<;>omega) (λ_=>True);rw[hs1]at this;exact this
 case its=>exact λA B h=>Same2.of_below h.1 (by rw[f];omega)
 case hkb =>
  intro A r;rw[f];exact⟨by simp,λx hx=>CJ (by omega)⟩
 case ii =>
  rintro a A B ⟨i,G,y,h4,z⟩ ⟨u,hA⟩;exact⟨i.trans (u.mono i.size),AF G u.size,(zC u w.heap.size 0 (by show w.heap.size<_;omega)).trans y,(u.frozen (p:=(Ad w.heap.size 0)) (by show w.heap.size<_;omega)).trans h4,z⟩
 case ib =>
  rintro a A r ⟨i,G,y,h4,z⟩;rw[f];have D:=Put1.putObj (d+2+1) A (.loop r);exact⟨i.trans (D.below (by omega)),by rw[D.size];exact G,(D.cell (by omega)).trans y,(D.frozen (by omega)).trans h4,z⟩
 case ix =>
  rintro k a A B ⟨h0,i,G,y,z⟩ ⟨u,hA⟩;exact⟨h0,i.trans (u.mono i.size),AF G u.size,(zC u w.heap.size 0 (by show w.heap.size<_;omega)).trans y,z⟩
 case ixb =>
  rintro k a A r ⟨h0,i,G,y,z⟩;rw[f];have D:=Put1.putObj (d+2+1) A (.loop r);exact⟨h0,i.trans (D.below (by omega)),by rw[D.size];exact G,(D.cell (by omega)).trans y,z⟩
 case h0 =>
  rintro W hs u _;rw[f]at hs u;exact⟨F.trans (u.mono (by omega)),by omega,(zC u w.heap.size 0 (by show w.heap.size<_;omega)).trans K,(u.frozen (p:=(Ad w.heap.size 0)) (by show w.heap.size<_;omega)).trans L,rfl⟩
 case round =>
  rintro l a x W ⟨i,G,y,h4,z⟩ hlW hSp;rw[f]at hlW ⊢;obtain⟨q,T⟩:=x;have HP5:=Aa z;have HB:=Aa i;clear z hSp i k0 k1 K L F;unfold Cv
  gi_wp2
  refine⟨Same2.refl _ W,⟨Ai _,λ_ _=>trivial⟩,?_⟩;intro w2 D _;have P:d+4<=w2.heap.size:=by rw[D.size];exact G
  have y3:=(D.cell (b:=w.heap.size) (o:=0) (by omega)).trans y;have y4:=(D.frozen (b:=w.heap.size) (o:=0) (by omega)).trans h4;have HB2:Hid (Bw w w2):=HB.out.trans (D.below (by omega));clear y h4 D hlW
  cases T with
  | nil =>
   gi_wp2_with (refine⟨trivial,?_⟩)
   exact⟨Same2.refl _ _,⟨Ai _,λ_ _=>rfl⟩,HB2.out,P,y3,y4,by rw[FL,HP5.out];rfl⟩
  | cons b T =>
   have cR:∀C,Cg 107 #[.int .u8 (((ByteArray.mk (b :: T).toArray)[0]'(by simp[ByteArray.size])).toNat:Int)] C λe w'=>e=.returned (.bool (LX b))/\w'=C:=λC=>utf8_RuneStart (b.toNat:Int) C (by omega) (by have:=b.toNat_lt;omega)
   by_cases t:LX b=true
   . rw [t]at cR
     have X:Hid (((a++[(q,b :: T)]).any λx=>GS x.2)=false):=by
      show _=_;rw[FL,HP5.out];simp[GS,t]
     clear t
     gi_wp2_with (refine⟨trivial,rfl,?_⟩;refine(EN l (callsIn_wide.2 (cR _))).mono ?_;rintro e C ⟨rfl,Y⟩;obtain rfl:=Y.symm)
     exact⟨Same2.refl _ _,⟨Ai _,λ_ _=>rfl⟩,HB2.out,P,y3,y4,X.out⟩
   . have t:LX b=false:=Bool.eq_false_iff.2 t
     rw[t]at cR;have X:Hid (((a++[(q,b :: T)]).any λx=>GS x.2)=true):=by
      show _=_;rw[FL];simp[GS,t]
     clear t
     gi_wp2_with (refine⟨trivial,rfl,?_⟩;refine(EN l (callsIn_wide.2 (cR _))).mono ?_;rintro e C ⟨rfl,Y⟩;obtain rfl:=Y.symm)
     refine⟨(Same2.refl _ _).setCell (by show w.heap.size≠_;omega) (by show w.heap.size≠_;omega) _,⟨by simp,λx hx=>?_⟩,rfl,HB2.out.setCell (p:=(Ad w.heap.size 0)) (Ai _) _,by simpa using P,AU _ _ _ y3,X.out⟩;exact BF _ _ _ _ (by show x≠w.heap.size;omega)
 case done =>
  rintro xs W rfl ⟨i,G,y,h4,z⟩ j;rw[f]at j ⊢;have HB:=Aa i;have HE:Hid (BB=false):=by
   show _=_;rw[←HBB.out,HBO.out];exact z
  clear i z k0 k1 K L F
  gi_wp2
  have U:(W.setCell (Ad w.heap.size 0) .nilIface).heap[d+2]?=some (.deferred (some [])):=(BF _ _ _ _ (by show d+2≠w.heap.size;omega)).trans j;have hP:=Put1.putObj (d+2) (W.setCell (Ad w.heap.size 0) .nilIface) (.deferred none);have p0:=(hP.cell (b:=w.heap.size) (o:=0) (by omega)).trans (AU _ _ .nilIface y);refine⟨by simp,.inl ⟨_,_,rfl,run_takeDeferred U,?_⟩⟩;refine⟨.nilIface,by simp[results,results72,go_sem,p0],?_,(HB.out.setCell (p:=(Ad w.heap.size 0)) (Ai _) _).trans (hP.below (by omega))⟩;rw[←HV.out,HE.out];rfl
 case stop =>
  rintro k a W ⟨rest,hsp⟩ ⟨rfl,i,G,y,z⟩ j;rw[f]at j ⊢;have HB:=Aa i;have HE:Hid (BB=true):=by
   show _=_;rw[←HBB.out,HBO.out,hsp,FL,z];rfl
  clear i z k0 k1 K L F
  gi_wp2
  have hP:=Put1.putObj (d+2) W (.deferred none);have p0:=(hP.cell (b:=w.heap.size) (o:=0) (by omega)).trans y;refine⟨by simp,.inl ⟨_,_,rfl,run_takeDeferred j,?_⟩⟩;refine⟨.iface 30 (I6 10),by simp[results,results72,go_sem,p0],?_,HB.out.trans (hP.below (by omega))⟩;rw[←HV.out,HE.out];rfl
theorem aK(v:Value)(ps:List Pt)(s:List UInt8)(w:World)(b:Lib.Utf8Tabs 1 2 w)(c:Ae w v ps)(a:∀p∈ps,Cp p)(f:s.length<1000000000)(d:ps.length<10000000) :
    Cg 72 #[v,Sx s] w (Rt w (Ao (ordE ps s))):=by
 by_cases e:chkE ps (s.length:Int)=0
 . exact lh v ps s w b c a f d e
 . exact kw v ps s w b c a f d e
end
end Go.Proofs.YtkcpjanmemdjlaaGreatDoor
namespace Go.Proofs
open Go.Shelf
def Tryz.lays169_ren:Go.Shelf.Ren:=⟨λ| 169=>76 | n=>n,λ| 70=>145 | 9=>9 | 0=>0 | 72=>148 | 37=>146 | 127=>194 | 3=>3 | 5=>5 | n=>n,λ| n=>n⟩
theorem Tryz.lays169:Go.Proofs.Lays.n169 Tryz.prog Tryz.lays169_ren:={
 mixed:=by kernel_rfl
 f169:=Tryz.func76.trans (congrArg some (by kernel_rfl))
 t0:=Tryz.underlying0
 a0:=Tryz.isAgg0
 z0:=Tryz.sizeOf0
 v0:=Tryz.zeroValue0
 t3:=Tryz.underlying3
 a3:=Tryz.isAgg3
 z3:=Tryz.sizeOf3
 v3:=Tryz.zeroValue3
 t9:=Tryz.underlying9
 a9:=Tryz.isAgg9
 z9:=Tryz.sizeOf9
 v9:=Tryz.zeroValue9
 t37:=Tryz.underlying146
 a37:=Tryz.isAgg146
 z37:=Tryz.sizeOf146
 v37:=Tryz.zeroValue146
 t70:=Tryz.underlying145
 a70:=Tryz.isAgg145
 z70:=Tryz.sizeOf145
 v70:=Tryz.zeroValue145
 t72:=Tryz.underlying148
 a72:=Tryz.isAgg148
 z72:=Tryz.sizeOf148
 v72:=Tryz.zeroValue148
 t127:=Tryz.underlying194
 a127:=Tryz.isAgg194
 z127:=Tryz.sizeOf194
 v127:=Tryz.zeroValue194 }
theorem Tryz.Builder_Extra_169:Builder.Extra Tryz.prog Tryz.lays169_ren:={
 sizeBuilder:=by kernel_rfl
 liesBuilder:=by kernel_rfl
 t5:=Tryz.underlying5
 a5:=Tryz.isAgg5
 z5:=Tryz.sizeOf5
 v5:=Tryz.zeroValue5
 infoByte:=by kernel_rfl
 cellsByte:=by kernel_rfl
 sizeByte:=by kernel_rfl
 neB5:=by decide }
end Go.Proofs
namespace Go.Proofs.YtkcpjanmemdjlaaGreatDoor
open Go.Proofs.Tryz Go.RowKit Go.Maps
theorem ah:(prog.info? 148).map (·.size)=some 2:=by kernel_rfl
theorem kt:liesAt prog prog.depth 148 (2 / prog.cellsOf 148) 0 148 1=true:=by kernel_rfl
theorem lx(b:Nat)(w:World)(m:w.cell? (Ad b 0)=some (.pointer none))(a:w.shape? b=some (148,2))(h:w.frozen? (Ad b 0)=false) :
    Cg 109 #[Pd b 0] w λe w'=>e=.returned (.tuple #[])/\w'=w.setCell (Ad b 0) (Pd b 0):=by
 obtain⟨j,d,c⟩:=Option.map_eq_some_iff.1 ah;have f:=λw=>Lib.run_to_unsafe (P:=prog) w (Ad b 0) underlying145 underlying232 d (by rw[c];decide) (e:=148) (cells:=2);have l:=Lib.run_from_unsafe (P:=prog) w (Ad b 0) underlying232 underlying145 d a kt;have k:=f w a (Nat.zero_lt_succ 1);have g:=@run_callFunc_extern prog 152 _ Extern.AbiNoEscape.same func152 (by kernel_rfl) (by kernel_rfl) (by kernel_rfl) (by kernel_rfl);have i:=λ(x:Value) (w:World)=>Lib.run_noEscape (P:=prog) w x;clear f
 go_enter func109,ntmps109
 go_wp2;go_end0;exact⟨rfl,rfl⟩
theorem li(b:Nat)(w:World)(d:w.cell? (Ad b 0)=some (Pd b 0)) :
    Cg 109 #[Pd b 0] w λe w'=>e=.returned (.tuple #[])/\w'=w:=by
 obtain⟨j,c,_⟩:=Option.map_eq_some_iff.1 ah;have a:=Lib.run_neq_ptr_same (P:=prog) w (Ad b 0) underlying145 c
 go_enter func109,ntmps109
 go_wp2;go_end0;exact⟨rfl,rfl⟩
theorem ky(B b:Nat)(a:List Value)(w:World)(h:Lib.IsBuilder 148 5 B b a w) :
    Cg 109 #[Pd b 0] w λe w'=>e=.returned (.tuple #[])/\(Lib.BuilderAt 148 5 B b (Pd b 0) a w'/\Below B w w'/\Lib.OthersKept 5 (some b) w w'):=by
 rcases h with h|h
 . refine(lx b w h.cell0 h.shape h.frozen0).mono ?_
   rintro e w' ⟨rfl,rfl⟩;exact⟨rfl,h.used _,(A9 B w).setCell (p:=(Ad b 0)) h.1 _,(Lib.OthersKept.refl _ _ w).setCell (Ad b 0) rfl _⟩
 . refine(li b w h.cell0).mono ?_
   rintro e w' ⟨rfl,rfl⟩;exact⟨rfl,h,A9 B _,Lib.OthersKept.refl _ _ _⟩
theorem Vi(B b:Nat)(g:List Value)(s:ByteArray)(w:World)(h:Lib.IsBuilder 148 5 B b g w)(z:g.length+s.size<=1000000000000)(D:B<=w.heap.size) :
    Cg 75 #[Pd b 0,.string s] w λe w'=>(∃v,e=.returned v)/\(Lib.IsBuilder 148 5 B b (g++Lib.strCells s) w'/\Below B w w'/\Lib.OthersKept 5 (some b) w w'):=by
 obtain⟨E,G,q,r,y⟩:=info_parts Qd;have H:=ky B b g w h;clear h
 go_enter func75,ntmps75
 go_wp2_with (first | (go_at_call 109;refine H.mono ?_;rintro e o ⟨rfl,⟨A,v,j,d,x⟩,i,n⟩;have C:o.cell? (Ad b 0)=some (Pd b 0):=(by rw[Az j];rfl);have I:o.cell? (Ad b 1)=some v:=(by rw[Az j];rfl)) | (at_builtin;refine EH _ rfl _ _ 146 9 rfl B 5 E underlying146 underlying9 G q r y _ _ _ rfl d s rfl (by unfold maxLen;omega) (by omega) (by have:=i.size;omega) ?_))
 intro N m c a _;have t:b<o.heap.size:=Ca o _ C;have f:m.heap[b]?=some (Oc #[Pd b 0,v] 148):=by
  rw[a.block b t (λe=>x e.symm)];exact j
 have K:m.cell? (Ad b 0)=some (Pd b 0):=by rw[Az f];rfl
 have d1:m.cell? (Ad b 1)=some v:=by rw[Az f];rfl
 have L:m.frozen? (Ad b 1)=false:=Lib.frozen_of_heap f 1;obtain⟨u,l,rfl⟩:=Bm c;have F:Hid (Lib.IsBuilder 148 5 B b (g++Lib.strCells s) (m.setCell (Ad b 1) (.slice u (g.length+s.size) l))/\Below B w (m.setCell (Ad b 1) (.slice u (g.length+s.size) l))/\Lib.OthersKept 5 (some b) w (m.setCell (Ad b 1) (.slice u (g.length+s.size) l))):=by
  refine⟨.inr ?_,?_,(n.grown a (Lib.ownsRowF_kind (World.ownsRowF_of d))).setCell (Ad b 1) rfl _⟩
  . exact Lib.BuilderAt.put (T:=148) (e:=5) A f (bs':=g++Lib.strCells s) (by simpa[Lib.strCells_length] using c) (by decide)
  . exact(i.grown a (by have:=i.size;omega) (λk J=>(d.lt k J).1)).setCell (p:=(Ad b 1)) A _
 clear d c a f j i n C I;go_wp2
 go_ret2
 exact⟨⟨_,rfl⟩,F.out⟩
theorem kO{α:Type}{P:Program}{g:Operand}{ps:Array Tmp}{assign body:Code}{Q:Exit->Act->World->Prop}{a:Act}{w:World}{n:Nat}
    {gf:Nat} {lb:Array Value} (hg:a.eval g=.func (.func gf) #[] lb) (eg:∀args w,(callFunc gf args).run P w=.ok (.enter gf args) w)
    {encs:List α->α->Array Value} (hps:∀b x,(encs b x).size=ps.size)
    {It Kp:World->World->Prop} {Z:World->Prop} {S Sp:List α->Prop}
    (hseq:∀W,W.heap.size=w.heap.size+2->Below w.heap.size w W->Q4 P gf lb encs It Kp Z S Sp W)
    (Y:∀A B,It A B->Same2 w.heap.size A B)
    (j:∀{A B C:World},Kp A B->Kp B C->Kp A C) (H:∀(A:World) (r:Loop),Kp A (A.putObj (w.heap.size+1) (.loop r)))
    (I:List α->World->Prop) (Ix:Code->List α->World->Prop)
    (hIz:∀b A,I b A->Z A) (hIxz:∀c b A,Ix c b A->Z A)
    (hI:∀b A B,I b A->It A B->I b B) (hIb:∀b A (r:Loop),I b A->I b (A.putObj (w.heap.size+1) (.loop r)))
    (hIx:∀c b A B,Ix c b A->It A B->Ix c b B) (D:∀c b A (r:Loop),Ix c b A->Ix c b (A.putObj (w.heap.size+1) (.loop r)))
    (h0:∀W,W.heap.size=w.heap.size+2->Below w.heap.size w W->(∃r,W.heap[w.heap.size+1]?=some (.loop r))->W.heap[w.heap.size]?=some (.deferred (some []))->I [] W)
    (R:∀(l:Nat) (b:List α) (x:α) (W:World),I b W->w.heap.size+2<=W.heap.size->Sp (b++[x]) ->
      assign.wpIn (Fence.wide.inRound l) 0 P (Exit.then (λa₁ J=>Same2 w.heap.size W J/\Kp W J/\∀E,Put1 (w.heap.size+1) J E->(∃r,E.heap[w.heap.size+1]?=some (.loop r))->body.wpIn (Fence.wide.inRound l) 0 P (WQ w.heap.size Kp I Ix (b++[x]) E) a₁ E) (λ_ _ _=>False))
       { tmps:=(ps.zip (encs b x)).foldl (λt (p,v)=>t.setIfInBounds p v) a.tmps,defers:=[] } W)
    (hdone:∀(xs:List α) (W:World),S xs->I xs W->W.heap[w.heap.size]?=some (.deferred (some []))->Q .normal { a with defers:={ target:=.collected w.heap.size,args:=#[] } :: a.defers } W)
    (hstop:∀(c:Code) (b:List α) (W:World),Sp b->Ix c b W->W.heap[w.heap.size]?=some (.deferred (some []))->c.wpIn Fence.wide n P Q { a with defers:={ target:=.collected w.heap.size,args:=#[] } :: a.defers } W) :
    (Code.rangeFunc g ps assign body).wpIn Fence.wide n P Q a w:=by
 refine wpIn_rangeFunc ?_;intro fn hfn;obtain⟨f,i⟩:∃f:LoopState->Option Code->Loop,f=λst pe=>{ state:=st,pending:=pe,fn,tmps:=a.tmps,params:=ps,assign,body,defers:=w.heap.size }:=⟨_,rfl⟩;obtain⟨F,K⟩:∃F,(w.alloc (.deferred (some []))).alloc (.loop (f .ready none))=F:=⟨_,rfl⟩;have hL1:F.heap[w.heap.size+1]?=some (.loop (f .ready none)):=by
  rw[←K];have:=FC (w.alloc (.deferred (some []))) (.loop (f .ready none));rwa[AN]at this
 have hK1:F.heap[w.heap.size]?=some (.deferred (some [])):=by
  rw[←K];exact(FS _ _ _ (by simp)).trans (FC w _)
 have hs1:F.heap.size=w.heap.size+2:=by rw[←K,AN,AN]
 have hb1:Below w.heap.size w F:=by
  rw[←K];exact((A9 _ w).alloc (Ai _) _).alloc (by simp) _
 have hI1:I [] F:=h0 F hs1 hb1 ⟨_,hL1⟩ hK1
 refine ⟨w.heap.size+1,[{ target:=.collected w.heap.size,args:=#[] }],F,{ target:=.fn (.func gf) lb,args:=#[.func (.yield (w.heap.size+1)) #[] #[]] },F,gf,
  #[.func (.yield (w.heap.size+1)) #[] #[]]++lb,F,?_,?_,?_,?_,λh=>(by cases h),?_⟩
 . rw[←K,i];exact run_enterLoop_outer _ _ _ _ _
 . simp only[resolve,hg]
   simp[go_sem]
 . intro f' hf';trivial
 . simp[invoke,go_sem,eg]
 . refine CallsIn.more ((hseq F hs1 hb1 (w.heap.size+1)
     (λb W=>I b W/\W.heap[w.heap.size+1]?=some (.loop (f .ready none))/\W.heap[w.heap.size]?=some (.deferred (some [])))
     (λb W=>∃c,Ix c b W/\W.heap[w.heap.size+1]?=some (.loop (f .done (some c)))/\W.heap[w.heap.size]?=some (.deferred (some [])))
     (λs A O=>hIz s A O.1) (λs A O=>(by obtain⟨c,hc,_⟩:=O;exact hIxz c s A hc))
     (λs A B O y=>⟨hI s A B O.1 y,(Y A B y).b.trans O.2.1,(Y A B y).a.trans O.2.2⟩)
     (λs A B O y=>by
       obtain⟨c,hc,G,X⟩:=O
       exact⟨c,hIx c s A B hc y,(Y A B y).b.trans G,(Y A B y).a.trans X⟩)
     ?_ ⟨hI1,hL1,hK1⟩).mono ?_) (AV _)
   . -- one round
     rintro b x W ⟨hi,G,X⟩ hSp;have hlt:w.heap.size+1<W.heap.size:=(As G);have hy:=run_yield (P:=P) (args:=encs b x) G (by rw[i];exact hps b x);rw[i]at hy;refine⟨fn,_,assign,body,hy,roundIn_of_wpIn hfn (wpIn_mono (R _ b x W hi (by omega) hSp) ?_)⟩;clear hy;rintro ea a' Wa hq
     cases ea with
     | normal=>?_
     | ret=>exact hq.elim
     | exit id=>exact hq.elim
     | goto t=>exact hq.elim
     | panic c=>exact hq.elim
     | outgrown=>exact hq.elim
     obtain⟨h2a,z,hbody⟩:=hq
     replace G:=h2a.b.trans G
     replace X:=h2a.a.trans X
     replace hlt:w.heap.size+1<Wa.heap.size:=(As G)
     refine⟨_,run_beginRound G (by rw[i]),?_⟩;have hl2:(Wa.putObj (w.heap.size+1) (.loop { f .ready none with state:=.busy })).heap[w.heap.size+1]?=some (.loop { f .ready none with state:=.busy }):=EX hlt;have hk2:(Wa.putObj (w.heap.size+1) (.loop { f .ready none with state:=.busy })).heap[w.heap.size]?=some (.deferred (some [])):=(CJ (by omega)).trans X;have N:Kp Wa (Wa.putObj (w.heap.size+1) (.loop { f .ready none with state:=.busy })):=H _ _;refine wpIn_mono (hbody _ (Put1.putObj _ _ _) ⟨_,hl2⟩) ?_
     have U:∀(d:Option Code) (L:World),Same2 w.heap.size (Wa.putObj (w.heap.size+1) (.loop { f .ready none with state:=.busy })) L ->
         (Instr.endRound (w.heap.size+1) d).run P L=.ok (.bool d.isNone) (L.putObj (w.heap.size+1) (.loop (f (if d.isNone then .ready else .done) d))) /\
         (L.putObj (w.heap.size+1) (.loop (f (if d.isNone then .ready else .done) d))).heap[w.heap.size+1]?=some (.loop (f (if d.isNone then .ready else .done) d)) /\
         (L.putObj (w.heap.size+1) (.loop (f (if d.isNone then .ready else .done) d))).heap[w.heap.size]?=some (.deferred (some [])):=λd L m=>by
      have hl3:=m.b.trans hl2;have:=run_endRound (P:=P) d hl3;rw[i]at this ⊢;exact⟨this,EX (As hl3),(CJ (by omega)).trans (m.a.trans hk2)⟩
     rintro e a3 L hp
     cases e with
     | normal =>
      obtain⟨m,k,o⟩:=hp;obtain⟨hr,u,q⟩:=U none L m;exact⟨_,_,hr,.inl ⟨rfl,⟨hIb _ _ _ o,u,q⟩,j z (j (j N k) (H _ _))⟩⟩
     | ret =>
      obtain⟨m,k,o⟩:=hp;obtain⟨hr,u,q⟩:=U (some .ret) L m;exact⟨_,_,hr,.inr ⟨rfl,⟨.ret,D _ _ _ _ o,u,q⟩,j z (j (j N k) (H _ _))⟩⟩
     | exit id =>
      obtain⟨m,k,o⟩:=hp;obtain⟨hr,u,q⟩:=U (some (.exit id)) L m;exact⟨_,_,hr,.inr ⟨rfl,⟨.exit id,D _ _ _ _ o,u,q⟩,j z (j (j N k) (H _ _))⟩⟩
     | goto t =>
      obtain⟨m,k,o⟩:=hp;obtain⟨hr,u,q⟩:=U (some (.goto t)) L m;exact⟨_,_,hr,.inr ⟨rfl,⟨.goto t,D _ _ _ _ o,u,q⟩,j z (j (j N k) (H _ _))⟩⟩
     | panic ch=>exact hp.elim
     | outgrown=>exact hp.elim
   . -- behind the iterator
     rintro e W2 ⟨⟨v,rfl⟩,(⟨xs,hS,hi,G,X⟩|⟨b,hSp,c,hi,G,X⟩)⟩
     . exact⟨none,_,by have:=run_endLoop (P:=P) G (by rw[i];simp);rw[i]at this;exact this,hdone xs _ hS (hIb _ _ _ hi) ((CJ (by omega)).trans X)⟩
     . exact⟨some c,_,by have:=run_endLoop (P:=P) G (by rw[i];simp);rw[i]at this;exact this,hstop c b _ hSp (D _ _ _ _ hi) ((CJ (by omega)).trans X)⟩
section
attribute [local go_sem] Oper.semAt_some
variable {A B w w' : World}{e T b β : Nat}{r : Loop}{bs : List UInt8}{v1 v2 : Value}
theorem gx(B b:Nat)(l:List UInt8)(w:World)(h:Lib.IsBuilder 148 5 B b (Lib.byteCells l) w)(a:B<=w.heap.size) :
    Cg 76 #[Pd b 0] w λe w'=>e=.returned (.string ⟨l.toArray⟩)/\(Below B w w'/\Lib.OthersKept 5 (some b) w w'):=by
 have c:Cg 76 #[Pd b 0] w λe w'=>e=.returned (.string ⟨l.toArray⟩)/\(Lib.IsBuilderF 148 5 B b (Lib.byteCells l) w'/\Below B w w'/\Lib.OthersKept 5 (some b) w w'):=Any.Builder_String_any_k lays169 Tryz.Builder_Extra_169 B b l w (.of h) a;exact c.mono λe w' h=>⟨h.1,h.2.2⟩
def Fy (x:Pt×List UInt8):List UInt8:=(if 0<x.1.keep then x.2 else [])++x.1.put
def Aj (ps:List Pt) (s:List UInt8):List UInt8:=(E7 ps s).flatMap Fy
theorem Wc(ps:List Pt)(s:List UInt8)(h:LL ps s):(((E7 ps s).map λx=>x.2.length).sum:Nat)<=s.length:=by
 induction ps generalizing s with
 | nil=>simp[E7]
 | cons p ps ih =>
  obtain⟨c,f,d,a⟩:=h;have:=ih _ a;simp only[E7,AY,BQ];rw[AO];rw[AM]at this;omega
theorem WS(ps:List Pt)(s:List UInt8):(E7 ps s).map (λx=>x.1.put.length)=ps.map λp=>p.put.length:=by
 induction ps generalizing s with
 | nil=>rfl
 | cons p ps ih=>simp[E7,ih]
def Al (ps:List Pt):Nat:=(ps.map λp=>p.put.length).sum
theorem WD(l:List (Pt×List UInt8)):(l.flatMap Fy).length<=(l.map λx=>x.2.length).sum+(l.map λx=>x.1.put.length).sum:=by
 induction l with
 | nil=>simp
 | cons x l ih =>
  simp only[CY,AA,AY,BQ];have:(Fy x).length<=x.2.length+x.1.put.length:=by
   unfold Fy;rw[AA]
   split<;>simp
  omega
theorem WE{ps:List Pt}{s:List UInt8}(h:LL ps s){a rest:List (Pt×List UInt8)}(e:E7 ps s=a++rest):(a.flatMap Fy).length<=s.length+Al ps:=by
 have f:=WD a;have d:=Wc ps s h;have c:=congrArg List.sum (WS ps s);rw[e]at d c;rw[BM,DK]at d c;unfold Al;omega
theorem K5{n N size k:Nat}{v:Value}{i:List Value}(h:A.ownsRow N e size v k i)(m:A.heap[n]?=some (.loop r))(p:Put1 n A B):B.ownsRow N e size v k i:=by
 obtain⟨o,c⟩:=h;refine⟨o,?_⟩
 rcases c with l|⟨g,d,f,rfl,j,a,rest⟩
 . exact .inl l
 . refine .inr ⟨g,d,f,rfl,j,(p.block g ?_).trans a,rest⟩
   rintro rfl;rw[m]at a
   cases a
theorem Vw{B:Nat}{p:Value}{bs:List Value}(h:Lib.BuilderAt T e B b p bs w)(c:w'.heap[b]?=w.heap[b]?)(f:∀v,w.ownsRow B e 1 v bs.length bs->w'.ownsRow B e 1 v bs.length bs):Lib.BuilderAt T e B b p bs w':=by
 obtain⟨g,v,i,a,d⟩:=h;exact⟨g,v,c.trans i,f v a,d⟩
theorem Vx{B:Nat}{bs:List Value}(h:Lib.IsBuilder T e B b bs w)(a:w'.heap[b]?=w.heap[b]?)(c:∀v,w.ownsRow B e 1 v bs.length bs->w'.ownsRow B e 1 v bs.length bs):Lib.IsBuilder T e B b bs w' :=
 h.elim (λh=>.inl (Vw h a c)) (λh=>.inr (Vw h a c))
structure apI (w:World) (β:Nat) (v1 v2:Value) (r:Loop) (bs:List UInt8) (A:World):Prop where
 below:Bw w A
 size:β+5<=A.heap.size
 bld:Lib.IsBuilder 148 5 β β (Lib.byteCells bs) A
 h1:A.heap[β+1]?=some (Oc #[v1] 37)
 h2:A.heap[β+2]?=some (Oc #[v2] 9)
 h3:A.heap[β+3]?=some (.deferred (some []))
 h4:A.heap[β+4]?=some (.loop r)
theorem apI.grow(h:apI w β v1 v2 r bs A)(a:Bw A B):apI w β v1 v2 r bs B:=by
 have c:=h.size;exact⟨h.below.trans (a.mono h.below.size),AF c a.size,Vx h.bld (a.block β (by omega)) (λv d=>Fe d a),(a.block (β+1) (by omega)).trans h.h1,(a.block (β+2) (by omega)).trans h.h2,(a.block (β+3) (by omega)).trans h.h3,(a.block (β+4) (by omega)).trans h.h4⟩
theorem apI.put{c:Loop}(h:apI w β v1 v2 r bs A)(g:w.heap.size<=β)(a:Put1 (β+4) A B)(d:B.heap[β+4]?=some (.loop c)):apI w β v1 v2 c bs B :=
 ⟨h.below.trans (a.below (by omega)),by rw[a.size];exact h.size,Vx h.bld (a.block β (by omega)) (λv f=>K5 f h.h4 a),(a.block (β+1) (by omega)).trans h.h1,(a.block (β+2) (by omega)).trans h.h2,(a.block (β+3) (by omega)).trans h.h3,d⟩
theorem apI.wrote{u:List UInt8}(h:apI w β v1 v2 r bs A)(g:w.heap.size<=β)(i:Lib.IsBuilder 148 5 β β (Lib.byteCells bs++Lib.strCells ⟨u.toArray⟩) B)(f:Below β A B)(a:Lib.OthersKept 5 (some β) A B):apI w β v1 v2 r (bs++u) B:=by
 refine⟨h.below.trans (f.mono g),AF h.size f.size,?_,a _ _ h.h1 (by simp) (by intro c d e;cases e),a _ _ h.h2 (by simp) (by intro c d e;cases e),a _ _ h.h3 (by simp) (by intro c d e;cases e),a _ _ h.h4 (by simp) (by intro c d e;cases e)⟩;rw[Lib.byteCells_append];exact i
theorem apI.kept{bs':List UInt8}(h:apI w β v1 v2 r bs A)(a:apI w β v1 v2 r bs' B)(c:A.heap.size<=B.heap.size) :
    Same2 (β+3) A B/\A.heap.size<=B.heap.size/\∀(x:Nat),x=β+1\/x=β+1+1\/x<w.heap.size->B.heap[x]?=A.heap[x]?:=by
 refine⟨⟨a.h3.trans h.h3.symm,a.h4.trans h.h4.symm⟩,c,?_⟩;rintro x (rfl|rfl|hx)
 . exact a.h1.trans h.h1.symm
 . exact a.h2.trans h.h2.symm
 . exact(a.below.block x hx).trans (h.below.block x hx).symm
theorem dX(v:Value)(ps:List Pt)(s:List UInt8)(w:World)(g:Lib.Utf8Tabs 1 2 w)(h:Ae w v ps)(a:∀p∈ps,Cp p)(l:s.length<1000000000)(j:ps.length<10000000)(k:ordE ps s≠0) :
    Cg 44 #[v,Sx s] w (Rt w (.tuple #[.string ⟨#[]⟩,Ao (ordE ps s)])):=by
 have f:Hid _:=aK v ps s w g h a l j;have i:Ao (ordE ps s)=.iface 30 (I6 (ordE ps s)):=by unfold Ao;rw[if_neg k]
 rw[i]at f ⊢;generalize ordE ps s=E at *;obtain⟨p,c,rfl,_⟩:=h;clear g a i
 go_enter func44,ntmps44
 go_wp2_with (go_at_call 72;refine AC f.out ?_;rintro e m ⟨rfl,d⟩)
 go_ret2
 exact⟨rfl,d⟩
theorem gv(v:Value)(ps:List Pt)(s:List UInt8)(w:World)(hT:Lib.Utf8Tabs 1 2 w)(D:Ae w v ps)(hwf:∀p∈ps,Cp p)(hs:s.length<1000000000)(hl:ps.length<10000000)(hpu:Al ps<100000000000)(he:chkE ps (s.length:Int)=0)(H:C9 ps s=false) :
    Cg 44 #[v,.string ⟨s.toArray⟩] w (Rt w (.tuple #[.string ⟨(Aj ps s).toArray⟩,.nilIface])):=by
 have cC:Hid _:=aK v ps s w hT D hwf hs hl;obtain⟨I,hleft⟩:=Um he;have hV:Ao (ordE ps s)=.nilIface:=by unfold ordE;rw[if_pos he,H];rfl
 rw[hV]at cC;have HF:=Aa I;have HR:=Aa D;have HSL:=Aa hs;have HLP:=Aa hl;have HPU:=Aa hpu;have J:∀x o n c,v=.slice (some (Ad x o)) n c->ps≠[]->x<w.heap.size:=by
  intro x o n c e N;obtain⟨p,c',rfl,_,_,h3⟩:=D;obtain⟨b,o',e1,e2,_⟩:=h3 N;simp only[Value.slice.injEq]at e;rw[e.1]at e1;simp only[Option.some.injEq,Addr.mk.injEq]at e1;rw[e1.1];exact e2
 have HROW:=Aa J;obtain⟨p,c,rfl,_⟩:=D;obtain⟨S,hS⟩:∃S:ByteArray,(ByteArray.mk (Aj ps s).toArray)=S:=⟨_,rfl⟩;have HS:=Aa hS;rw[hS];clear hT hwf hV I hleft J he H hS hpu;have cO:=λ(wx:World)=>WO p ps.length c ⟨s.toArray⟩ wx;refine(callsIn_wide (n:=3)).1 ?_;refine callsIn_of_wp_marks func44 rfl trivial ?_ rfl;simp only[ntmps44,EL,AJ,AR,Nat.reduceAdd,Nat.reduceSub,Array.replicate_succ,FD,FP,ET,BA,BR]
 gi_wp2_with (first
  | (refine⟨trivial,?_⟩;gi_at_call 72;refine(callsIn_wide.2 cC.out).mono ?_;rintro e w1 ⟨rfl,g⟩)
  | (refine⟨trivial,?_⟩;gi_at_call 73;refine(callsIn_wide.2 (cO _)).mono ?_;rintro e w13 ⟨rfl,rfl⟩))
 have d:w.heap.size<=w1.heap.size:=g.size;obtain⟨β,m⟩:∃β,w1.heap.size=β:=⟨_,rfl⟩;obtain⟨L,t⟩:∃L,L=((w1.alloc (Oc #[.pointer none,.slice none 0 0] 148)).alloc (Oc #[.slice p ps.length c] 37)).alloc (Oc #[.string ⟨s.toArray⟩] 9):=⟨_,rfl⟩;have f:Below w.heap.size w L:=by rw[t];exact((g.alloc g.size _).alloc (by simp;omega) _).alloc (by simp;omega) _
 have u:L.heap.size=β+3:=by rw[t,←m];simp
 have q0:L.heap[β]?=some (Oc #[.pointer none,.slice none 0 0] 148):=by rw[t,←m];exact(heap_alloc_old _ _ (by rw[Bb,AN];omega)).trans ((heap_alloc_old _ _ (by rw[Bb];omega)).trans (heap_alloc_new _ _))
 have q1:L.heap[β+1]?=some (Oc #[.slice p ps.length c] 37):=by rw[t,←m];exact(heap_alloc_old _ _ (by simp)).trans (by have:=heap_alloc_new (w1.alloc (Oc #[.pointer none,.slice none 0 0] 148)) (Oc #[.slice p ps.length c] 37);rwa[AN]at this)
 have q2:L.heap[β+2]?=some (Oc #[.string ⟨s.toArray⟩] 9):=by rw[t,←m];have:=heap_alloc_new ((w1.alloc (Oc #[.pointer none,.slice none 0 0] 148)).alloc (Oc #[.slice p ps.length c] 37)) (Oc #[.string ⟨s.toArray⟩] 9);rwa[AN,AN]at this
 rw[←t,m];rw[m]at d;clear t cC cO g m
 refine kO (gf:=108) (lb:=#[.pointer (some (Ad (β+1+1) 0)),.pointer (some (Ad (β+1) 0))]) rfl (enters_of func108 (by kernel_rfl) rfl) (encs:=λ_ (x:Pt×List UInt8)=>#[Cv x.1,.string ⟨x.2.toArray⟩]) (λ_ _=>rfl)
  (It:=λA B=>Below A.heap.size A B/\β+5<=A.heap.size) (Kp:=λA B=>A.heap.size<=B.heap.size/\∀x,(x=β+1\/x=β+1+1\/x<w.heap.size)->B.heap[x]?=A.heap[x]?) (Z:=λ_=>True) (S:=λxs=>xs=E7 ps s) (Sp:=λa=>∃rest,E7 ps s=a++rest)
  ?seq ?its (λh k=>⟨AF h.1 k.1,λx hx=>(k.2 x hx).trans (h.2 x hx)⟩) ?hkb
  (λa W=>∃r,apI w β (.slice p ps.length c) (.string ⟨s.toArray⟩) r (a.flatMap Fy) W)
  (λ_ _ _=>False) (λ_ _ _=>trivial) (λ_ _ _ h=>h.elim) ?ii ?ib (λ_ _ _ _ h _=>h) (λ_ _ _ _ h=>h) ?h0 ?round ?done (λ_ _ _ _ h=>h.elim)
 case seq =>
  intro W hs1 g;rw[u]at hs1 g;have hb9:Below w.heap.size w W:=f.trans (g.mono (by omega));have:=WP (.slice p ps.length c) ps s HSL.out HLP.out HF.out (λx=>(x=β+1\/x=β+1+1\/x<w.heap.size)) (β+1) W (Az ((g.block (β+1) (by omega)).trans q1) 0) (Az ((g.block (β+2) (by omega)).trans q2) 0) (Ec HR.out hb9 (Ai _)) (.inl rfl) (.inr (.inl rfl)) (λb o n c' e N=>.inr (.inr (HROW.out b o n c' e N))) (by rintro x (rfl|rfl|hx)<;>omega) (λ_=>True);rw[hs1]at this;exact this
 case its=>exact λA B h=>Same2.of_below h.1 (by rw[u];omega)
 case hkb =>
  intro A r;rw[u];exact⟨by simp,λx hx=>CJ (by omega)⟩
 case ii=>exact λa A B h K=>by obtain⟨r,h⟩:=h;exact⟨r,h.grow K.1⟩
 case ib =>
  rintro a A r ⟨r0,h⟩;rw[u];exact⟨r,h.put d (Put1.putObj _ _ _) (EX (by have:=h.size;omega))⟩
 case h0 =>
  rintro W hs K ⟨r,D⟩ hd;rw[u]at hs K D hd;exact⟨r,f.trans (K.mono (by omega)),by omega,.inl ⟨Ai _,.slice none 0 0,(K.block β (by omega)).trans q0,BL _ _ _ _,by simp[Value.ownBlock]⟩,(K.block (β+1) (by omega)).trans q1,(K.block (β+2) (by omega)).trans q2,hd,D⟩
 case round =>
  rintro l a ⟨q,T⟩ W ⟨r0,hI⟩ hlW ⟨rest,P⟩;rw[u]at hlW ⊢;have hml:=WE HF.out P;have hpp:=HPU.out;have hss:=HSL.out;have U:Hid ((a.flatMap Fy).length+T.length+q.put.length<=1000000000000):=by
   show _<=_;have h1:=Wc ps s HF.out;have h2:=congrArg List.sum (WS ps s);have h3:=WD a;rw[P]at h1 h2;simp only[BM,DK,AY,BU,BQ,FE]at h1 h2;unfold Al at hpp;omega
  have HI:Hid (apI w β (.slice p ps.length c) (.string ⟨s.toArray⟩) r0 (a.flatMap Fy) W):=hI;have HNX:Hid ((a++[(q,T)]).flatMap Fy=a.flatMap Fy++Fy (q,T)):=by show _=_;simp
  have HWB:Hid (¬β=W.heap.size):=by show ¬_;omega
  have cK:=KD q;unfold Cv at cK ⊢;clear hI P q0 q1 q2 f hml hpp hss
  gi_wp2
  refine⟨(Same2.refl _ W).alloc (by omega) _,⟨by simp,λx hx=>heap_alloc_old _ _ (by omega)⟩,?_⟩;intro w2 hp ⟨r,D⟩;have hI1:=HI.out.grow (B:=W.alloc (Oc #[I6 q.keep,I6 q.drop,.string ⟨q.put.toArray⟩] 87)) (zA _ _);have F:=Aa (hI1.put d hp D);have z:w2.heap[W.heap.size]?=some (Oc #[I6 q.keep,I6 q.drop,.string ⟨q.put.toArray⟩] 87):=(hp.block W.heap.size (by omega)).trans (heap_alloc_new _ _);have HBX:=Aa z;have x0:=cQ z 0 rfl;have x1:=cQ z 1 rfl;have x2:=cQ z 2 rfl;clear hp D z hI1
  by_cases hk:0<q.keep
  . have C:decide (0<q.keep)=true:=decide_eq_true hk
    rw[C]at cK;have Q:Hid (Fy (q,T)=T++q.put):=by show _=_;unfold Fy;rw[if_pos hk]
    clear hk C
    gi_wp2_with (first
     | (refine⟨trivial,rfl,?_⟩;gi_at_call 74;refine(EN l (callsIn_wide.2 (cK _))).mono ?_;rintro e w3 ⟨rfl,j⟩;have i:=F.out.grow j;have X:(Lib.byteCells (a.flatMap Fy)).length+(ByteArray.mk T.toArray).size<=1000000000000:=(by have:=U.out;rw[GH];show _+T.toArray.size<=_;simp only[EL];omega);have R:β<=w3.heap.size:=(by have:=i.size;omega);have hx3:=(j.block W.heap.size (Ca w2 _ x0)).trans HBX.out)
     | (refine⟨trivial,rfl,?_⟩;gi_at_call 75;refine(EN l (callsIn_wide.2 (Vi β β _ _ _ y.bld hL4 hB4))).mono ?_;rintro e w5 ⟨⟨v5,rfl⟩,hw5,hb5,hk5⟩;have hI5:=y.wrote d hw5 hb5 hk5)
     | (refine⟨trivial,rfl,?_⟩;gi_at_call 75;refine(EN l (callsIn_wide.2 (Vi β β _ _ _ i.bld X R))).mono ?_;rintro e w4 ⟨⟨v4,rfl⟩,O,f,E⟩;have y:=i.wrote d O f E;have hx4:=E _ _ hx3 (λe=>HWB.out (Bq e).symm) (by intro c fz e;cases e);have hy4:=cQ hx4 2 rfl;have hL4:(Lib.byteCells (a.flatMap Fy++T)).length+(ByteArray.mk q.put.toArray).size<=1000000000000:=(by have:=U.out;rw[GH,AA];show _+q.put.toArray.size<=_;simp only[EL];omega);have hB4:β<=w4.heap.size:=(by have:=y.size;omega)))
    have hK:=F.out.kept hI5 (AF j.size (AF f.size hb5.size));refine⟨hK.1,hK.2,r,?_⟩;rw[HNX.out,Q.out,←AH];exact hI5
  . have C:decide (0<q.keep)=false:=decide_eq_false hk
    rw[C]at cK;have Q:Hid (Fy (q,T)=q.put):=by show _=_;unfold Fy;rw[if_neg hk,BA]
    clear hk C
    gi_wp2_with (first
     | (refine⟨trivial,rfl,?_⟩;gi_at_call 74;refine(EN l (callsIn_wide.2 (cK _))).mono ?_;rintro e w3 ⟨rfl,j⟩;have i:=F.out.grow j;have X:(Lib.byteCells (a.flatMap Fy)).length+(ByteArray.mk q.put.toArray).size<=1000000000000:=(by have:=U.out;rw[GH];show _+q.put.toArray.size<=_;simp only[EL];omega);have R:β<=w3.heap.size:=(by have:=i.size;omega);have y3:w3.cell? (Ad W.heap.size 2)=some (.string ⟨q.put.toArray⟩):=Az ((j.block W.heap.size (Ca w2 _ x0)).trans HBX.out) 2)
     | (refine⟨trivial,rfl,?_⟩;gi_at_call 75;refine(EN l (callsIn_wide.2 (Vi β β _ _ _ i.bld X R))).mono ?_;rintro e w4 ⟨⟨v4,rfl⟩,O,f,E⟩;have y:=i.wrote d O f E)
     | (refine⟨trivial,?_⟩))
    have hK:=F.out.kept y (AF j.size f.size);refine⟨hK.1,hK.2,r,?_⟩;rw[HNX.out,Q.out];exact y
 case done =>
  rintro xs W rfl ⟨r,hI⟩ G;rw[u]at G ⊢;have HI:Hid (apI w β (.slice p ps.length c) (.string ⟨s.toArray⟩) r (Aj ps s) W):=hI;have cS:=gx β β (Aj ps s) W HI.out.bld (by have:=HI.out.size;omega);rw[HS.out]at cS;clear hI q0 q1 q2 f
  gi_wp2_with (refine⟨trivial,?_⟩;gi_at_call 76;refine(callsIn_wide.2 cS).mono ?_;rintro e w6 ⟨rfl,hb6,hk6⟩)
  have Y:=hk6 _ _ G (λe=>by have:=Bq e;omega) (by intro c fz e;cases e);have hP:=Put1.putObj (β+3) w6 (.deferred none);refine⟨by simp,.inl ⟨_,_,rfl,run_takeDeferred Y,?_⟩⟩;exact⟨.tuple #[.string S,.nilIface],by simp[results,results44,go_sem],rfl,(HI.out.below.trans (hb6.mono d)).trans (hP.below (by omega))⟩
theorem Ug(v:Value)(ps:List Pt)(s:List UInt8)(w:World)(f:Lib.Utf8Tabs 1 2 w)(g:Ae w v ps)(c:∀p∈ps,Cp p)(j:s.length<1000000000)(i:ps.length<10000000)(d:Al ps<100000000000) :
    Cg 44 #[v,Sx s] w (Rt w (.tuple #[Sx (if ordE ps s=0 then Aj ps s else []),Ao (ordE ps s)])):=by
 by_cases a:ordE ps s=0
 . rw [if_pos a,a]
   have k:chkE ps (s.length:Int)=0/\C9 ps s=false:=by
    unfold ordE at a
    split at a
    . rename_i h
      refine⟨h,?_⟩
      cases hb:C9 ps s with
      | false=>rfl
      | true=>rw[hb]at a;simp at a
    . rename_i h;exact absurd a h
   exact gv v ps s w f g c j i d k.1 k.2
 . rw[if_neg a]
   exact dX v ps s w f g c j i a
end
section
attribute [local go_sem] Oper.semAt_some
theorem Ni{M:Nat}(a:Nat)(s:Av)(p:Pt)(w:World)(h:Aw M w a s){T:Int}{n:Nat}(c:Bd s T n)(k:Ek p)(f:T+Ee p<1000000000)(o:n<10000000) :
    Cg 154 #[Cv p,.pointer (some (Ad (a+1) 0)),.pointer (some (Ad (a+2) 0)),.pointer (some (Ad (a+3) 0)),Pd a 0] w λe w'=>(∃v,e=.returned v)/\Aw M w' a (Af s p)/\BelowG M a w w':=by
 have t:=c.put;have j:=c.d0;have l:=c.dT;have m:=c.len;obtain⟨d,g⟩:=k;unfold Ee at f;exact Wj a s p w h (by omega) j (by omega) g d (by omega) (λq i=>by have:=c.keep q i;omega) (by omega)
variable {g o c : Nat}{w w' : World}{v : Value}{ps : List Pt}{p : Pt}
structure ButO (g:Nat) (w w':World):Prop where
 os:w'.os=w.os
 tape:w'.tape=w.tape
 output:w'.output=w.output
 size:w.heap.size<=w'.heap.size
 block:∀k,k<w.heap.size->k≠g->w'.heap[k]?=w.heap[k]?
theorem ButO.of(h:Bw w w'):ButO g w w':=⟨h.os,h.tape,h.output,h.size,λk a _=>h.block k a⟩
theorem ButO.trans{g:Nat}{a b c:World}(h:ButO g a b)(k:ButO g b c):ButO g a c :=
 ⟨k.os.trans h.os,k.tape.trans h.tape,k.output.trans h.output,AF h.size k.size,λi d f=>(k.block i (AK d h.size) f).trans (h.block i d f)⟩
theorem ButO.set{a:World}(h:ButO g a w)(o:Nat)(u:Value):ButO g a (w.setCell (Ad g o) u) :=
 h.trans ⟨rfl,rfl,rfl,by simp[World.setCell],λk _ d=>BF _ _ _ _ (by show k≠g;exact d)⟩
def Co (w:World) (g:Nat) (v:Value) (ps:List Pt):Prop :=
 ∃ p c,v=.slice p ps.length c/\ps.length<=c/\c<=maxLen/\(ps≠[]->∃o,p=some (Ad g o)/\g<w.heap.size/\(∀j,w.frozen? (Ad g j)=false)/\∀i q,ps[i]?=some q ->
  w.cell? (Ad g (o+i*3))=some (I6 q.keep)/\w.cell? (Ad g (o+i*3+1))=some (I6 q.drop)/\w.cell? (Ad g (o+i*3+2))=some (Sx q.put))
theorem Kg(h:Co w g v ps)(F:w.heap.size<=w'.heap.size)(m:g<w.heap.size->w'.heap[g]?=w.heap[g]?):Co w' g v ps:=by
 obtain⟨p,c,rfl,z,C,u⟩:=h;refine⟨p,c,rfl,z,C,λf=>?_⟩;obtain⟨o,E,x,t,n⟩:=u f;have d:=m x;refine⟨o,E,by omega,λj=>(EF (w:=w) (a:=(Ad g j)) d).trans (t j),λi q l=>?_⟩;obtain⟨k,y,D⟩:=n i q l;exact⟨(AE (w:=w) (a:=(Ad g (o+i*3))) d).trans k,(AE (w:=w) (a:=(Ad g (o+i*3+1))) d).trans y,(AE (w:=w) (a:=(Ad g (o+i*3+2))) d).trans D⟩
theorem UN(h:Co w g v ps)(a:Bw w w'):Co w' g v ps:=Kg h a.size λd=>a.block g d
theorem dV{k:Nat}(h:Co w g v ps)(d:ButO k w w')(a:g≠k):Co w' g v ps:=Kg h d.size λf=>d.block g f a
theorem Xa{B:Nat}(h:w.ownsRow B 87 3 v ps.length (Cw ps)):∃g,(g=B\/(B<=g/\g<w.heap.size))/\Co w g v ps:=by
 have d:=h
 rcases h.2 with ⟨rfl,l⟩|⟨g,f,u,rfl,l,n,t,x,z,y⟩
 . obtain rfl:ps=[]:=BC l
   exact⟨B,.inl rfl,none,0,rfl,Ai _,AV _,λh=>absurd rfl h⟩
 . have a:=(As n)
   refine⟨g,.inr ⟨l,a⟩,_,f,rfl,t,x,λ_=>⟨0,rfl,a,λj=>d.frozenAt j,λi q m=>?_⟩⟩;have a:=(De m);have k:=Sb ps i q m;refine⟨?_,?_,?_⟩
   . rw[DC,d.cellAt _ (by omega)];exact k 0 (by omega)
   . rw[DC,d.cellAt _ (by omega)];exact k 1 (by omega)
   . rw[DC,d.cellAt _ (by omega)];exact k 2 (by omega)
theorem Kf(h:Co w g v (p :: ps)):∃o c,v=.slice (some (Ad g o)) (ps.length+1) c/\ps.length+1<=c/\c<=maxLen/\g<w.heap.size/\(∀j,w.frozen? (Ad g j)=false) /\
    w.cell? (Ad g o)=some (I6 p.keep)/\w.cell? (Ad g (o+1))=some (I6 p.drop)/\w.cell? (Ad g (o+2))=some (Sx p.put):=by
 obtain⟨q,c,rfl,m,n,i⟩:=h;obtain⟨o,rfl,l,t,k⟩:=i (by simp);obtain⟨a,d,f⟩:=k 0 p rfl;simp only[FT,EI]at a d f;exact⟨o,c,rfl,m,n,l,t,a,d,f⟩
theorem gt(h:Co w g (.slice (some (Ad g o)) (ps.length+1) c) (p :: ps))(E:w.heap.size<=w'.heap.size)(y:∀j,w'.frozen? (Ad g j)=w.frozen? (Ad g j))(a:∀j,o+3<=j->w'.cell? (Ad g j)=w.cell? (Ad g j)) :
    Co w' g (.slice (some (Ad g (o+3))) ps.length (c - 1)) ps:=by
 obtain⟨q,D,e,z,G,n⟩:=h;obtain⟨o',rfl,F,C,m⟩:=n (by simp);simp only[Value.slice.injEq,Option.some.injEq,Addr.mk.injEq,true_and,and_true]at e;obtain⟨t,_,x⟩:=e;subst t x;simp only[AJ]at z;refine⟨_,c - 1,rfl,by omega,by omega,λu=>⟨o+3,rfl,by omega,λj=>(y j).trans (C j),λi q l=>?_⟩⟩;obtain⟨d,f,k⟩:=m (i+1) q (by simpa using l);rw[show o+(i+1)*3=o+3+i*3 by omega]at d f k;exact⟨(a _ (by omega)).trans d,(a _ (by omega)).trans f,(a _ (by omega)).trans k⟩
theorem UO{a:Pt}(h:Co w g (.slice (some (Ad g o)) (ps.length+1) c) (p :: ps))(I:w.heap.size<=w'.heap.size)(k:∀j,w'.frozen? (Ad g j)=w.frozen? (Ad g j))(d:∀j,o+3<=j->w'.cell? (Ad g j)=w.cell? (Ad g j))
    (x:w'.cell? (Ad g o)=some (I6 a.keep)) (z:w'.cell? (Ad g (o+1))=some (I6 a.drop)) (y:w'.cell? (Ad g (o+2))=some (Sx a.put)) :
    Co w' g (.slice (some (Ad g o)) (ps.length+1) c) (a :: ps):=by
 obtain⟨q,J,e,l,n,E⟩:=h;obtain⟨o',rfl,H,D,t⟩:=E (by simp);simp only[Value.slice.injEq,Option.some.injEq,Addr.mk.injEq,true_and,and_true]at e;obtain⟨u,_,F⟩:=e;subst u F;refine⟨_,c,rfl,l,n,λ_=>⟨o,rfl,by omega,λj=>(k j).trans (D j),λi q f=>?_⟩⟩
 cases i with
 | zero =>
  obtain rfl:a=q:=by simpa using f
  simp only[FT,EI];exact⟨x,z,y⟩
 | succ i =>
  obtain⟨m,C,G⟩:=t (i+1) q (by simpa using f);exact⟨(d _ (by omega)).trans m,(d _ (by omega)).trans C,(d _ (by omega)).trans G⟩
theorem frozen_of_heap{w:World}{b:Nat}{a:Array Value}{t:TypeId}(h:w.heap[b]?=some (Oc a t))(j:Nat):w.frozen? (Ad b j)=false:=by
 simp[World.frozen?,h]
theorem IE{w a:World}{R P:Array Value}{T S:TypeId}(d:Below ((w.alloc (Oc R T)).alloc (Oc P S)).heap.size ((w.alloc (Oc R T)).alloc (Oc P S)) a) :
    a.heap[w.heap.size]?=some (Oc R T)/\a.heap[w.heap.size+1]?=some (Oc P S)/\Bw w a:=by
 refine⟨(d.block _ (by simp only[AN];omega)).trans ((heap_alloc_old _ _ (by rw[Bb];omega)).trans (heap_alloc_new _ _)),(d.block _ (by simp only[AN];omega)).trans (by have:=heap_alloc_new (w.alloc (Oc R T)) (Oc P S);rwa[AN]at this),?_⟩;exact(((A9 _ w).alloc (Ai _) _).alloc (by rw[Bb];omega) _).trans (d.mono (by simp only[AN];omega))
theorem Ru(h:Co w g (.slice (some (Ad g o)) (ps.length+1) c) (p :: ps))(d:Bw w w') :
    Co w' g (.slice (some (Ad g (o+3))) ps.length (c - 1)) ps/\(c=1->Co w' g (.slice (some (Ad g o)) ps.length 0) ps):=by
 have a:g<w.heap.size:=by obtain⟨_,_,_,_,_,a,_⟩:=Kf h;exact a
 refine⟨gt h d.size (λj=>d.frozen (p:=(Ad g j)) a) λj _=>zC d g j a,λi=>?_⟩;obtain⟨_,_,e,f,_⟩:=h;simp only[Value.slice.injEq,AJ]at e f;obtain rfl:ps=[]:=BC (by omega);exact⟨_,0,rfl,Ai _,AV _,λh=>absurd rfl h⟩
theorem Lw(g:Nat)(v:Value)(p:Pt)(ps:List Pt)(n:Nat)(w:World)(h:Co w g v (p :: ps))(F:0<=p.keep/\0<=p.drop)(m:Ba p=n)(W:n<1000000000) :
    Cg 157 #[v,I6 n] w λe w'=>∃y,e=.returned (.tuple #[Cv p,y])/\Co w' g y ps/\ButO g w w':=by
 have H:=Aa h;obtain⟨o,c,rfl,Z,h2,h3,t,x,Q,N⟩:=Kf h;have cL:Hid (∀j,Cg 156 #[Cv p] j (Rt j (I6 n))):=λj=>by
  have:=OK p j F (by unfold Ba at m;omega);rw[show p.keep+p.drop+(p.put.length:Int)=n from m]at this;exact this
 obtain⟨K,D,U⟩:=p;simp only at x Q N;have I:w.cell? (Ad g (o+0))=some (I6 K):=x;have R:=t o;have J:(1:Int)<=(ps.length:Int)+1:=by omega
 unfold Cv at cL;clear h m F t
 go_enter func157,ntmps157
 go_wp2_with (go_at_call 156;refine(cL.out _).mono ?_;rintro e i ⟨rfl,f⟩;obtain⟨d,k,q⟩:=IE f;have C:=Aa q;have S:=cQ d 0 rfl;have P:=cQ d 1 rfl;have G:=cQ d 2 rfl;have p0:=cQ k 0 rfl;have X:=cQ k 1 rfl;have Y:=cQ k 2 rfl;have rF:=fZ d 0;have L:=fZ d 1;have O:=fZ d 2;clear d k q f)
 have E:(i.setCell (Ad w.heap.size 0) (I6 K)).cell? (Ad w.heap.size 0)=some (I6 K):=AU _ _ _ S;have u:((i.setCell (Ad w.heap.size 0) (I6 K)).setCell (Ad w.heap.size 1) (I6 D)).cell? (Ad w.heap.size 1)=some (I6 D):=by
  have:(i.setCell (Ad w.heap.size 0) (I6 K)).cell? (Ad w.heap.size 1)=some (I6 0):=by simp[go_sem,P]
  exact AU _ _ _ this
 have z:(((i.setCell (Ad w.heap.size 0) (I6 K)).setCell (Ad w.heap.size 1) (I6 D)).setCell (Ad w.heap.size 2) (Sx U)).cell? (Ad w.heap.size 2)=some (Sx U):=by
  have:((i.setCell (Ad w.heap.size 0) (I6 K)).setCell (Ad w.heap.size 1) (I6 D)).cell? (Ad w.heap.size 2)=some (.string ⟨#[]⟩):=by simp[go_sem,G]
  exact AU _ _ _ this
 go_region
 all_goals go_wp2
 . have l:c=1:=by assumption
   subst l;refine bodyPost_ret (v:=.tuple #[.agg #[I6 K,I6 D,Sx U],.slice (some (Ad g o)) ps.length 0]) (by simp[results,results157,go_sem,E,u,z]) rfl ?_;have a:=((((C.out.setCell (p:=(Ad w.heap.size 0)) (Ai _) (I6 K)).setCell (p:=(Ad w.heap.size 1)) (Ai _) (I6 D)).setCell (p:=(Ad w.heap.size 2)) (Ai _) (Sx U)).drew);exact⟨_,rfl,(Ru H.out a).2 rfl,.of a⟩
 . refine bodyPost_ret (v:=.tuple #[.agg #[I6 K,I6 D,Sx U],.slice (some (Ad g (o+3))) ps.length (c - 1)]) (by simp[results,results157,go_sem,E,u,z]) rfl ?_
   have a:=((((C.out.setCell (p:=(Ad w.heap.size 0)) (Ai _) (I6 K)).setCell (p:=(Ad w.heap.size 1)) (Ai _) (I6 D)).setCell (p:=(Ad w.heap.size 2)) (Ai _) (Sx U)).drew);exact⟨_,rfl,(Ru H.out a).1,.of a⟩
end
section
attribute [local go_sem] Oper.semAt_some
variable {w : World}{b : Nat}
theorem JU{o o':Nat}{x:Value}(h:o≠o'):(w.setCell (Ad b o) x).cell? (Ad b o')=w.cell? (Ad b o'):=FV _ _ _ _ (by intro e;simp only[Addr.mk.injEq]at e;omega)
theorem Ou{l j i:Value}(n:w.cell? (Ad b 0)=some l)(t:w.cell? (Ad b 1)=some j)(m:w.cell? (Ad b 2)=some i)(a d f:Value) :
    (w.setCell (Ad b 0) a).cell? (Ad b 0)=some a/\((w.setCell (Ad b 0) a).setCell (Ad b 1) d).cell? (Ad b 1)=some d/\(((w.setCell (Ad b 0) a).setCell (Ad b 1) d).setCell (Ad b 2) f).cell? (Ad b 2)=some f /\
    (((w.setCell (Ad b 0) a).setCell (Ad b 1) d).setCell (Ad b 2) f).heap.size=w.heap.size/\∀k,k≠b->(((w.setCell (Ad b 0) a).setCell (Ad b 1) d).setCell (Ad b 2) f).heap[k]?=w.heap[k]?:=by
 have u:(w.setCell (Ad b 0) a).cell? (Ad b 1)=some j:=by rw[JU (by omega)];exact t
 have q:((w.setCell (Ad b 0) a).setCell (Ad b 1) d).cell? (Ad b 2)=some i:=by rw[JU (by omega),JU (by omega)];exact m
 refine⟨AU _ _ _ n,AU _ _ _ u,AU _ _ _ q,by simp,λk h=>?_⟩;rw[BF _ _ _ _ (by show k≠b;exact h),BF _ _ _ _ (by show k≠b;exact h),BF _ _ _ _ (by show k≠b;exact h)]
theorem ButO.trans'{g:Nat}{A Z:World}(h:ButO g w A)(j:Z.heap.size=A.heap.size)(i:∀k,k<w.heap.size->Z.heap[k]?=A.heap[k]?)(d:Z.os=A.os/\Z.tape=A.tape/\Z.output=A.output):ButO g w Z :=
 ⟨d.1.trans h.os,d.2.1.trans h.tape,d.2.2.trans h.output,by rw[j];exact h.size,λk a f=>(i k a).trans (h.block k a f)⟩
theorem bZ(g:Nat)(v:Value)(K:Int)(ps:List Pt)(n:Nat)(w:World)(h:Co w g v (⟨K,0,[]⟩ :: ps))(h0:0<n)(hn:(n:Int)<K)(Y:K<1000000000) :
    Cg 157 #[v,I6 n] w λe w'=>∃U,e=.returned (.tuple #[Cv ⟨n,0,[]⟩,U])/\Co w' g U (⟨K - n,0,[]⟩ :: ps)/\ButO g w w':=by
 have H:=Aa h;obtain⟨o,c,rfl,h1,h2,h3,P,L,W,S⟩:=Kf h;have cL:Hid (∀F,Cg 156 #[Cv ⟨K,0,[]⟩] F (Rt F (I6 K))):=λF=>by
  have:=OK ⟨K,0,[]⟩ F ⟨by simp<;>omega,by simp<;>omega⟩ (by simp<;>omega);simpa using this
 have J:=KD ⟨K,0,[]⟩;have cD:=OJ ⟨K,0,[]⟩;have I:decide (0<(⟨K,0,[]⟩:Pt).keep)=true:=decide_eq_true (show 0<K by omega);rw[I]at J;have hne:¬K=(n:Int):=by omega
 have hw1: -9223372036854775808<=K - (n:Int):=by omega
 have hw2:K - (n:Int)<9223372036854775808:=by omega
 simp only at L W S;have N:=Aa P;have hgw:¬g=w.heap.size:=by omega
 have hwg:¬w.heap.size=g:=by omega
 have C0:=Aa L;have C1:=Aa W;have C2:=Aa S;have c0':w.cell? (Ad g (o+0))=some (I6 K):=L;have t:=Aa h3;unfold Cv at cL J cD;clear h Y P
 go_enter func157,ntmps157
 go_wp2_with (first
  | (go_at_call 156;refine(cL.out _).mono ?_;rintro e w1 ⟨rfl,u⟩;obtain⟨R,D,O⟩:=IE u;have y:=Aa R;have x:=Aa D;have C:=Aa O;have p0:=cQ D 0 rfl;have p1:=cQ D 1 rfl;have p2:=cQ D 2 rfl;clear R D O u)
  | (go_at_call 74;refine(J _).mono ?_;rintro e i ⟨rfl,m⟩;have l:Hid (i.heap[w.heap.size]?=some (Oc #[I6 0,I6 0,.string ⟨#[]⟩] 87)):=(m.block _ (Cn y.out)).trans y.out;have HP2:Hid (i.heap[w.heap.size+1]?=some (Oc #[I6 K,I6 0,Sx []] 87)):=(m.block _ (Cn x.out)).trans x.out;have d:=Aa (C.out.trans (m.mono C.out.size));have r0:=cQ l.out 0 rfl;have r1:=cQ l.out 1 rfl;have r2:=cQ l.out 2 rfl;have rF:=fZ l.out 0;have rF1:=fZ l.out 1;have rF2:=fZ l.out 2;have g0:i.cell? (Ad g o)=some (I6 K):=(d.out.cell t.out).trans C0.out;have g1:i.cell? (Ad g (o+1))=some (I6 0):=(d.out.cell t.out).trans C1.out;have g2:i.cell? (Ad g (o+2))=some (Sx []):=(d.out.cell t.out).trans C2.out;have gF:i.frozen? (Ad g o)=false:=(d.out.frozen t.out).trans (N.out o);have gF1:i.frozen? (Ad g (o+1))=false:=(d.out.frozen t.out).trans (N.out _);have gF2:i.frozen? (Ad g (o+2))=false:=(d.out.frozen t.out).trans (N.out _);clear m))
 obtain⟨A,E⟩:∃A,i.setCell (Ad g (o+0)) (I6 (K - n))=A:=⟨_,rfl⟩;have G:i.setCell (Ad g o) (I6 (K - n))=A:=E;rw[G];have f:A.heap[w.heap.size]?=i.heap[w.heap.size]?:=by rw[←E];exact BF _ _ _ _ (by show w.heap.size≠g;omega)
 have e0:A.cell? (Ad w.heap.size 0)=some (I6 0):=(AE (w:=i) (a:=(Ad w.heap.size 0)) f).trans r0;have e1:A.cell? (Ad w.heap.size 1)=some (I6 0):=(AE (w:=i) (a:=(Ad w.heap.size 1)) f).trans r1;have e2:A.cell? (Ad w.heap.size 2)=some (.string ⟨#[]⟩):=(AE (w:=i) (a:=(Ad w.heap.size 2)) f).trans r2;obtain⟨s0,s1,s2,Q,X⟩:=Ou e0 e1 e2 (I6 n) (I6 0) (.string ⟨#[]⟩);refine bodyPost_ret (v:=.tuple #[.agg #[(I6 n),(I6 0),(.string ⟨#[]⟩)],.slice (some (Ad g o)) (ps.length+1) c]) (by simp[results,results157,go_sem,s0,s1,s2]) rfl ?_
 have q:Co A g (.slice (some (Ad g o)) (ps.length+1) c) (⟨K - n,0,[]⟩ :: ps):=by
  rw[←E]
  exact UO H.out (by rw[EJ];exact d.out.size) (λj=>by rw[AG];exact d.out.frozen t.out) (λj hj=>by rw[JU (by omega)];exact d.out.cell t.out)
   (AU _ _ _ g0) (by rw[JU (by omega)];exact g1) (by rw[JU (by omega)];exact g2)
 have z:ButO g w A:=by rw[←E];exact(ButO.of d.out).set _ _
 generalize hZ:((A.setCell (Ad w.heap.size 0) (I6 n)).setCell (Ad w.heap.size 1) (I6 0)).setCell (Ad w.heap.size 2) (.string ⟨#[]⟩)=Z at *;exact⟨_,rfl,Kg q (DZ Q.symm) λ_=>X g (by omega),z.trans' Q (λk hk'=>X k (by omega)) (by rw[←hZ];exact⟨rfl,rfl,rfl⟩)⟩
theorem bz(g:Nat)(v:Value)(K:Int)(ps:List Pt)(n:Nat)(w:World)(h:Co w g v (⟨0,K,[]⟩ :: ps))(h0:0<n)(hn:(n:Int)<K)(hb:K<1000000000) :
    Cg 157 #[v,I6 n] w λe w'=>∃v',e=.returned (.tuple #[Cv ⟨0,n,[]⟩,v'])/\Co w' g v' (⟨0,K - n,[]⟩ :: ps)/\ButO g w w':=by
 have H:=Aa h;obtain⟨o,c,rfl,h1,h2,h3,X,R,c1,c2⟩:=Kf h;have cL:Hid (∀L,Cg 156 #[Cv ⟨0,K,[]⟩] L (Rt L (I6 K))):=λL=>by
  have:=OK ⟨0,K,[]⟩ L ⟨by simp<;>omega,by simp<;>omega⟩ (by simp<;>omega);simpa using this
 have P:=KD ⟨0,K,[]⟩;have S:=OJ ⟨0,K,[]⟩;have O:decide (0<(⟨0,K,[]⟩:Pt).keep)=false:=rfl;have Q:decide (0<(⟨0,K,[]⟩:Pt).drop)=true:=decide_eq_true (show 0<K by omega);rw[O]at P;rw[Q]at S;have hne:¬K=(n:Int):=by omega
 have hw1: -9223372036854775808<=K - (n:Int):=by omega
 have hw2:K - (n:Int)<9223372036854775808:=by omega
 simp only at R c1 c2;have U:=Aa X;have hgw:¬g=w.heap.size:=by omega
 have hwg:¬w.heap.size=g:=by omega
 have C0:=Aa R;have C1:=Aa c1;have C2:=Aa c2;have c0':w.cell? (Ad g (o+0))=some (I6 0):=R;have x:=Aa h3;unfold Cv at cL P S;clear h hb X
 go_enter func157,ntmps157
 go_wp2_with (first
  | (go_at_call 156;refine(cL.out _).mono ?_;rintro e w1 ⟨rfl,z⟩;obtain⟨b1,G,W⟩:=IE z;have D:=Aa b1;have C:=Aa G;have F:=Aa W;have p0:=cQ G 0 rfl;have p1:=cQ G 1 rfl;have p2:=cQ G 2 rfl;clear b1 G W z)
  | (go_at_call 74;refine(P _).mono ?_;rintro e w2 ⟨rfl,u⟩;have y:Hid (w2.heap[w.heap.size]?=some (Oc #[I6 0,I6 0,.string ⟨#[]⟩] 87)):=(u.block _ (Cn D.out)).trans D.out;have m:Hid (w2.heap[w.heap.size+1]?=some (Oc #[I6 0,I6 K,Sx []] 87)):=(u.block _ (Cn C.out)).trans C.out;have I:=Aa (F.out.trans (u.mono F.out.size));have p0:=cQ m.out 0 rfl;have p1:=cQ m.out 1 rfl;have p2:=cQ m.out 2 rfl;clear u)
  | (go_at_call 114;refine(S _).mono ?_;rintro e i ⟨rfl,q⟩;have l:Hid (i.heap[w.heap.size]?=some (Oc #[I6 0,I6 0,.string ⟨#[]⟩] 87)):=(q.block _ (Cn y.out)).trans y.out;have HP3:Hid (i.heap[w.heap.size+1]?=some (Oc #[I6 0,I6 K,Sx []] 87)):=(q.block _ (Cn m.out)).trans m.out;have d:=Aa (I.out.trans (q.mono I.out.size));have r0:=cQ l.out 0 rfl;have r1:=cQ l.out 1 rfl;have r2:=cQ l.out 2 rfl;have rF:=fZ l.out 0;have rF1:=fZ l.out 1;have rF2:=fZ l.out 2;have g0:i.cell? (Ad g o)=some (I6 0):=(d.out.cell x.out).trans C0.out;have g1:i.cell? (Ad g (o+1))=some (I6 K):=(d.out.cell x.out).trans C1.out;have g2:i.cell? (Ad g (o+2))=some (Sx []):=(d.out.cell x.out).trans C2.out;have gF:i.frozen? (Ad g o)=false:=(d.out.frozen x.out).trans (U.out o);have gF1:i.frozen? (Ad g (o+1))=false:=(d.out.frozen x.out).trans (U.out _);have gF2:i.frozen? (Ad g (o+2))=false:=(d.out.frozen x.out).trans (U.out _);clear q))
 obtain⟨A,J⟩:∃A,i.setCell (Ad g (o+1)) (I6 (K - n))=A:=⟨_,rfl⟩;have N:=J;rw[N];have f:A.heap[w.heap.size]?=i.heap[w.heap.size]?:=by rw[←J];exact BF _ _ _ _ (by show w.heap.size≠g;omega)
 have e0:A.cell? (Ad w.heap.size 0)=some (I6 0):=(AE (w:=i) (a:=(Ad w.heap.size 0)) f).trans r0;have e1:A.cell? (Ad w.heap.size 1)=some (I6 0):=(AE (w:=i) (a:=(Ad w.heap.size 1)) f).trans r1;have e2:A.cell? (Ad w.heap.size 2)=some (.string ⟨#[]⟩):=(AE (w:=i) (a:=(Ad w.heap.size 2)) f).trans r2;obtain⟨s0,s1,s2,Y,hk⟩:=Ou e0 e1 e2 (I6 0) (I6 n) (.string ⟨#[]⟩);refine bodyPost_ret (v:=.tuple #[.agg #[(I6 0),(I6 n),(.string ⟨#[]⟩)],.slice (some (Ad g o)) (ps.length+1) c]) (by simp[results,results157,go_sem,s0,s1,s2]) rfl ?_
 have t:Co A g (.slice (some (Ad g o)) (ps.length+1) c) (⟨0,K - n,[]⟩ :: ps):=by
  rw[←J]
  exact UO H.out (by rw[EJ];exact d.out.size) (λj=>by rw[AG];exact d.out.frozen x.out) (λj hj=>by rw[JU (by omega)];exact d.out.cell x.out)
   (by rw[JU (by omega)];exact g0) (AU _ _ _ g1) (by rw[JU (by omega)];exact g2)
 have E:ButO g w A:=by rw[←J];exact(ButO.of d.out).set _ _
 generalize hZ:((A.setCell (Ad w.heap.size 0) (I6 0)).setCell (Ad w.heap.size 1) (I6 n)).setCell (Ad w.heap.size 2) (.string ⟨#[]⟩)=Z at *;exact⟨_,rfl,Kg t (DZ Y.symm) λ_=>hk g (by omega),E.trans' Y (λk hk'=>hk k (by omega)) (by rw[←hZ];exact⟨rfl,rfl,rfl⟩)⟩
theorem Lu(g:Nat)(v:Value)(U:List UInt8)(ps:List Pt)(n:Nat)(w:World)(h:Co w g v (⟨0,0,U⟩ :: ps))(h0:0<n)(hn:n<U.length)(hb:U.length<1000000000) :
    Cg 157 #[v,I6 n] w λe w'=>∃v',e=.returned (.tuple #[Cv ⟨0,0,U.take n⟩,v'])/\Co w' g v' (⟨0,0,U.drop n⟩ :: ps)/\ButO g w w':=by
 have H:=Aa h;obtain⟨o,c,rfl,h1,h2,h3,h4,R,c1,c2⟩:=Kf h;have cL:Hid (∀L,Cg 156 #[Cv ⟨0,0,U⟩] L (Rt L (I6 (U.length:Int)))):=λL=>by
  have:=OK ⟨0,0,U⟩ L ⟨by simp<;>omega,by simp<;>omega⟩ (by simp<;>omega);simpa using this
 have P:=KD ⟨0,0,U⟩;have S:=OJ ⟨0,0,U⟩;have O:decide (0<(⟨0,0,U⟩:Pt).keep)=false:=rfl;have Q:decide (0<(⟨0,0,U⟩:Pt).drop)=false:=rfl;rw[O]at P;rw[Q]at S;have hne:¬(U.length:Int)=(n:Int):=by omega
 have hz:(ByteArray.mk U.toArray).size=U.length:=by simp[ByteArray.size]
 have hle:n<=U.length:=by omega
 simp only at R c1 c2;have W:=Aa h4;have hgw:¬g=w.heap.size:=by omega
 have hwg:¬w.heap.size=g:=by omega
 have C0:=Aa R;have C1:=Aa c1;have C2:=Aa c2;have c0':w.cell? (Ad g (o+0))=some (I6 0):=R;have x:=Aa h3;unfold Cv at cL P S;clear h hb h4
 go_enter func157,ntmps157
 go_wp2_with (first
  | (go_at_call 156;refine(cL.out _).mono ?_;rintro e w1 ⟨rfl,z⟩;obtain⟨b1,I,b3⟩:=IE z;have E:=Aa b1;have D:=Aa I;have G:=Aa b3;have p0:=cQ I 0 rfl;have X:=cQ I 1 rfl;have Y:=cQ I 2 rfl;clear b1 I b3 z)
  | (go_at_call 74;refine(P _).mono ?_;rintro e w2 ⟨rfl,u⟩;have C:Hid (w2.heap[w.heap.size]?=some (Oc #[I6 0,I6 0,.string ⟨#[]⟩] 87)):=(u.block _ (Cn E.out)).trans E.out;have m:Hid (w2.heap[w.heap.size+1]?=some (Oc #[I6 0,I6 0,Sx U] 87)):=(u.block _ (Cn D.out)).trans D.out;have J:=Aa (G.out.trans (u.mono G.out.size));have p0:=cQ m.out 0 rfl;have X:=cQ m.out 1 rfl;have Y:=cQ m.out 2 rfl;clear u)
  | (go_at_call 114;refine(S _).mono ?_;rintro e i ⟨rfl,q⟩;have l:Hid (i.heap[w.heap.size]?=some (Oc #[I6 0,I6 0,.string ⟨#[]⟩] 87)):=(q.block _ (Cn C.out)).trans C.out;have y:Hid (i.heap[w.heap.size+1]?=some (Oc #[I6 0,I6 0,Sx U] 87)):=(q.block _ (Cn m.out)).trans m.out;have d:=Aa (J.out.trans (q.mono J.out.size));have r0:=cQ l.out 0 rfl;have r1:=cQ l.out 1 rfl;have r2:=cQ l.out 2 rfl;have rF:=fZ l.out 0;have rF1:=fZ l.out 1;have rF2:=fZ l.out 2;have g0:i.cell? (Ad g o)=some (I6 0):=(d.out.cell x.out).trans C0.out;have g1:i.cell? (Ad g (o+1))=some (I6 0):=(d.out.cell x.out).trans C1.out;have g2:i.cell? (Ad g (o+2))=some (Sx U):=(d.out.cell x.out).trans C2.out;have gF:i.frozen? (Ad g o)=false:=(d.out.frozen x.out).trans (W.out o);have gF1:i.frozen? (Ad g (o+1))=false:=(d.out.frozen x.out).trans (W.out _);have gF2:i.frozen? (Ad g (o+2))=false:=(d.out.frozen x.out).trans (W.out _);have p0:=cQ y.out 0 rfl;have X:=cQ y.out 1 rfl;have Y:=cQ y.out 2 rfl;clear q))
 obtain⟨A,K⟩:∃A,i.setCell (Ad g (o+2)) (.string ((ByteArray.mk U.toArray).extract n U.length))=A:=⟨_,rfl⟩;have N:=K;rw[N];have f:A.heap[w.heap.size]?=i.heap[w.heap.size]?:=by rw[←K];exact BF _ _ _ _ (by show w.heap.size≠g;omega)
 have e0:A.cell? (Ad w.heap.size 0)=some (I6 0):=(AE (w:=i) (a:=(Ad w.heap.size 0)) f).trans r0;have e1:A.cell? (Ad w.heap.size 1)=some (I6 0):=(AE (w:=i) (a:=(Ad w.heap.size 1)) f).trans r1;have e2:A.cell? (Ad w.heap.size 2)=some (.string ⟨#[]⟩):=(AE (w:=i) (a:=(Ad w.heap.size 2)) f).trans r2;obtain⟨s0,s1,s2,hs,hk⟩:=Ou e0 e1 e2 (I6 0) (I6 0) (.string ((ByteArray.mk U.toArray).extract 0 n));refine bodyPost_ret (v:=.tuple #[.agg #[(I6 0),(I6 0),(.string ((ByteArray.mk U.toArray).extract 0 n))],.slice (some (Ad g o)) (ps.length+1) c]) (by simp[results,results157,go_sem,s0,s1,s2]) rfl ?_
 have t:Co A g (.slice (some (Ad g o)) (ps.length+1) c) (⟨0,0,U.drop n⟩ :: ps):=by
  rw[←K]
  exact UO H.out (by rw[EJ];exact d.out.size) (λj=>by rw[AG];exact d.out.frozen x.out) (λj hj=>by rw[JU (by omega)];exact d.out.cell x.out)
   (by rw[JU (by omega)];exact g0) (by rw[JU (by omega)];exact g1) ((AU _ _ _ g2).trans (by rw[Ws]))
 have F:ButO g w A:=by rw[←K];exact(ButO.of d.out).set _ _
 generalize hZ:((A.setCell (Ad w.heap.size 0) (I6 0)).setCell (Ad w.heap.size 1) (I6 0)).setCell (Ad w.heap.size 2) (.string ((ByteArray.mk U.toArray).extract 0 n))=Z at *;exact⟨_,by rw[Wr];rfl,Kg t (DZ hs.symm) λ_=>hk g (by omega),F.trans' hs (λk hk'=>hk k (by omega)) (by rw[←hZ];exact⟨rfl,rfl,rfl⟩)⟩
end
section
attribute [local go_sem] Oper.semAt_some
theorem VO(g:Nat)(v:Value)(p:Pt)(ps:List Pt)(n:Nat)(w:World)(h:Co w g v (p :: ps))(t:Am p)(m:0<n)(k:(n:Int)<=Ba p)(j:Ba p<1000000000) :
    Cg 157 #[v,I6 n] w λe w'=>∃q,e=.returned (.tuple #[Cv (Ah p n).1,q])/\Co w' g q ((Ah p n).2++ps)/\ButO g w w':=by
 by_cases e:Ba p=n
 . have i:Ah p n=(p,[]):=by unfold Ah;rw[if_pos e]
   rw[i];exact Lw g v p ps n w h (by rcases t with ⟨a,d,f⟩|⟨a,d,f⟩|⟨a,d,f⟩<;>exact⟨by omega,by omega⟩) e (by omega)
 . obtain ⟨K,D,U⟩:=p
   have u:Ba ⟨K,D,U⟩=K+D+U.length:=rfl;rw[u]at e k j;have l:¬Ba ⟨K,D,U⟩=n:=e
   rcases t with ⟨a,d,f⟩|⟨a,d,f⟩|⟨a,d,f⟩
   . replace a:0<K:=a
     obtain rfl:D=0:=d;obtain rfl:U=[]:=f;simp only[AR,DO,Int.natCast_zero]at e k j;have i:Ah ⟨K,0,[]⟩ n=(⟨n,0,[]⟩,[⟨K - n,0,[]⟩]):=by unfold Ah;rw[if_neg l,if_pos a]
     rw[i];exact bZ g v K ps n w h m (by omega) (by omega)
   . obtain rfl:K=0:=a
     replace d:0<D:=d
     obtain rfl:U=[]:=f;simp only[AR,DO,EY,Int.natCast_zero]at e k j;have i:Ah ⟨0,D,[]⟩ n=(⟨0,n,[]⟩,[⟨0,D - n,[]⟩]):=by unfold Ah;rw[if_neg l,if_neg (by show ¬(0:Int)<0;omega),if_pos d]
     rw[i];exact bz g v D ps n w h m (by omega) (by omega)
   . obtain rfl:K=0:=a
     obtain rfl:D=0:=d;simp only[EY]at e k j;have i:Ah ⟨0,0,U⟩ n=(⟨0,0,U.take n⟩,[⟨0,0,U.drop n⟩]):=by unfold Ah;rw[if_neg l,if_neg (by show ¬(0:Int)<0;omega),if_neg (by show ¬(0:Int)<0;omega)];rfl
     rw[i];exact Lu g v U ps n w h m (by omega) (by omega)
def Cc (a:Nat):Value:=.func (.func 154) #[] #[.pointer (some (Ad (a+1) 0)),.pointer (some (Ad (a+2) 0)),.pointer (some (Ad (a+3) 0)),Pd a 0]
def I8 (M a:Nat) (s:Av) (l:List Pt) (w:World) (e:Ending) (w':World):Prop:=(∃v,e=.returned v)/\Aw M w' a (l.foldl Af s)/\BelowG M a w w'
theorem NJ{M a:Nat}{s:Av}{p:Pt}{w f w':World}{v:Value}(i:Bw w f)(ha:a<=w.heap.size)(h:Aw M w' a (Af s p))(d:BelowG M a f w'):I8 M a s [p] w (.returned v) w' :=
 ⟨⟨v,rfl⟩,h,(BelowG.of i ha).trans d⟩
theorem dO(M a β:Nat)(s:Av)(K D n y:Int)(U i:List UInt8)(w:World)(R:Hid (Aw M w a s))(E:a+3<w.heap.size)(q:Hid (w.heap[β]?=some (Oc #[Cc a] 196)))(G:Hid (∀j,Cg 115 #[.agg #[I6 n,I6 y,Sx i]] j (Rt j (.bool true))))(F:Hid (∀j,Bw w j->Cg 154 #[.agg #[I6 (i.length:Int),I6 0,.string ⟨#[]⟩],.pointer (some (Ad (a+1) 0)),.pointer (some (Ad (a+2) 0)),.pointer (some (Ad (a+3) 0)),Pd a 0] j λe w'=>(∃v,e=.returned v)/\Aw M w' a (Af s ⟨(i.length:Int),0,[]⟩)/\BelowG M a j w')) :
    Cg 179 #[.agg #[I6 K,I6 D,Sx U],.agg #[I6 n,I6 y,Sx i],Pd β 0] w (I8 M a s [⟨(i.length:Int),0,[]⟩] w):=by
 have O:(ByteArray.mk i.toArray).size=i.length:=by simp[ByteArray.size]
 go_enter func179,ntmps179
 go_wp2_with (first
  | (have _:=d;go_at_call 154;refine(F.out _ d.out).mono ?_;rintro e L ⟨⟨N,rfl⟩,l,m⟩)
  | (go_at_call 115;refine(G.out _).mono ?_;rintro e z ⟨rfl,k⟩;obtain⟨u,x,t⟩:=IE k;have h:=Aa u;have f:=Aa x;have d:=Aa t;have S:=cQ h.out 0 rfl;have Q:=cQ h.out 1 rfl;have P:=cQ h.out 2 rfl;have J:=cQ f.out 0 rfl;have H:=cQ f.out 1 rfl;have I:=cQ f.out 2 rfl;have C:z.cell? (Ad β 0)=some (Cc a):=Az ((d.out.block β (Cn q.out)).trans q.out) 0;unfold Cc at C;clear u x t k))
 go_end0;exact NJ d.out (by omega) l m
theorem dP(M a β:Nat)(s:Av)(K D t y:Int)(U q:List UInt8)(w:World)(HG:Hid (Aw M w a s))(N:a+3<w.heap.size)(C:Hid (w.heap[β]?=some (Oc #[Cc a] 196)))(R:Hid (∀h,Cg 115 #[.agg #[I6 t,I6 y,Sx q]] h (Rt h (.bool false))))(P:Hid (∀h,Cg 115 #[.agg #[I6 K,I6 D,Sx U]] h (Rt h (.bool true))))(O:Hid (∀h,Bw w h->Cg 154 #[.agg #[I6 K,I6 D,Sx U],.pointer (some (Ad (a+1) 0)),.pointer (some (Ad (a+2) 0)),.pointer (some (Ad (a+3) 0)),Pd a 0] h λe w'=>(∃v,e=.returned v)/\Aw M w' a (Af s ⟨K,D,U⟩)/\BelowG M a h w')) :
    Cg 179 #[.agg #[I6 K,I6 D,Sx U],.agg #[I6 t,I6 y,Sx q],Pd β 0] w (I8 M a s [⟨K,D,U⟩] w):=by
 have hz:(ByteArray.mk q.toArray).size=q.length:=by simp[ByteArray.size]
 go_enter func179,ntmps179
 go_wp2_with (first
  | (have _:=j;go_at_call 154;refine(O.out _ j.out).mono ?_;rintro e Y ⟨⟨Z,rfl⟩,u,x⟩)
  | (have _:=l;go_at_call 115;refine(P.out _).mono ?_;rintro e z ⟨rfl,i⟩;have k:Hid (z.heap[w.heap.size]?=some (Oc #[I6 K,I6 D,Sx U] 87)):=(i.block _ (Cn f.out)).trans f.out;have m:Hid (z.heap[w.heap.size+1]?=some (Oc #[I6 t,I6 y,Sx q] 87)):=(i.block _ (Cn d.out)).trans d.out;have j:=Aa (l.out.trans (i.mono l.out.size));have W:=cQ k.out 0 rfl;have S:=cQ k.out 1 rfl;have Q:=cQ k.out 2 rfl;have L:=cQ m.out 0 rfl;have H:=cQ m.out 1 rfl;have I:=cQ m.out 2 rfl;have J:z.cell? (Ad β 0)=some (Cc a):=Az ((j.out.block β (Cn C.out)).trans C.out) 0;unfold Cc at J;clear i)
  | (go_at_call 115;refine(R.out _).mono ?_;rintro e X ⟨rfl,n⟩;obtain⟨F,G,E⟩:=IE n;have f:=Aa F;have d:=Aa G;have l:=Aa E;have W:=cQ f.out 0 rfl;have S:=cQ f.out 1 rfl;have Q:=cQ f.out 2 rfl;have L:=cQ d.out 0 rfl;have H:=cQ d.out 1 rfl;have I:=cQ d.out 2 rfl;clear F G E n))
 go_end0;exact NJ j.out (by omega) u x
theorem iK(M a β:Nat)(s:Av)(K D z C:Int)(U n:List UInt8)(w:World)(HG:Hid (Aw M w a s))(Y:a+3<w.heap.size)(L:Hid (w.heap[β]?=some (Oc #[Cc a] 196)))(c1:Hid (∀d,Cg 115 #[.agg #[I6 z,I6 C,Sx n]] d (Rt d (.bool false))))(c2:Hid (∀d,Cg 115 #[.agg #[I6 K,I6 D,Sx U]] d (Rt d (.bool false))))(c3:Hid (∀d,Cg 74 #[.agg #[I6 z,I6 C,Sx n]] d (Rt d (.bool true))))(Z:Hid (∀d,Bw w d->Cg 154 #[.agg #[I6 K,I6 D,Sx U],.pointer (some (Ad (a+1) 0)),.pointer (some (Ad (a+2) 0)),.pointer (some (Ad (a+3) 0)),Pd a 0] d λe w'=>(∃v,e=.returned v)/\Aw M w' a (Af s ⟨K,D,U⟩)/\BelowG M a d w')) :
    Cg 179 #[.agg #[I6 K,I6 D,Sx U],.agg #[I6 z,I6 C,Sx n],Pd β 0] w (I8 M a s [⟨K,D,U⟩] w):=by
 have hz:(ByteArray.mk n.toArray).size=n.length:=by simp[ByteArray.size]
 go_enter func179,ntmps179
 go_wp2_with (first
  | (have _:=k;go_at_call 154;refine(Z.out _ k.out).mono ?_;rintro e w9 ⟨⟨v9,rfl⟩,F,G⟩)
  | (have _:=x;go_at_call 74;refine(c3.out _).mono ?_;rintro e E ⟨rfl,l⟩;have q:Hid (E.heap[w.heap.size]?=some (Oc #[I6 K,I6 D,Sx U] 87)):=(l.block _ (Cn f.out)).trans f.out;have u:Hid (E.heap[w.heap.size+1]?=some (Oc #[I6 z,I6 C,Sx n] 87)):=(l.block _ (Cn j.out)).trans j.out;have k:=Aa (x.out.trans (l.mono x.out.size));have S:=cQ q.out 0 rfl;have Q:=cQ q.out 1 rfl;have P:=cQ q.out 2 rfl;have J:=cQ u.out 0 rfl;have H:=cQ u.out 1 rfl;have I:=cQ u.out 2 rfl;have X:E.cell? (Ad β 0)=some (Cc a):=Az ((k.out.block β (Cn L.out)).trans L.out) 0;unfold Cc at X;clear l)
  | (have _:=t;go_at_call 115;refine(c2.out _).mono ?_;rintro e W ⟨rfl,m⟩;have f:Hid (W.heap[w.heap.size]?=some (Oc #[I6 K,I6 D,Sx U] 87)):=(m.block _ (Cn i.out)).trans i.out;have j:Hid (W.heap[w.heap.size+1]?=some (Oc #[I6 z,I6 C,Sx n] 87)):=(m.block _ (Cn h.out)).trans h.out;have x:=Aa (t.out.trans (m.mono t.out.size));have S:=cQ f.out 0 rfl;have Q:=cQ f.out 1 rfl;have P:=cQ f.out 2 rfl;have J:=cQ j.out 0 rfl;have H:=cQ j.out 1 rfl;have I:=cQ j.out 2 rfl;clear m)
  | (go_at_call 115;refine(c1.out _).mono ?_;rintro e w1 ⟨rfl,y⟩;obtain⟨O,R,N⟩:=IE y;have i:=Aa O;have h:=Aa R;have t:=Aa N;have S:=cQ i.out 0 rfl;have Q:=cQ i.out 1 rfl;have P:=cQ i.out 2 rfl;have J:=cQ h.out 0 rfl;have H:=cQ h.out 1 rfl;have I:=cQ h.out 2 rfl;clear O R N y))
 go_end0;exact NJ k.out (by omega) F G
theorem go(M a β:Nat)(s:Av)(K D z C:Int)(U m:List UInt8)(w:World)(Y:Hid (Aw M w a s))(R:a+3<w.heap.size)(HX:Hid (w.heap[β]?=some (Oc #[Cc a] 196)))(X:Hid (∀l,Cg 115 #[.agg #[I6 z,I6 C,Sx m]] l (Rt l (.bool false))))(W:Hid (∀l,Cg 115 #[.agg #[I6 K,I6 D,Sx U]] l (Rt l (.bool false))))(S:Hid (∀l,Cg 74 #[.agg #[I6 z,I6 C,Sx m]] l (Rt l (.bool false)))) :
    Cg 179 #[.agg #[I6 K,I6 D,Sx U],.agg #[I6 z,I6 C,Sx m],Pd β 0] w (I8 M a s [] w):=by
 have hz:(ByteArray.mk m.toArray).size=m.length:=by simp[ByteArray.size]
 go_enter func179,ntmps179
 go_wp2_with (first
  | (have _:=u;go_at_call 74;refine(S.out _).mono ?_;rintro e F ⟨rfl,j⟩;have n:Hid (F.heap[w.heap.size]?=some (Oc #[I6 K,I6 D,Sx U] 87)):=(j.block _ (Cn d.out)).trans d.out;have t:Hid (F.heap[w.heap.size+1]?=some (Oc #[I6 z,I6 C,Sx m] 87)):=(j.block _ (Cn i.out)).trans i.out;have x:=Aa (u.out.trans (j.mono u.out.size));have P:=cQ n.out 0 rfl;have N:=cQ n.out 1 rfl;have L:=cQ n.out 2 rfl;have H:=cQ t.out 0 rfl;have E:=cQ t.out 1 rfl;have G:=cQ t.out 2 rfl;clear j)
  | (have _:=q;go_at_call 115;refine(W.out _).mono ?_;rintro e Q ⟨rfl,k⟩;have d:Hid (Q.heap[w.heap.size]?=some (Oc #[I6 K,I6 D,Sx U] 87)):=(k.block _ (Cn h.out)).trans h.out;have i:Hid (Q.heap[w.heap.size+1]?=some (Oc #[I6 z,I6 C,Sx m] 87)):=(k.block _ (Cn f.out)).trans f.out;have u:=Aa (q.out.trans (k.mono q.out.size));have P:=cQ d.out 0 rfl;have N:=cQ d.out 1 rfl;have L:=cQ d.out 2 rfl;have H:=cQ i.out 0 rfl;have E:=cQ i.out 1 rfl;have G:=cQ i.out 2 rfl;clear k)
  | (go_at_call 115;refine(X.out _).mono ?_;rintro e Z ⟨rfl,y⟩;obtain⟨J,O,I⟩:=IE y;have h:=Aa J;have f:=Aa O;have q:=Aa I;have P:=cQ h.out 0 rfl;have N:=cQ h.out 1 rfl;have L:=cQ h.out 2 rfl;have H:=cQ f.out 0 rfl;have E:=cQ f.out 1 rfl;have G:=cQ f.out 2 rfl;clear J O I y))
 go_end0;exact⟨⟨_,rfl⟩,JD Y.out x.out,BelowG.of x.out (by omega)⟩
theorem dv(M a β:Nat)(s:Av)(K D y G:Int)(U m:List UInt8)(w:World)(R:Hid (Aw M w a s))(C:a+3<w.heap.size)(n:Hid (w.heap[β]?=some (Oc #[Cc a] 196)))(F:Hid (∀i,Cg 114 #[.agg #[I6 K,I6 D,Sx U]] i (Rt i (.bool true))))(E:Hid (∀i,Bw w i->Cg 154 #[.agg #[I6 K,I6 D,Sx U],.pointer (some (Ad (a+1) 0)),.pointer (some (Ad (a+2) 0)),.pointer (some (Ad (a+3) 0)),Pd a 0] i λe w'=>(∃v,e=.returned v)/\Aw M w' a (Af s ⟨K,D,U⟩)/\BelowG M a i w')) :
    Cg 116 #[.agg #[I6 K,I6 D,Sx U],.agg #[I6 y,I6 G,Sx m],Pd β 0] w (I8 M a s [⟨K,D,U⟩] w):=by
 have O:(ByteArray.mk m.toArray).size=m.length:=by simp[ByteArray.size]
 go_enter func116,ntmps116
 go_wp2_with (first
  | (have _:=d;go_at_call 154;refine(E.out _ d.out).mono ?_;rintro e L ⟨⟨N,rfl⟩,k,l⟩)
  | (go_at_call 114;refine(F.out _).mono ?_;rintro e x ⟨rfl,j⟩;obtain⟨t,u,q⟩:=IE j;have h:=Aa t;have f:=Aa u;have d:=Aa q;have S:=cQ h.out 0 rfl;have Q:=cQ h.out 1 rfl;have P:=cQ h.out 2 rfl;have J:=cQ f.out 0 rfl;have H:=cQ f.out 1 rfl;have I:=cQ f.out 2 rfl;have z:x.cell? (Ad β 0)=some (Cc a):=Az ((d.out.block β (Cn n.out)).trans n.out) 0;unfold Cc at z;clear t u q j))
 go_end0;exact NJ d.out (by omega) k l
theorem dw(M a β:Nat)(s:Av)(K D t y:Int)(U q:List UInt8)(w:World)(HG:Hid (Aw M w a s))(N:a+3<w.heap.size)(C:Hid (w.heap[β]?=some (Oc #[Cc a] 196)))(R:Hid (∀h,Cg 114 #[.agg #[I6 K,I6 D,Sx U]] h (Rt h (.bool false))))(P:Hid (∀h,Cg 74 #[.agg #[I6 t,I6 y,Sx q]] h (Rt h (.bool true))))(O:Hid (∀h,Bw w h->Cg 154 #[.agg #[I6 K,I6 D,Sx U],.pointer (some (Ad (a+1) 0)),.pointer (some (Ad (a+2) 0)),.pointer (some (Ad (a+3) 0)),Pd a 0] h λe w'=>(∃v,e=.returned v)/\Aw M w' a (Af s ⟨K,D,U⟩)/\BelowG M a h w')) :
    Cg 116 #[.agg #[I6 K,I6 D,Sx U],.agg #[I6 t,I6 y,Sx q],Pd β 0] w (I8 M a s [⟨K,D,U⟩] w):=by
 have hz:(ByteArray.mk q.toArray).size=q.length:=by simp[ByteArray.size]
 go_enter func116,ntmps116
 go_wp2_with (first
  | (have _:=j;go_at_call 154;refine(O.out _ j.out).mono ?_;rintro e Y ⟨⟨Z,rfl⟩,u,x⟩)
  | (have _:=l;go_at_call 74;refine(P.out _).mono ?_;rintro e z ⟨rfl,i⟩;have k:Hid (z.heap[w.heap.size]?=some (Oc #[I6 K,I6 D,Sx U] 87)):=(i.block _ (Cn f.out)).trans f.out;have m:Hid (z.heap[w.heap.size+1]?=some (Oc #[I6 t,I6 y,Sx q] 87)):=(i.block _ (Cn d.out)).trans d.out;have j:=Aa (l.out.trans (i.mono l.out.size));have W:=cQ k.out 0 rfl;have S:=cQ k.out 1 rfl;have Q:=cQ k.out 2 rfl;have L:=cQ m.out 0 rfl;have H:=cQ m.out 1 rfl;have I:=cQ m.out 2 rfl;have J:z.cell? (Ad β 0)=some (Cc a):=Az ((j.out.block β (Cn C.out)).trans C.out) 0;unfold Cc at J;clear i)
  | (go_at_call 114;refine(R.out _).mono ?_;rintro e X ⟨rfl,n⟩;obtain⟨F,G,E⟩:=IE n;have f:=Aa F;have d:=Aa G;have l:=Aa E;have W:=cQ f.out 0 rfl;have S:=cQ f.out 1 rfl;have Q:=cQ f.out 2 rfl;have L:=cQ d.out 0 rfl;have H:=cQ d.out 1 rfl;have I:=cQ d.out 2 rfl;clear F G E n))
 go_end0;exact NJ j.out (by omega) u x
theorem bv(M a β:Nat)(s:Av)(K D q t:Int)(U k:List UInt8)(w:World)(HG:Hid (Aw M w a s))(Y:a+3<w.heap.size)(L:Hid (w.heap[β]?=some (Oc #[Cc a] 196)))(c1:Hid (∀d,Cg 114 #[.agg #[I6 K,I6 D,Sx U]] d (Rt d (.bool false))))(c2:Hid (∀d,Cg 74 #[.agg #[I6 q,I6 t,Sx k]] d (Rt d (.bool false))))(c3:Hid (∀d,Cg 115 #[.agg #[I6 q,I6 t,Sx k]] d (Rt d (.bool true))))(Z:Hid (∀d,Bw w d->Cg 154 #[.agg #[I6 q,I6 t,Sx k],.pointer (some (Ad (a+1) 0)),.pointer (some (Ad (a+2) 0)),.pointer (some (Ad (a+3) 0)),Pd a 0] d λe w'=>(∃v,e=.returned v)/\Aw M w' a (Af s ⟨q,t,k⟩)/\BelowG M a d w')) :
    Cg 116 #[.agg #[I6 K,I6 D,Sx U],.agg #[I6 q,I6 t,Sx k],Pd β 0] w (I8 M a s [⟨q,t,k⟩] w):=by
 have hz:(ByteArray.mk k.toArray).size=k.length:=by simp[ByteArray.size]
 go_enter func116,ntmps116
 go_wp2_with (first
  | (have _:=l;go_at_call 154;refine(Z.out _ l.out).mono ?_;rintro e w9 ⟨⟨v9,rfl⟩,F,G⟩)
  | (have _:=z;go_at_call 115;refine(c3.out _).mono ?_;rintro e E ⟨rfl,m⟩;have u:Hid (E.heap[w.heap.size]?=some (Oc #[I6 K,I6 D,Sx U] 87)):=(m.block _ (Cn f.out)).trans f.out;have y:Hid (E.heap[w.heap.size+1]?=some (Oc #[I6 q,I6 t,Sx k] 87)):=(m.block _ (Cn j.out)).trans j.out;have l:=Aa (z.out.trans (m.mono z.out.size));have S:=cQ u.out 0 rfl;have Q:=cQ u.out 1 rfl;have P:=cQ u.out 2 rfl;have J:=cQ y.out 0 rfl;have H:=cQ y.out 1 rfl;have I:=cQ y.out 2 rfl;have X:E.cell? (Ad β 0)=some (Cc a):=Az ((l.out.block β (Cn L.out)).trans L.out) 0;unfold Cc at X;clear m)
  | (have _:=x;go_at_call 74;refine(c2.out _).mono ?_;rintro e W ⟨rfl,n⟩;have f:Hid (W.heap[w.heap.size]?=some (Oc #[I6 K,I6 D,Sx U] 87)):=(n.block _ (Cn i.out)).trans i.out;have j:Hid (W.heap[w.heap.size+1]?=some (Oc #[I6 q,I6 t,Sx k] 87)):=(n.block _ (Cn h.out)).trans h.out;have z:=Aa (x.out.trans (n.mono x.out.size));have S:=cQ f.out 0 rfl;have Q:=cQ f.out 1 rfl;have P:=cQ f.out 2 rfl;have J:=cQ j.out 0 rfl;have H:=cQ j.out 1 rfl;have I:=cQ j.out 2 rfl;clear n)
  | (go_at_call 114;refine(c1.out _).mono ?_;rintro e w1 ⟨rfl,C⟩;obtain⟨O,R,N⟩:=IE C;have i:=Aa O;have h:=Aa R;have x:=Aa N;have S:=cQ i.out 0 rfl;have Q:=cQ i.out 1 rfl;have P:=cQ i.out 2 rfl;have J:=cQ h.out 0 rfl;have H:=cQ h.out 1 rfl;have I:=cQ h.out 2 rfl;clear O R N C))
 go_end0;exact NJ l.out (by omega) F G
theorem bw(M a β:Nat)(s:Av)(K D q y:Int)(U j:List UInt8)(w:World)(HG:Hid (Aw M w a s))(hlt:a+3<w.heap.size)(X:Hid (w.heap[β]?=some (Oc #[Cc a] 196)))(c1:Hid (∀d,Cg 114 #[.agg #[I6 K,I6 D,Sx U]] d (Rt d (.bool false))))(c2:Hid (∀d,Cg 74 #[.agg #[I6 q,I6 y,Sx j]] d (Rt d (.bool false))))(c3:Hid (∀d,Cg 115 #[.agg #[I6 q,I6 y,Sx j]] d (Rt d (.bool false))))(c4:Hid (∀d,Cg 74 #[.agg #[I6 K,I6 D,Sx U]] d (Rt d (.bool true))))(cA:Hid (∀d,Bw w d->Cg 154 #[.agg #[I6 q,I6 y,Sx j],.pointer (some (Ad (a+1) 0)),.pointer (some (Ad (a+2) 0)),.pointer (some (Ad (a+3) 0)),Pd a 0] d λe w'=>(∃v,e=.returned v)/\Aw M w' a (Af s ⟨q,y,j⟩)/\BelowG M a d w')) :
    Cg 116 #[.agg #[I6 K,I6 D,Sx U],.agg #[I6 q,I6 y,Sx j],Pd β 0] w (I8 M a s [⟨q,y,j⟩] w):=by
 have hz:(ByteArray.mk j.toArray).size=j.length:=by simp[ByteArray.size]
 go_enter func116,ntmps116
 go_wp2_with (first
  | (have _:=n;go_at_call 154;refine(cA.out _ n.out).mono ?_;rintro e w9 ⟨⟨v9,rfl⟩,L,P⟩)
  | (have _:=z;go_at_call 74;refine(c4.out _).mono ?_;rintro e O ⟨rfl,x⟩;have E:Hid (O.heap[w.heap.size]?=some (Oc #[I6 K,I6 D,Sx U] 87)):=(x.block _ (Cn k.out)).trans k.out;have C:Hid (O.heap[w.heap.size+1]?=some (Oc #[I6 q,I6 y,Sx j] 87)):=(x.block _ (Cn l.out)).trans l.out;have n:=Aa (z.out.trans (x.mono z.out.size));have S:=cQ E.out 0 rfl;have R:=cQ E.out 1 rfl;have Q:=cQ E.out 2 rfl;have N:=cQ C.out 0 rfl;have I:=cQ C.out 1 rfl;have J:=cQ C.out 2 rfl;have yf:O.cell? (Ad β 0)=some (Cc a):=Az ((n.out.block β (Cn X.out)).trans X.out) 0;unfold Cc at yf;clear x)
  | (have _:=G;go_at_call 115;refine(c3.out _).mono ?_;rintro e W ⟨rfl,t⟩;have k:Hid (W.heap[w.heap.size]?=some (Oc #[I6 K,I6 D,Sx U] 87)):=(t.block _ (Cn f.out)).trans f.out;have l:Hid (W.heap[w.heap.size+1]?=some (Oc #[I6 q,I6 y,Sx j] 87)):=(t.block _ (Cn m.out)).trans m.out;have z:=Aa (G.out.trans (t.mono G.out.size));have S:=cQ k.out 0 rfl;have R:=cQ k.out 1 rfl;have Q:=cQ k.out 2 rfl;have N:=cQ l.out 0 rfl;have I:=cQ l.out 1 rfl;have J:=cQ l.out 2 rfl;clear t)
  | (have _:=F;go_at_call 74;refine(c2.out _).mono ?_;rintro e w2 ⟨rfl,u⟩;have f:Hid (w2.heap[w.heap.size]?=some (Oc #[I6 K,I6 D,Sx U] 87)):=(u.block _ (Cn i.out)).trans i.out;have m:Hid (w2.heap[w.heap.size+1]?=some (Oc #[I6 q,I6 y,Sx j] 87)):=(u.block _ (Cn h.out)).trans h.out;have G:=Aa (F.out.trans (u.mono F.out.size));have S:=cQ f.out 0 rfl;have R:=cQ f.out 1 rfl;have Q:=cQ f.out 2 rfl;have N:=cQ m.out 0 rfl;have I:=cQ m.out 1 rfl;have J:=cQ m.out 2 rfl;clear u)
  | (go_at_call 114;refine(c1.out _).mono ?_;rintro e w1 ⟨rfl,H⟩;obtain⟨Z,b2,Y⟩:=IE H;have i:=Aa Z;have h:=Aa b2;have F:=Aa Y;have S:=cQ i.out 0 rfl;have R:=cQ i.out 1 rfl;have Q:=cQ i.out 2 rfl;have N:=cQ h.out 0 rfl;have I:=cQ h.out 1 rfl;have J:=cQ h.out 2 rfl;clear Z b2 Y H))
 go_end0;exact NJ n.out (by omega) L P
theorem dx(M a β:Nat)(s:Av)(K D E F:Int)(U t:List UInt8)(w:World)(HG:Hid (Aw M w a s))(Z:a+3<w.heap.size)(HX:Hid (w.heap[β]?=some (Oc #[Cc a] 196)))(c1:Hid (∀h,Cg 114 #[.agg #[I6 K,I6 D,Sx U]] h (Rt h (.bool false))))(c2:Hid (∀h,Cg 74 #[.agg #[I6 E,I6 F,Sx t]] h (Rt h (.bool false))))(c3:Hid (∀h,Cg 115 #[.agg #[I6 E,I6 F,Sx t]] h (Rt h (.bool false))))(c4:Hid (∀h,Cg 74 #[.agg #[I6 K,I6 D,Sx U]] h (Rt h (.bool false)))) :
    Cg 116 #[.agg #[I6 K,I6 D,Sx U],.agg #[I6 E,I6 F,Sx t],Pd β 0] w (I8 M a s [] w):=by
 have hz:(ByteArray.mk t.toArray).size=t.length:=by simp[ByteArray.size]
 go_enter func116,ntmps116
 go_wp2_with (first
  | (have _:=u;go_at_call 74;refine(c4.out _).mono ?_;rintro e S ⟨rfl,q⟩;have y:Hid (S.heap[w.heap.size]?=some (Oc #[I6 K,I6 D,Sx U] 87)):=(q.block _ (Cn j.out)).trans j.out;have x:Hid (S.heap[w.heap.size+1]?=some (Oc #[I6 E,I6 F,Sx t] 87)):=(q.block _ (Cn k.out)).trans k.out;have G:=Aa (u.out.trans (q.mono u.out.size));have P:=cQ y.out 0 rfl;have O:=cQ y.out 1 rfl;have N:=cQ y.out 2 rfl;have L:=cQ x.out 0 rfl;have I:=cQ x.out 1 rfl;have J:=cQ x.out 2 rfl;clear q)
  | (have _:=C;go_at_call 115;refine(c3.out _).mono ?_;rintro e Q ⟨rfl,m⟩;have j:Hid (Q.heap[w.heap.size]?=some (Oc #[I6 K,I6 D,Sx U] 87)):=(m.block _ (Cn d.out)).trans d.out;have k:Hid (Q.heap[w.heap.size+1]?=some (Oc #[I6 E,I6 F,Sx t] 87)):=(m.block _ (Cn l.out)).trans l.out;have u:=Aa (C.out.trans (m.mono C.out.size));have P:=cQ j.out 0 rfl;have O:=cQ j.out 1 rfl;have N:=cQ j.out 2 rfl;have L:=cQ k.out 0 rfl;have I:=cQ k.out 1 rfl;have J:=cQ k.out 2 rfl;clear m)
  | (have _:=z;go_at_call 74;refine(c2.out _).mono ?_;rintro e Y ⟨rfl,n⟩;have d:Hid (Y.heap[w.heap.size]?=some (Oc #[I6 K,I6 D,Sx U] 87)):=(n.block _ (Cn i.out)).trans i.out;have l:Hid (Y.heap[w.heap.size+1]?=some (Oc #[I6 E,I6 F,Sx t] 87)):=(n.block _ (Cn f.out)).trans f.out;have C:=Aa (z.out.trans (n.mono z.out.size));have P:=cQ d.out 0 rfl;have O:=cQ d.out 1 rfl;have N:=cQ d.out 2 rfl;have L:=cQ l.out 0 rfl;have I:=cQ l.out 1 rfl;have J:=cQ l.out 2 rfl;clear n)
  | (go_at_call 114;refine(c1.out _).mono ?_;rintro e w1 ⟨rfl,H⟩;obtain⟨W,X,R⟩:=IE H;have i:=Aa W;have f:=Aa X;have z:=Aa R;have P:=cQ i.out 0 rfl;have O:=cQ i.out 1 rfl;have N:=cQ i.out 2 rfl;have L:=cQ f.out 0 rfl;have I:=cQ f.out 1 rfl;have J:=cQ f.out 2 rfl;clear W X R H))
 go_end0;exact⟨⟨_,rfl⟩,JD HG.out G.out,BelowG.of G.out (by omega)⟩
theorem Yg(M a:Nat)(s:Av)(l:List Pt)(w:World)(t:Aw M w a s){T:Int}{n:Nat}(u:Bd s T n)(h:∀p∈l,Ek p)(C:T+Bj l<1000000000)(x:n<10000000)(p:Pt)(i:p∈l)(d:World)(m:Bw w d) :
    Cg 154 #[Cv p,.pointer (some (Ad (a+1) 0)),.pointer (some (Ad (a+2) 0)),.pointer (some (Ad (a+3) 0)),Pd a 0] d λe w'=>(∃v,e=.returned v)/\Aw M w' a (Af s p)/\BelowG M a d w':=by
 refine Ni a s p d (JD t m) u (h p i) ?_ x;have D:Ee p<=Bj l:=by
  obtain⟨j,y,rfl⟩:=List.append_of_mem i;have z:=Sn (ps:=j) λq f=>h q (by simp[f]);have k:=Sn (ps:=y) λq f=>h q (by simp[f]);unfold Bj at z k ⊢;simp only[BM,DK,AY,BQ];omega
 omega
theorem Yh(M a β:Nat)(s:Av)(i d:Pt)(w:World)(m:Aw M w a s)(z:w.heap[β]?=some (Oc #[Cc a] 196)){T:Int}{n:Nat}(F:Bd s T n)(H:∀p∈Ea (i,d),Ek p)(G:T+Bj (Ea (i,d))<1000000000)(I:n<10000000) :
    Cg 179 #[Cv i,Cv d,Pd β 0] w (I8 M a s (Ea (i,d)) w):=by
 have u:=Yg M a s _ w m F H G I;have t:=MI d;have x:=MI i;have y:=KD d;have k:=Hf m;obtain⟨K,D,U⟩:=i;obtain⟨h,j,f⟩:=d
 by_cases q:f≠[]
 . have l:Ea (⟨K,D,U⟩,⟨h,j,f⟩)=[⟨f.length,0,[]⟩]:=by unfold Ea;rw[if_pos (by simp[Au,q])]
   rw[show decide ((⟨h,j,f⟩:Pt).put≠[])=true from decide_eq_true q]at t;rw[l]at u ⊢;exact dO M a β s K D h j U f w m k z t (u _ (List.mem_singleton.2 rfl))
 . rw [show decide ((⟨h,j,f⟩:Pt).put≠[])=false from decide_eq_false q]at t
   by_cases C:U≠[]
   . have l:Ea (⟨K,D,U⟩,⟨h,j,f⟩)=[⟨K,D,U⟩]:=by unfold Ea;rw[if_neg (by simpa[Au] using q),if_pos (by simp[Au,C])]
     rw[show decide ((⟨K,D,U⟩:Pt).put≠[])=true from decide_eq_true C]at x;rw[l]at u ⊢;exact dP M a β s K D h j U f w m k z t x (u _ (List.mem_singleton.2 rfl))
   . rw [show decide ((⟨K,D,U⟩:Pt).put≠[])=false from decide_eq_false C]at x
     by_cases E:0<h
     . have l:Ea (⟨K,D,U⟩,⟨h,j,f⟩)=[⟨K,D,U⟩]:=by unfold Ea;rw[if_neg (by simpa[Au] using q),if_pos (by simp[Gv,E])]
       rw[show decide (0<(⟨h,j,f⟩:Pt).keep)=true from decide_eq_true E]at y;rw[l]at u ⊢;exact iK M a β s K D h j U f w m k z t x y (u _ (List.mem_singleton.2 rfl))
     . have l:Ea (⟨K,D,U⟩,⟨h,j,f⟩)=[]:=by
         unfold Ea;rw[if_neg (by simpa[Au] using q),if_neg];simp only[Au,Gv,DX,decide_eq_true_eq,not_or];exact⟨C,E⟩
       rw[show decide (0<(⟨h,j,f⟩:Pt).keep)=false from decide_eq_false E]at y;rw[l];exact go M a β s K D h j U f w m k z t x y
theorem br(M a β:Nat)(s:Av)(i j:Pt)(w:World)(q:Aw M w a s)(x:w.heap[β]?=some (Oc #[Cc a] 196)){T:Int}{n:Nat}(I:Bd s T n)(L:∀p∈Do (i,j),Ek p)(J:T+Bj (Do (i,j))<1000000000)(N:n<10000000) :
    Cg 116 #[Cv i,Cv j,Pd β 0] w (I8 M a s (Do (i,j)) w):=by
 have m:=Yg M a s _ w q I L J N;have t:=OJ i;have u:=KD j;have y:=MI j;have E:=KD i;have k:=Hf q;obtain⟨K,D,U⟩:=i;obtain⟨d,h,f⟩:=j
 by_cases z:0<D
 . have l:Do (⟨K,D,U⟩,⟨d,h,f⟩)=[⟨K,D,U⟩]:=by unfold Do;rw[if_pos (by simp[Dg,z])]
   rw[show decide (0<(⟨K,D,U⟩:Pt).drop)=true from decide_eq_true z]at t;rw[l]at m ⊢;exact dv M a β s K D d h U f w q k x t (m _ (List.mem_singleton.2 rfl))
 . rw [show decide (0<(⟨K,D,U⟩:Pt).drop)=false from decide_eq_false z]at t
   by_cases F:0<d
   . have l:Do (⟨K,D,U⟩,⟨d,h,f⟩)=[⟨K,D,U⟩]:=by unfold Do;rw[if_pos (by simp[Gv,F])]
     rw[show decide (0<(⟨d,h,f⟩:Pt).keep)=true from decide_eq_true F]at u;rw[l]at m ⊢;exact dw M a β s K D d h U f w q k x t u (m _ (List.mem_singleton.2 rfl))
   . rw [show decide (0<(⟨d,h,f⟩:Pt).keep)=false from decide_eq_false F]at u
     have H:¬((Dg (⟨K,D,U⟩:Pt) || Gv (⟨d,h,f⟩:Pt))=true):=by
      simp only[Dg,Gv,DX,decide_eq_true_eq,not_or];exact⟨z,F⟩
     by_cases G:f≠[]
     . have l:Do (⟨K,D,U⟩,⟨d,h,f⟩)=[⟨d,h,f⟩]:=by unfold Do;rw[if_neg H,if_pos (by simp[Au,G])]
       rw[show decide ((⟨d,h,f⟩:Pt).put≠[])=true from decide_eq_true G]at y;rw[l]at m ⊢;exact bv M a β s K D d h U f w q k x t u y (m _ (List.mem_singleton.2 rfl))
     . rw [show decide ((⟨d,h,f⟩:Pt).put≠[])=false from decide_eq_false G]at y
       by_cases C:0<K
       . have l:Do (⟨K,D,U⟩,⟨d,h,f⟩)=[⟨d,h,f⟩]:=by unfold Do;rw[if_neg H,if_pos (by simp[Gv,C])]
         rw[show decide (0<(⟨K,D,U⟩:Pt).keep)=true from decide_eq_true C]at E;rw[l]at m ⊢;exact bw M a β s K D d h U f w q k x t u y E (m _ (List.mem_singleton.2 rfl))
       . have l:Do (⟨K,D,U⟩,⟨d,h,f⟩)=[]:=by
           unfold Do;rw[if_neg H,if_neg];simp only[Au,Gv,DX,decide_eq_true_eq,not_or];exact⟨G,C⟩
         rw[show decide (0<(⟨K,D,U⟩:Pt).keep)=false from decide_eq_false C]at E;rw[l];exact dx M a β s K D d h U f w q k x t u y E
variable {M a g1 g2 n : Nat}{bx : List (Nat × Obj)}{w W W' : World}{v1 v2 : Value}{A B : List Pt}{s : Av}{T : Int}{t : Pt × Pt → List Pt}{x : Pt × Pt}{l : List (Pt × Pt)}
theorem gj(M a β j:Nat)(s:Av)(d f:Pt)(w:World)(m:Aw M w a s)(q:w.heap[β]?=some (Oc #[Cc a] 196))(h:w.heap[j]?=some (Oc #[.func (.func 179) #[] #[Pd β 0]] 201)){T:Int}{n:Nat}(F:Bd s T n)(J:∀p∈Ea (f,d),Ek p)(H:T+Bj (Ea (f,d))<1000000000)(Q:n<10000000) :
    Cg 180 #[Cv d,Cv f,Pd j 0] w (I8 M a s (Ea (f,d)) w):=by
 have P:=Hf m;have I:=Cn h;have E:Hid (∀i,Bw w i->Cg 179 #[Cv f,Cv d,Pd β 0] i (I8 M a s (Ea (f,d)) i)):=λi y =>
  Yh M a β s f d i (JD m y) ((y.block β (Cn q)).trans q) F J H Q
 obtain⟨K,D,U⟩:=f;obtain⟨z,N,G⟩:=d;have S:=cQ h 0 rfl;generalize Ea (⟨K,D,U⟩,⟨z,N,G⟩)=L at *;unfold Cv at E ⊢;clear m q h F J H
 go_enter func180,ntmps180
 have C:Bw w ((w.alloc (Oc #[I6 z,I6 N,Sx G] 87)).alloc (Oc #[I6 K,I6 D,Sx U] 87)):=((A9 _ w).alloc (Ai _) _).alloc (by rw[Bb];omega) _;have O:=Aa C;clear C
 go_wp2_with (go_at_call 179;refine(E.out _ O.out).mono ?_;rintro e R ⟨⟨v1,rfl⟩,u,k⟩)
 go_end0;exact⟨⟨_,rfl⟩,u,(BelowG.of O.out (by omega)).trans k⟩
inductive Ge (la lb:Pt->Bool):List Pt->List Pt->List (Pt×Pt)->Prop
 | nil:Ge la lb [] [] []
 | left {p:Pt} {a b:List Pt} {l:List (Pt×Pt)}:la p=true->Ge la lb a b l->Ge la lb (p :: a) b ((p,Dh) :: l)
 | last {q:Pt} {b:List Pt} {l:List (Pt×Pt)}:lb q=true->Ge la lb [] b l->Ge la lb [] (q :: b) ((Dh,q) :: l)
 | right {p q:Pt} {a b:List Pt} {l:List (Pt×Pt)}:la p=false->lb q=true->Ge la lb (p :: a) b l->Ge la lb (p :: a) (q :: b) ((Dh,q) :: l)
 | both {p q:Pt} {a b:List Pt} {l:List (Pt×Pt)} (n:Nat):la p=false->lb q=false->Am p->Am q->0<n->min (Ba p) (Ba q)=n->Ba p<1000000000->Ba q<1000000000 ->
     Ge la lb ((Ah p n).2++a) ((Ah q n).2++b) l->Ge la lb (p :: a) (q :: b) (((Ah p n).1,(Ah q n).1) :: l)
def LV (L:List (Nat×Obj)) (w:World):Prop:=∀x∈L,w.heap[x.1]?=some x.2
def P8 (a g1 g2:Nat) (L:List (Nat×Obj)):Prop:=∀x∈L,a+4<=x.1/\x.1≠g1/\x.1≠g2/\(∀c fz,x.2≠.cells c 5 fz)/\∀c fz,x.2≠.cells c 87 fz
structure sideI (M a g1 g2:Nat) (bx:List (Nat×Obj)) (w:World) (v1 v2:Value) (A B:List Pt) (s:Av) (W:World):Prop where
 below:Below a w W
 g:Aw M W a s
 r1:Co W g1 v1 A
 r2:Co W g2 v2 B
 b:LV bx W
theorem sideI.grow(h:sideI M a g1 g2 bx w v1 v2 A B s W)(d:Bw W W'):sideI M a g1 g2 bx w v1 v2 A B s W' :=
 ⟨h.below.trans (d.mono (by have:=Hf h.g;omega)),JD h.g d,UN h.r1 d,UN h.r2 d,λx f=>(d.block _ (Cn (h.b x f))).trans (h.b x f)⟩
theorem Vo{g:Nat}{w':World}{v:Value}{ps:List Pt}(h:Co w g v ps)(f:BelowG M a w w')(k:a+4<=g)(m:g<M):Co w' g v ps:=by
 refine Kg h f.size λj=>?_;obtain⟨o,i⟩:∃o,w.heap[g]?=some o:=⟨_,FW j⟩;rw[i];exact f.kept g o i (by omega) (by omega) (by omega) (λ_ _ d=>absurd d (by omega)) (λ_ _ d=>absurd d (by omega))
theorem sideI.took{i:Av}(h:sideI M a g1 g2 bx w v1 v2 A B s W)(d:BelowG M a W W')(u:Aw M W' a i)(y:P8 a g1 g2 bx)(C:a+4<=g1)(D:g1<M)(k:a+4<=g2)(m:g2<M):sideI M a g1 g2 bx w v1 v2 A B i W' :=
 ⟨h.below.trans d.below,u,Vo h.r1 d C D,Vo h.r2 d k m,λx j=>by
  obtain⟨E,_,_,z,q⟩:=y x j;exact d.kept _ _ (h.b x j) (by omega) (by omega) (by omega) (λc f _=>z c f) (λc f _=>q c f)⟩
structure BdS (t:Pt×Pt->List Pt) (l:List (Pt×Pt)) (s:Av) (T:Int) (n:Nat):Prop where
 bd:Bd s T n
 w:T+Bj (l.flatMap t)<1000000000
 n:n+l.length<10000000
 sound:∀x∈l,∀p∈t x,Ek p
 one:∀x∈l,(t x).length<=1
theorem Bd.more(h:Bd s T n):Bd s T (n+1):=⟨h.put,h.d0,h.dT,h.keep,by have:=h.len;omega⟩
theorem BdS.head(h:BdS t (x :: l) s T n):(∀p∈t x,Ek p)/\T+Bj (t x)<1000000000/\n<10000000:=by
 refine⟨h.sound x (by simp),?_,by have:=h.n;simp at this;omega⟩;have d:=h.w;have i:0<=Bj (l.flatMap t):=Sn λp f=>by
  obtain⟨y,j,f⟩:=List.mem_flatMap.1 f;exact h.sound y (by simp[j]) p f
 rw[CY]at d;unfold Bj at d i ⊢;rw[BM,DK]at d;omega
theorem BdS.tail(h:BdS t (x :: l) s T n):BdS t l ((t x).foldl Af s) (T+Bj (t x)) (n+1):=by
 refine⟨?_,?_,by have:=h.n;simp at this;omega,λy f=>h.sound y (by simp[f]),λy f=>h.one y (by simp[f])⟩
 . have d:=h.one x (by simp)
   have i:=h.sound x (by simp);generalize t x=L at *
   match L,d with
   | [],_=>simpa[Bj] using h.bd.more
   | [p],_ =>
    have:=h.bd.add p (i p (by simp));simpa[Bj] using this
 . have d:=h.w
   rw[CY]at d;unfold Bj at d ⊢;rw[BM,DK]at d;omega
end
section
variable {p : Pt}
abbrev Dp:=Int×UInt8
def Bl (u:List UInt8):List Dp:=u.map λc=>(-1,c)
def Dt (at':Int):Nat->List Dp
 | 0=>[]
 | k+1=>(at',0) :: Dt (at'+1) k
def Ax (at':Int):List Pt->List Dp
 | []=>[]
 | p :: ps=>Dt at' p.keep.toNat++(Bl p.put++Ax (at'+p.keep+p.drop) ps)
def Bz (mid:List Dp):List Pt->List Dp
 | []=>[]
 | p :: ps=>mid.take p.keep.toNat++(Bl p.put++Bz (mid.drop (p.keep+p.drop).toNat) ps)
def Dr (n:Int):List Dp->Int->Av->Av
 | [],pos,s=>Af s ⟨0,n - pos,[]⟩
 | (i,c) :: E,pos,s=>if i<0 then Dr n E pos (Af s ⟨0,0,[c]⟩) else Dr n E (i+1) (Af (Af s ⟨0,i - pos,[]⟩) ⟨1,0,[]⟩)
theorem bc(s:Av)(d:Int)(u:List UInt8):Af (Af s ⟨0,d,[]⟩) ⟨0,0,u⟩=Af (Af s ⟨0,0,u⟩) ⟨0,d,[]⟩:=by simp[Af]
theorem TC(n:Int):∀(E:List Dp)(pos d:Int)(s:Av),Dr n E (pos+d) (Af s ⟨0,d,[]⟩)=Dr n E pos s
 | [],pos,d,s=>by
  rw[Dr,Dr,Qs]
  congr 2
  omega
 | (i,c) :: E,pos,d,s=>by
   rw[Dr,Dr]
   by_cases f:i<0
   . rw[if_pos f,if_pos f,bc,TC n E pos d]
   . rw[if_neg f,if_neg f,Qs]
     congr 3
     congr 1
     omega
theorem TF(n:Int)(E:List Dp)(pos:Int):∀(u:List UInt8)(s:Av),Dr n (Bl u++E) pos s=Dr n E pos (Af s ⟨0,0,u⟩)
 | [],s=>by rw[IL];rfl
 | c :: u,s=>by
  show Dr n ((-1,c) :: (Bl u++E)) pos s=_;rw[Dr,if_pos (by decide),TF n E pos u,R4];rfl
theorem XF(n:Int)(E:List Dp):∀(k:Nat)(pos:Int)(s:Av),0<=pos->Dr n (Dt pos k++E) pos s=Dr n E (pos+k) (Af s ⟨k,0,[]⟩)
 | 0,pos,s,_=>by
  rw[show((0:Nat):Int)=0 from rfl,IL,DO];rfl
 | k + 1,pos,s,h=>by
  show Dr n ((pos,0) :: (Dt (pos+1) k++E)) pos s=_;rw[Dr,if_neg (by omega),XF n E k (pos+1) _ (by omega),Int.sub_self,IL,R7 _ _ _ (by omega) (by omega)]
  congr 1
  . omega
  . congr 2
    omega
theorem Ma(u:List UInt8):(Bl u).length=u.length:=by simp[Bl]
theorem NL:∀(k:Nat)(i:Int),(Dt i k).length=k
 | 0,_=>rfl
 | k+1,i=>by rw[Dt,AJ,NL k]
theorem SB(u v:List UInt8):Bl (u++v)=Bl u++Bl v:=by simp[Bl]
theorem QQ:∀(a b:Nat)(i:Int),Dt i (a+b)=Dt i a++Dt (i+a) b
 | 0,b,i=>by simp[Dt]
 | a+1,b,i=>by
  rw[show a+1+b=(a+b)+1 by omega,Dt,Dt,QQ a b];simp only[BR]
  congr 3
  omega
theorem Rl:∀(ps:List Pt)(i:Int),(∀p∈ps,0<=p.keep)->((Ax i ps).length:Int)=(ps.map Dm).sum
 | [],i,_=>rfl
 | p :: ps,i,h=>by
  have f:=h p (by simp);have:=Rl ps (i+p.keep+p.drop) λq d=>h q (by simp[d]);simp only[Ax,AA,NL,Ma,AY,BQ,Dm]
  push_cast
  rw[this];omega
theorem L5(h:Am p):(∃u,u≠[]/\p=⟨0,0,u⟩)\/(∃n:Nat,p=⟨(n:Int)+1,0,[]⟩)\/∃n:Nat,p=⟨0,(n:Int)+1,[]⟩:=by
 rcases Ih h with h|⟨d,n,rfl⟩
 . exact .inl h
 . cases d with
   | true=>exact .inr (.inr ⟨n,rfl⟩)
   | false=>exact .inr (.inl ⟨n,rfl⟩)
theorem LZ(u:List UInt8):Ba ⟨0,0,u⟩=(u.length:Int):=by simp[Ba]
theorem Oe(n:Int):Ba ⟨n,0,[]⟩=n:=by simp[Ba]
theorem TU(n:Int):Ba ⟨0,n,[]⟩=n:=by simp[Ba]
theorem Le(h:Am p)(k:¬0<p.drop){n:Nat}(q:0<n)(j:(n:Int)<=Ba p)(i:Int)(ps:List Pt) :
    ((p.put=[]/\(Ah p n).1=⟨n,0,[]⟩/\Ax i (p :: ps)=Dt i n++Ax (i+n) ((Ah p n).2++ps))\/∃u,u.length=n/\p.put≠[]/\(Ah p n).1=⟨0,0,u⟩/\Ax i (p :: ps)=Bl u++Ax i ((Ah p n).2++ps)):=by
 rcases L5 h with ⟨u,f,rfl⟩|⟨m,rfl⟩|⟨m,rfl⟩
 . right
   rw[LZ]at j
   by_cases e:(u.length:Int)=n
   . have d:Ah ⟨0,0,u⟩ (n:Int)=(⟨0,0,u⟩,[]):=by unfold Ah;rw[if_pos (by rw[LZ];exact e)]
     rw[d];refine⟨u,by omega,f,rfl,?_⟩;simp[Ax,Dt]
   . have d:Ah ⟨0,0,u⟩ (n:Int)=(⟨0,0,u.take n⟩,[⟨0,0,u.drop n⟩]):=by
       unfold Ah;rw[if_neg (by rw[LZ];exact e),if_neg (by show ¬(0:Int)<0;omega),if_neg (by show ¬(0:Int)<0;omega)];rfl
     rw[d];refine⟨u.take n,by rw[AO];omega,f,rfl,?_⟩;show Dt i 0++(Bl u++Ax (i+0+0) ps)=Bl (u.take n)++(Dt i 0++(Bl (u.drop n)++Ax (i+0+0) ps));simp only[Dt,BA,←AH,←SB,AW]
 . left
   rw[Oe]at j
   by_cases e:(m:Int)+1=n
   . have d:Ah ⟨(m:Int)+1,0,[]⟩ (n:Int)=(⟨n,0,[]⟩,[]):=by unfold Ah;rw[if_pos (by rw[Oe];exact e),e]
     rw[d,e];refine⟨rfl,rfl,?_⟩;show Dt i (n:Int).toNat++([]++Ax (i+n+0) ps)=_;simp
   . have d:Ah ⟨(m:Int)+1,0,[]⟩ (n:Int)=(⟨n,0,[]⟩,[⟨(m:Int)+1 - n,0,[]⟩]):=by
       unfold Ah;rw[if_neg (by rw[Oe];exact e),if_pos (by show(0:Int)<m+1;omega)]
     rw[d];refine⟨rfl,rfl,?_⟩;show Dt i ((m:Int)+1).toNat++([]++Ax (i+(m+1)+0) ps)=Dt i n++(Dt (i+n) ((m:Int)+1 - n).toNat++([]++Ax (i+n+((m:Int)+1 - n)+0) ps));rw[show((m:Int)+1).toNat=n+((m:Int)+1 - n).toNat by omega,QQ,AH,show i+n+((m:Int)+1 - n)+0=i+(m+1)+0 by omega]
 . exact absurd (show(0:Int)<m+1 by omega) k
theorem VR{q:Pt}(h:Am q)(y:q.put=[]){n:Nat}(z:0<n)(j:(n:Int)<=Ba q)(A B:List Dp)(i:A.length=n)(d:List Pt) :
    (((Ah q n).1=⟨n,0,[]⟩/\Bz (A++B) (q :: d)=A++Bz B ((Ah q n).2++d))\/((Ah q n).1=⟨0,n,[]⟩/\Bz (A++B) (q :: d)=Bz B ((Ah q n).2++d))):=by
 rcases L5 h with ⟨u,k,rfl⟩|⟨m,rfl⟩|⟨m,rfl⟩
 . exact absurd y k
 . left
   rw[Oe]at j
   by_cases e:(m:Int)+1=n
   . have f:Ah ⟨(m:Int)+1,0,[]⟩ (n:Int)=(⟨n,0,[]⟩,[]):=by unfold Ah;rw[if_pos (by rw[Oe];exact e),e]
     rw[f,e];refine⟨rfl,?_⟩;show(A++B).take (n:Int).toNat++([]++Bz ((A++B).drop ((n:Int)+0).toNat) d)=_;simp only[DO,EC,BA];rw[DP i,ER i]
   . have f:Ah ⟨(m:Int)+1,0,[]⟩ (n:Int)=(⟨n,0,[]⟩,[⟨(m:Int)+1 - n,0,[]⟩]):=by
       unfold Ah;rw[if_neg (by rw[Oe];exact e),if_pos (by show(0:Int)<m+1;omega)]
     rw[f];refine⟨rfl,?_⟩;show(A++B).take ((m:Int)+1).toNat++([]++Bz ((A++B).drop ((m:Int)+1+0).toNat) d)=A++(B.take ((m:Int)+1 - n).toNat++([]++Bz (B.drop ((m:Int)+1 - n+0).toNat) d));rw[List.take_append,List.drop_append,AQ (by omega),DH (by omega)];simp only[BA,AH,DO];rw[show((m:Int)+1).toNat - A.length=((m:Int)+1 - n).toNat by omega]
 . right
   rw[TU]at j
   by_cases e:(m:Int)+1=n
   . have f:Ah ⟨0,(m:Int)+1,[]⟩ (n:Int)=(⟨0,n,[]⟩,[]):=by unfold Ah;rw[if_pos (by rw[TU];exact e),e]
     rw[f,e];refine⟨rfl,?_⟩;show(A++B).take (0:Int).toNat++([]++Bz ((A++B).drop (0+(n:Int)).toNat) d)=_;simp only[EY,EC,DQ,DW,BA];rw[ER i]
   . have f:Ah ⟨0,(m:Int)+1,[]⟩ (n:Int)=(⟨0,n,[]⟩,[⟨0,(m:Int)+1 - n,[]⟩]):=by
       unfold Ah;rw[if_neg (by rw[TU];exact e),if_neg (by show ¬(0:Int)<0;omega),if_pos (by show(0:Int)<m+1;omega)]
     rw[f];refine⟨rfl,?_⟩;show(A++B).take (0:Int).toNat++([]++Bz ((A++B).drop (0+((m:Int)+1)).toNat) d)=B.take (0:Int).toNat++([]++Bz (B.drop (0+((m:Int)+1 - n)).toNat) d);rw[List.drop_append,DH (by omega)];simp only[BA,EY,DQ,DW];rw[show((m:Int)+1).toNat - A.length=((m:Int)+1 - n).toNat by omega]
theorem RH(h:Am p){n:Nat}(K:0<n)(G:(n:Int)<=Ba p)(ps:List Pt):Bc (p :: ps)=n+Bc ((Ah p n).2++ps)/\(p.put=[]->Ak (p :: ps)=n+Ak ((Ah p n).2++ps))/\(p.put≠[]->Ak (p :: ps)=Ak ((Ah p n).2++ps)):=by
 rw[Ff,JO];have H:∀l,Ak (l++ps)=Ak l+Ak ps:=λl=>JT l ps;have u:Ak (p :: ps)=Ab p+Ak ps:=by simp[Ak]
 rw[H,u];obtain⟨I,J,F,y⟩:=Mz h (n:=n) (by omega) G;have d:Ba p=Ab p+p.put.length:=rfl
 by_cases e:Ba p=n
 . have E:=y.2 e
   rw[E];refine⟨by simp[Bc];omega,λk=>?_,λk=>?_⟩
   . rw[k]at d;simp only[Ak,BU,FE];simp at d;omega
   . have:Ab p=0:=by rcases h with ⟨i,j,f⟩|⟨i,j,f⟩|⟨i,j,f⟩<;>simp_all [Ab]
     simp only[Ak,BU,FE];omega
 . have D:(Ah p n).2≠[]:=λh=>e (y.1 h)
   have i:∃q,(Ah p n).2=[q]/\q.put.length=(p.put.length - if p.put=[] then 0 else n):=by
    unfold Ah;rw[if_neg e]
    rcases h with ⟨i,j,f⟩|⟨i,j,f⟩|⟨i,j,f⟩
    . rw[if_pos i];exact⟨_,rfl,by simp[f]⟩
    . rw[if_neg (by omega),if_pos j];exact⟨_,rfl,by simp[f]⟩
    . rw[if_neg (by omega),if_neg (by omega)];exact⟨_,rfl,by simp[f]⟩
   obtain⟨q,z,m⟩:=i;obtain⟨d1,d2⟩:=F q (by rw[z];simp);rw[z];have C:Ba q=Ab q+q.put.length:=rfl;refine⟨by simp[Bc];omega,λk=>?_,λk=>?_⟩
   . rw[if_pos k,k]at m
     rw[k]at d;simp only[AR]at d m;simp only[Ak,AY,BU,BQ,FE];omega
   . rw[if_neg k]at m
     have:Ab p=0:=by rcases h with ⟨i,j,f⟩|⟨i,j,f⟩|⟨i,j,f⟩<;>simp_all [Ab]
     simp only[Ak,AY,BU,BQ,FE];omega
theorem dy(N:Int):∀(f:Nat)(a b:List Pt)(i:Int)(s:Av),(∀p∈a,Am p)->(∀p∈b,Am p)->0<=i->((Ax i a).length:Int)=Ak b->i+Ak a=N->Bc a+Bc b<=f ->
    B9 Do (Bi Dg Au f a b) s=Dr N (Bz (Ax i a) b) i s:=by
 have base:∀(i:Int) (s:Av),i+Ak []=N->s=Dr N (Bz (Ax i []) []) i s:=by
  intro i s h;show s=Af s ⟨0,N - i,[]⟩;have:N - i=0:=by simp[Ak]at h;omega
  rw[this,IL]
 have L:∀(l:List Pt),(∀p∈l,Am p)->Bc l=0->l=[]:=by
  intro l hl P
  cases l with
  | nil=>rfl
  | cons p l =>
   have:=Gm (hl p (by simp));rw[Ff]at P;omega
 intro f
 induction f with
 | zero =>
  intro a b i s ha E hi z Q P;obtain rfl:=L a ha (by omega);obtain rfl:=L b E (by omega);exact base i s Q
 | succ f ih =>
  intro a b i s ha E hi z Q P
  have F:∀(a:List Pt) (u:List UInt8) (bs:List Pt),(∀p∈a,Am p)->(∀p∈(⟨0,0,u⟩:Pt) :: bs,Am p)->((Ax i a).length:Int)=Ak (⟨0,0,u⟩ :: bs)->i+Ak a=N->Bc a+Bc (⟨0,0,u⟩ :: bs)<=f+1->u≠[] ->
      B9 Do ((Dh,⟨0,0,u⟩) :: Bi Dg Au f a bs) s=Dr N (Bz (Ax i a) (⟨0,0,u⟩ :: bs)) i s:=by
   intro a u bs ha E z Q P d;have y:Do (Dh,⟨0,0,u⟩)=[⟨0,0,u⟩]:=by simp[Do,Dg,Gv,Au,Dh,d]
   show B9 Do (Bi Dg Au f a bs) ((Do (Dh,⟨0,0,u⟩)).foldl Af s)=_;rw[y];have hl:0<u.length:=List.length_pos_iff.2 d;rw[Ff,LZ]at P;rw[ih a bs i _ ha (λp hp=>E p (by simp[hp])) hi (by rw[z];simp[Ak,Ab]) Q (by omega)];show Dr N _ i (Af s ⟨0,0,u⟩)=Dr N ((Ax i a).take (0:Int).toNat++(Bl u++Bz ((Ax i a).drop ((0:Int)+0).toNat) bs)) i s;simp only[DO,DQ,DW,DE,BA];rw[TF]
  have Y:∀l:List Pt,(∀p∈l,Am p)->0<=Ak l:=by
   intro l hl
   induction l with
   | nil=>simp[Ak]
   | cons p l ih =>
    have y:=ih λq hq=>hl q (by simp[hq]);have Z:0<=Ab p:=by rcases hl p (by simp) with ⟨y,Z,h3⟩|⟨y,Z,h3⟩|⟨y,Z,h3⟩<;>simp only[Ab]<;>omega
    simp only[Ak,AY,BQ]at y ⊢;omega
  cases a with
  | nil =>
   cases b with
   | nil=>exact base i s Q
   | cons q bs =>
    have Z:=Y bs λp hp=>E p (by simp[hp]);have h0:Ak (q :: bs)=Ab q+Ak bs:=by simp[Ak]
    have C:(0:Int)=Ak (q :: bs):=z
    rcases L5 (E q (by simp)) with ⟨u,d,rfl⟩|⟨m,rfl⟩|⟨m,rfl⟩
    . have y:Bi Dg Au (f+1) [] (⟨0,0,u⟩ :: bs)=(Dh,⟨0,0,u⟩) :: Bi Dg Au f [] bs:=by rw[Bi,if_pos (by simp[Au,d])]
      rw[y];exact F [] u bs ha E z Q P d
    . have:Ab (⟨(m:Int)+1,0,[]⟩:Pt)=m+1:=by simp[Ab]
      omega
    . have:Ab (⟨0,(m:Int)+1,[]⟩:Pt)=m+1:=by simp[Ab]
      omega
  | cons p az =>
   have j:=ha p (by simp)
   by_cases K:0<p.drop
   . have y:Bi Dg Au (f+1) (p :: az) b=(p,Dh) :: Bi Dg Au f az b:=by
       cases b<;>(rw[Bi];rw[if_pos (by simp[Dg,K])])
     rw[y];have Z:Do (p,Dh)=[p]:=by simp[Do,Dg,K]
     show B9 Do (Bi Dg Au f az b) ((Do (p,Dh)).foldl Af s)=_;rw[Z];have hw2:=Gm j;rw[Ff]at P
     rcases L5 j with ⟨u,d,rfl⟩|⟨m,rfl⟩|⟨m,rfl⟩
     . exact absurd K (by show ¬(0:Int)<0;omega)
     . exact absurd K (by show ¬(0:Int)<0;omega)
     . have e:Ax i (⟨0,(m:Int)+1,[]⟩ :: az)=Ax (i+(m+1)) az:=by
         show Dt i (0:Int).toNat++([]++Ax (i+0+(m+1)) az)=_;simp[Dt]
       rw[e]at z ⊢;rw[ih az b (i+(m+1)) _ (λq hq=>ha q (by simp[hq])) E (by omega) z (by rw[←Q];simp[Ak,Ab];omega) (by omega)];exact TC N _ i _ s
   . have J:0<(Ax i (p :: az)).length:=by
       rcases L5 j with ⟨u,d,rfl⟩|⟨m,rfl⟩|⟨m,rfl⟩
       . have:0<u.length:=List.length_pos_iff.2 d
         simp only[Ax,AA,Ma];omega
       . simp only[Ax,AA,NL];omega
       . exact absurd (show(0:Int)<m+1 by omega) K
     cases b with
     | nil=>simp[Ak]at z;rw[z]at J;simp at J
     | cons q bs =>
      have D:=E q (by simp)
      by_cases d:q.put≠[]
      . rcases L5 D with ⟨u,hu',rfl⟩ | ⟨m,rfl⟩ | ⟨m,rfl⟩
        . have y:Bi Dg Au (f+1) (p :: az) (⟨0,0,u⟩ :: bs)=(Dh,⟨0,0,u⟩) :: Bi Dg Au f (p :: az) bs:=by
            rw[Bi,if_neg (by simp[Dg,K]),if_pos (by simp[Au,hu'])]
          rw[y];exact F (p :: az) u bs ha E z Q P hu'
        . exact absurd rfl d
        . exact absurd rfl d
      . have d:=Classical.not_not.1 d
        have y:Bi Dg Au (f+1) (p :: az) (q :: bs)=((Ah p (min (Ba p) (Ba q))).1,(Ah q (min (Ba p) (Ba q))).1) :: Bi Dg Au f ((Ah p (min (Ba p) (Ba q))).2++az) ((Ah q (min (Ba p) (Ba q))).2++bs):=by
         rw[Bi,if_neg (by simp[Dg,K]),if_neg (by simp[Au,d])]
        rw[y];have hlp:=Gm j;have hlq:=Gm D;obtain⟨k,hk⟩:∃k:Nat,min (Ba p) (Ba q)=(k:Int):=⟨(min (Ba p) (Ba q)).toNat,by omega⟩;rw[hk];have O:0<k:=by omega
        have kp:(k:Int)<=Ba p:=by omega
        have kq:(k:Int)<=Ba q:=by omega
        obtain⟨wp,lp,lp'⟩:=RH j O kp az;obtain⟨wq,lq,_⟩:=RH D O kq bs;have lq:=lq d;have op:=(Mz j (n:=k) (by omega) kp).2.2.1;have oq:=(Mz D (n:=k) (by omega) kq).2.2.1;have I:∀x∈(Ah p k).2++az,Am x:=by
         intro x G
         rcases List.mem_append.1 G with G|G
         . exact(op x G).1
         . exact ha x (by simp[G])
        have H:∀x∈(Ah q k).2++bs,Am x:=by
         intro x G
         rcases List.mem_append.1 G with G|G
         . exact(oq x G).1
         . exact E x (by simp[G])
        show B9 Do (Bi Dg Au f ((Ah p k).2++az) ((Ah q k).2++bs)) ((Do ((Ah p k).1,(Ah q k).1)).foldl Af s)=_
        rcases Le j K O kp i az with ⟨R,e1,e2⟩|⟨u,hul,R,e1,e2⟩
        . have lp:=lp R
          rw[e2]at z ⊢;rw[AA,NL]at z;have C:((Ax (i+k) ((Ah p k).2++az)).length:Int)=Ak ((Ah q k).2++bs):=by omega
          rcases VR D d O kq (Dt i k) (Ax (i+k) ((Ah p k).2++az)) (NL k i) bs with ⟨U,X⟩|⟨U,X⟩
          . rw[e1,U,X,XF _ _ _ _ _ hi]
            have S:Do (⟨k,0,[]⟩,⟨k,0,[]⟩)=[⟨k,0,[]⟩]:=by simp[Do,Dg,Gv,O]
            rw[S];exact ih _ _ (i+k) _ I H (by omega) C (by omega) (by omega)
          . rw[e1,U,X]
            have S:Do (⟨k,0,[]⟩,⟨0,k,[]⟩)=[⟨0,k,[]⟩]:=by simp[Do,Dg,Gv,O]
            rw[S,←TC N _ i k s];exact ih _ _ (i+k) _ I H (by omega) C (by omega) (by omega)
        . have lp':=lp' R
          rw[e2]at z ⊢;rw[AA,Ma]at z;have C:((Ax i ((Ah p k).2++az)).length:Int)=Ak ((Ah q k).2++bs):=by omega
          rcases VR D d O kq (Bl u) (Ax i ((Ah p k).2++az)) (by rw[Ma];exact hul) bs with ⟨U,X⟩|⟨U,X⟩
          . rw[e1,U,X,TF]
            have S:Do (⟨0,0,u⟩,⟨k,0,[]⟩)=[⟨0,0,u⟩]:=by simp[Do,Dg,Gv,O]
            rw[S];exact ih _ _ i _ I H hi C (by omega) (by omega)
          . rw[e1,U,X]
            have S:Do (⟨0,0,u⟩,⟨0,k,[]⟩)=[]:=by simp[Do,Dg,Gv,Au]
            rw[S];exact ih _ _ i _ I H hi C (by omega) (by omega)
end
structure G8 {X:Type} (act:X->Pt->X):Prop where
 none:∀x,act x ⟨0,0,[]⟩=x
 puts:∀x u v,act (act x ⟨0,0,u⟩) ⟨0,0,v⟩=act x ⟨0,0,u++v⟩
 drops:∀x (a b:Int),0<=a->0<=b->act (act x ⟨0,a,[]⟩) ⟨0,b,[]⟩=act x ⟨0,a+b,[]⟩
 keeps:∀x (a b:Int),0<a->0<b->act (act x ⟨a,0,[]⟩) ⟨b,0,[]⟩=act x ⟨a+b,0,[]⟩
 split:∀x k d u,act x ⟨k,d,u⟩=act (act (act x ⟨0,0,u⟩) ⟨0,d,[]⟩) ⟨k,0,[]⟩
 swap:∀x d u,act (act x ⟨0,d,[]⟩) ⟨0,0,u⟩=act (act x ⟨0,0,u⟩) ⟨0,d,[]⟩
theorem Tz{X:Type}{d:X->Pt->X}(h:G8 d)(s:Av)(x:X):(Aq s).foldl d x=d (d (s.out.foldl d x) ⟨0,0,s.put⟩) ⟨0,s.drop,[]⟩:=by
 unfold Aq;rw[BJ,BJ]
 by_cases i:s.put=[]<;>by_cases f:s.drop=0<;>simp[i,f,h.none]
theorem aX{X:Type}{d:X->Pt->X}(h:G8 d)(l:List Pt)(k:Int)(i:0<k)(x:X):(F8 l k).foldl d x=d (l.foldl d x) ⟨k,0,[]⟩:=by
 unfold F8
 cases hq:l.getLast? with
 | none=>simp
 | some q =>
  simp only
  split
  . rename_i hq0
    obtain⟨f,rfl⟩:∃f,l=f++[q]:=List.getLast?_eq_some_iff.1 hq;rw[List.dropLast_concat,BJ,BJ];simp only[BT,GB];rw[h.split _ (q.keep+k),h.split _ q.keep q.drop q.put,h.keeps _ _ _ hq0 i]
  . simp
theorem Rc{X:Type}{d:X->Pt->X}(h:G8 d)(s:Av)(p:Pt)(i:0<=s.drop)(k:0<=p.keep)(j:0<=p.drop)(x:X):(Aq (Af s p)).foldl d x=d ((Aq s).foldl d x) p:=by
 have f:d ((Aq s).foldl d x) p=d (d (d (s.out.foldl d x) ⟨0,0,s.put++p.put⟩) ⟨0,s.drop+p.drop,[]⟩) ⟨p.keep,0,[]⟩:=by
  rw[Tz h,h.split _ p.keep p.drop p.put,h.swap,h.puts,h.drops _ _ _ i j]
 rw[f];unfold Af
 split
 . rename_i h0
   rw[Tz h,h0,h.none]
 . rw[Sm,aX h _ _ (by omega),Tz h]
theorem Nt{X:Type}{d:X->Pt->X}(h:G8 d)(ps:List Pt)(f:∀p∈ps,0<=p.keep/\0<=p.drop)(x:X):(Ag ps).foldl d x=ps.foldl d x:=by
 have j:∀(ps:List Pt),(∀p∈ps,0<=p.keep/\0<=p.drop)->∀s,Iw s->(Aq (ps.foldl Af s)).foldl d x=ps.foldl d ((Aq s).foldl d x):=by
  intro ps
  induction ps with
  | nil=>intros;rfl
  | cons p ps ih =>
   intro f s k;have i:=f p (by simp);rw[BT,ih (λq m=>f q (by simp[m])) _ (Tk k p i.1 i.2),Rc h s p k.drop i.1 i.2];rfl
 exact j ps f A7 ⟨by simp[A7],by simp[A7]⟩
def Ib (x:List Dp×Int) (p:Pt):List Dp×Int:=(x.1++(Bl p.put++Dt (x.2+p.drop) p.keep.toNat),x.2+p.drop+p.keep)
def Id (x:List Dp×List Dp) (p:Pt):List Dp×List Dp:=(x.1++(Bl p.put++(x.2.drop p.drop.toNat).take p.keep.toNat),(x.2.drop p.drop.toNat).drop p.keep.toNat)
theorem LH:G8 Ib:=by
 constructor
 . intro x;simp[Ib,Bl,Dt]
 . intro x u v;simp[Ib,SB,Dt]
 . intro x a b _ _;simp[Ib,Dt,Bl];omega
 . intro x a b ha f
   simp only[Ib,Bl,BU,BA,DO];rw[show(a+b).toNat=a.toNat+b.toNat by omega,QQ,AH,show x.2+(a.toNat:Int)=x.2+a by omega];simp;omega
 . intro x k d u;simp[Ib,Dt,Bl]
 . intro x d u;simp[Ib,Dt,Bl]
theorem LJ:G8 Id:=by
 constructor
 . intro x;simp[Id,Bl]
 . intro x u v;simp[Id,SB]
 . intro x a b ha f
   simp only[Id,Bl,BU,DQ,DW,AZ,DI,EI];rw[show a.toNat+b.toNat=(a+b).toNat by omega]
 . intro x a b ha f
   simp only[Id,Bl,BU,BA,DQ,DE,DI,AH];rw[show(a+b).toNat=a.toNat+b.toNat by omega,FM];simp only[EI]
 . intro x k d u;simp[Id,Bl]
 . intro x d u;simp[Id,Bl]
theorem Ty:∀(ps:List Pt),(∀p∈ps,Am p)->∀(l:List Dp)(i:Int),ps.foldl Ib (l,i)=(l++Ax i ps,i+Ak ps)
 | [],_,l,i=>by simp[Ax,Ak]
 | p :: ps,h,l,i=>by
  have ih:=Ty ps (λq d=>h q (by simp[d]));rw[BT,Ib,ih];have f:Ak (p :: ps)=Ab p+Ak ps:=by simp[Ak]
  rw[f]
  rcases L5 (h p (by simp)) with ⟨u,j,rfl⟩|⟨m,rfl⟩|⟨m,rfl⟩
  . simp[Ax,Dt,Ab,Bl]
  . simp[Ax,Ab,Bl];omega
  . simp[Ax,Dt,Ab,Bl];omega
theorem Tx:∀(ps:List Pt),(∀p∈ps,Am p)->∀(l d:List Dp),(ps.foldl Id (l,d)).1=l++Bz d ps
 | [],_,l,d=>by simp[Bz]
 | p :: ps,h,l,d=>by
  have ih:=Tx ps (λq f=>h q (by simp[f]));rw[BT,Id,ih]
  rcases L5 (h p (by simp)) with ⟨u,i,rfl⟩|⟨m,rfl⟩|⟨m,rfl⟩
  . simp[Bz,Bl]
  . simp[Bz,Bl]
  . simp[Bz,Bl]
theorem Da{ps:List Pt}(h:∀p∈ps,Am p):∀p∈ps,0<=p.keep/\0<=p.drop:=by
 intro p j
 rcases h p j with ⟨d,i,f⟩|⟨d,i,f⟩|⟨d,i,f⟩<;>exact⟨by omega,by omega⟩
theorem WG(ps:List Pt)(h:∀p∈ps,Am p):Ax 0 (Ag ps)=Ax 0 ps:=by
 have e:=Nt LH ps (Da h) ([],0);rw[Ty ps h,Ty _ (Nx ps (Da h))]at e;simpa using congrArg Prod.fst e
theorem ct(ps:List Pt)(h:∀p∈ps,Am p)(d:List Dp):Bz d (Ag ps)=Bz d ps:=by
 have e:=congrArg Prod.fst (Nt LJ ps (Da h) ([],d));rw[Tx ps h,Tx _ (Nx ps (Da h))]at e;simpa using e
def Iy (acc:List UInt8):Nat->(List UInt8->Dj)->Dj
 | 0,f=>f acc
 | m+1,f=>((acc,true) :: (Iy [] m f).1,(Iy [] m f).2)
def Dk (n:Int):List Dp->List UInt8->Int->Dj
 | [],acc,pos=>Iy acc (n - pos).toNat λacc=>([],acc)
 | (i,c) :: E,acc,pos=>if i<0 then Dk n E (acc++[c]) pos else Iy acc (i - pos).toNat λacc=>((acc,false) :: (Dk n E [] (i+1)).1,(Dk n E [] (i+1)).2)
def Fb (n:Int):List Dp->Int->Prop
 | [],pos=>pos<=n
 | (i,c) :: E,pos=>if i<0 then Fb n E pos else pos<=i/\i<n/\Fb n E (i+1)
def Ls (s:Av) (g:Dj):Av:=Af (g.1.foldl Mx s) ⟨0,0,g.2⟩
theorem Un(f:List UInt8->Dj)(K:Av->Av)(h:∀d s,Ls s (f d)=K (Af s ⟨0,0,d⟩)):∀(m:Nat)(d:List UInt8)(s:Av),Ls s (Iy d m f)=K (Af (Af s ⟨0,0,d⟩) ⟨0,m,[]⟩)
 | 0,d,s=>by
  rw[show((0:Nat):Int)=0 from rfl,IL];exact h d s
 | m+1,d,s=>by
  show Ls (Mx s (d,true)) (Iy [] m f)=_;rw[Un f K h m];show K (Af (Af (Af (Af s ⟨0,0,d⟩) ⟨0,1,[]⟩) ⟨0,0,[]⟩) ⟨0,m,[]⟩)=_;rw[IL,Qs]
  congr 3
  omega
theorem TE(n:Int):∀(E:List Dp)(d:List UInt8)(pos:Int)(s:Av),Fb n E pos->Ls s (Dk n E d pos)=Dr n E pos (Af s ⟨0,0,d⟩)
 | [],d,pos,s,h=>by
  have h:pos<=n:=h;rw[Dk,Un _ id (λd s=>rfl),Dr];show Af _ _=_;rw[FX (by omega)]
 | (i, c) :: E,d,pos,s,h=>by
   rw[Fb]at h;rw[Dk,Dr]
   by_cases f:i<0
   . rw[if_pos f]at h ⊢
     rw[if_pos f,TE n E _ pos s h,R4]
   . rw [if_neg f]at h ⊢
     rw[if_neg f,Un _ (λs=>Dr n E (i+1) (Af s ⟨1,0,[]⟩))]
     . rw[FX (by omega)]
     . intro d s
       have:=TE n E [] (i+1) (Mx s (d,false)) h.2.2;rw[IL]at this;exact this
structure O0 where
 put:List (List UInt8)
 drop:List Bool
 last:Nat
def GR (s:O0) (x:Dp):O0:=if x.1<0 then ⟨s.put.set s.last (s.put[s.last]?.getD []++[x.2]),s.drop,s.last⟩ else ⟨s.put,s.drop.set x.1.toNat false,(x.1+1).toNat⟩
def LR (g:Dj):List (List UInt8):=g.1.map (·.1)++[g.2]
def Mw (g:Dj):List Bool:=g.1.map (·.2)
theorem Ud(n:Nat):∀(E:List Dp)(m:Nat)(q:List (List UInt8))(f:List Bool)(d:List UInt8)(pos:Nat),q.length=pos->f.length=pos->pos+m=n->Fb n E pos ->
    (E.foldl GR ⟨q++d :: List.replicate m [],f++List.replicate m true,pos⟩).put=q++LR (Dk n E d pos)/\(E.foldl GR ⟨q++d :: List.replicate m [],f++List.replicate m true,pos⟩).drop=f++Mw (Dk n E d pos)
 | [], m, q,f,d,pos,y,u,G,h=>by
  have D:∀(m:Nat) (d:List UInt8),LR (Iy d m λd=>([],d))=d :: List.replicate m []/\Mw (Iy d m λd=>([],d))=List.replicate m true:=by
   intro m
   induction m with
   | zero=>intro d;exact⟨rfl,rfl⟩
   | succ m ih =>
    intro d;obtain⟨H,I⟩:=ih [];refine⟨?_,?_⟩
    . show d :: LR (Iy [] m λd=>([],d))=_
      rw[H];rfl
    . show true :: Mw (Iy [] m λd=>([],d))=_
      rw[I];rfl
  rw[Dk,show((n:Int) - (pos:Int)).toNat=m by omega,(D m d).1,(D m d).2];exact⟨rfl,rfl⟩
 | (i, c) :: E,m,q,f,d,pos,y,u,G,h=>by
   rw[Fb]at h;rw[BT,Dk]
   by_cases F:i<0
   . rw [if_pos F]at h ⊢
     have e:GR ⟨q++d :: List.replicate m [],f++List.replicate m true,pos⟩ (i,c)=⟨q++(d++[c]) :: List.replicate m [],f++List.replicate m true,pos⟩:=by
      unfold GR;rw[if_pos F]
      congr 1
      subst y;simp
     rw[e];exact Ud n E m q f (d++[c]) pos y u G h
   . rw [if_neg F]at h ⊢
     obtain⟨H,I,z⟩:=h;obtain⟨j,rfl⟩:∃j:Nat,i=((pos+j:Nat):Int):=⟨(i - pos).toNat,by omega⟩;rw[show(((pos+j:Nat):Int) - (pos:Int)).toNat=j by omega];have C:pos+j<n:=by omega
     clear H I F;revert q f d pos
     induction j generalizing m with
     | zero =>
      intro q f d pos y u G z C;obtain⟨m,rfl⟩:∃k,m=k+1:=⟨m - 1,by omega⟩;have e:GR ⟨q++d :: List.replicate (m+1) [],f++List.replicate (m+1) true,pos⟩ (((pos+0:Nat):Int),c)=⟨(q++[d])++[] :: List.replicate m [],(f++[false])++List.replicate m true,pos+1⟩:=by
       unfold GR;rw[if_neg (by show ¬((pos+0:Nat):Int)<0;omega)];subst u;simp[CH]
      rw[e];have:=Ud n E m (q++[d]) (f++[false]) [] (pos+1) (by simp[y]) (by simp[u]) (by omega) (by rw[show(((pos+0:Nat):Int)+1)=((pos+1:Nat):Int) by omega]at z;exact z);rw[this.1,this.2];rw[show(((pos+0:Nat):Int)+1)=((pos+1:Nat):Int) by omega];simp[Iy,LR,Mw]
     | succ j ih =>
      intro q f d pos y u G z C;obtain⟨m,rfl⟩:∃k,m=k+1:=⟨m - 1,by omega⟩;have e:GR ⟨q++d :: List.replicate (m+1) [],f++List.replicate (m+1) true,pos⟩ (((pos+(j+1):Nat):Int),c)=GR ⟨(q++[d])++[] :: List.replicate m [],(f++[true])++List.replicate m true,pos+1⟩ (((pos+1+j:Nat):Int),c):=by
       rw[show pos+(j+1)=pos+1+j by omega];unfold GR;rw[if_neg (by show ¬((pos+1+j:Nat):Int)<0;omega),if_neg (by show ¬((pos+1+j:Nat):Int)<0;omega)];simp[CH]
      rw[e];have J:pos+(j+1)=pos+1+j:=by omega
      have:=ih m (q++[d]) (f++[true]) [] (pos+1) (by simp[y]) (by simp[u]) (by omega) (by rw[←J];exact z) (by omega);rw[this.1,this.2,J];simp[Iy,LR,Mw]
theorem Tq(n:Int)(E:List Dp)(pos:Int):∀u,Fb n (Bl u++E) pos↔Fb n E pos
 | []=>Iff.rfl
 | c :: u=>by
  show Fb n ((-1,c) :: (Bl u++E)) pos↔_;rw[Fb,if_pos (by decide)];exact Tq n E pos u
theorem Tp(n:Int):∀(E:List Dp)(a b:Int),a<=b->Fb n E b->Fb n E a
 | [],a,b,h,hk=>GN h hk
 | (i,c) :: E,a,b,h,hk=>by
   rw[Fb]at hk ⊢
   by_cases d:i<0
   . rw[if_pos d]at hk ⊢;exact Tp n E a b h hk
   . rw[if_neg d]at hk ⊢;exact⟨by omega,hk.2⟩
theorem VI(n:Int):∀(E F:List Dp),List.Sublist F E->∀pos,Fb n E pos->Fb n F pos:=by
 intro E F h
 induction h with
 | slnil=>intro pos h;exact h
 | @cons F E x h ih =>
  intro pos d;obtain⟨i,c⟩:=x;rw[Fb]at d
  by_cases f:i<0
  . rw[if_pos f]at d;exact ih pos d
  . rw[if_neg f]at d;exact Tp n F pos (i+1) (by omega) (ih _ d.2.2)
 | @cons_cons F E x h ih =>
  intro pos d;obtain⟨i,c⟩:=x;rw[Fb]at d ⊢
  by_cases f:i<0
  . rw[if_pos f]at d ⊢;exact ih pos d
  . rw[if_neg f]at d ⊢;exact⟨d.1,d.2.1,ih _ d.2.2⟩
theorem V8(n:Int)(E:List Dp):∀(k:Nat)(pos:Int),0<=pos->pos+k<=n->Fb n E (pos+k)->Fb n (Dt pos k++E) pos
 | 0,pos,h0,hn,h=>by simpa[Dt] using h
 | k+1,pos,h0,hn,h=>by
  show Fb n ((pos,0) :: (Dt (pos+1) k++E)) pos;rw[Fb,if_neg (by omega)];exact⟨by omega,by omega,V8 n E k (pos+1) (by omega) (by omega) (by rw[show pos+1+(k:Int)=pos+(k+1:Nat) by omega];exact h)⟩
theorem Th(n:Int):∀(ps:List Pt)(pos:Int),(∀p∈ps,Am p)->0<=pos->pos+Ak ps=n->Fb n (Ax pos ps) pos
 | [],pos,h,h0,hn=>by
  show pos<=n;simp[Ak]at hn;omega
 | p :: ps,pos,h,h0,hn=>by
  have f:Ak (p :: ps)=Ab p+Ak ps:=by simp[Ak]
  have i:0<=Ak ps:=by
   have:=JL ps (Da λq d=>h q (by simp[d]));omega
  have j:=Da h p (by simp);unfold Ax;have ih:=Th n ps (pos+p.keep+p.drop) (λq d=>h q (by simp[d])) (by omega) (by rw[←hn,f];unfold Ab;omega);unfold Ab at f;refine V8 n _ _ pos h0 (by omega) ?_;rw[Tq];exact Tp n _ _ _ (by omega) ih
theorem V7(n:Int):∀(ps:List Pt)(d:List Dp)(pos:Int),(∀p∈ps,0<=p.keep/\0<=p.drop)->Fb n d pos->Fb n (Bz d ps) pos:=by
 have m:∀(F:List Dp) (A:List Dp) (pos:Int),Fb n (A++F) pos->∀G,(∀q,Fb n F q->Fb n G q)->Fb n (A++G) pos:=by
  intro F A
  induction A with
  | nil=>intro pos h G j;exact j pos h
  | cons x A ih =>
   intro pos h G j;obtain⟨i,c⟩:=x;rw[BR,Fb]at h ⊢
   by_cases u:i<0
   . rw[if_pos u]at h ⊢;exact ih pos h G j
   . rw[if_neg u]at h ⊢;exact⟨h.1,h.2.1,ih _ h.2.2 G j⟩
 intro ps
 induction ps with
 | nil =>
  intro d pos _ h;exact VI n d [] (List.nil_sublist _) pos h
 | cons p ps ih =>
  intro d pos f h;have z:=f p (by simp);unfold Bz;have y:Fb n (d.take p.keep.toNat++d.drop p.keep.toNat) pos:=by rw[AW];exact h
  refine m _ _ pos y _ λq k=>?_;rw[Tq];refine ih _ q (λq k=>f q (by simp[k])) (VI n _ _ ?_ q k);have:d.drop (p.keep+p.drop).toNat=(d.drop p.keep.toNat).drop ((p.keep+p.drop).toNat - p.keep.toNat):=by rw[DI];congr 1;omega
  rw[this];exact List.drop_sublist _ _
end Go.Proofs.YtkcpjanmemdjlaaGreatDoor
