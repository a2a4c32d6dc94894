/-
  A part of the texts that the proof uses.
-/
import Derived.Test.YtkcpjanmemdjlaaGreatDoorPartD
set_option maxRecDepth 100000
set_option maxHeartbeats 40000000
set_option linter.all false
namespace Go.Proofs.YtkcpjanmemdjlaaGreatDoor
open Go.Proofs.Tryz Go.RowKit Go.Maps
section
variable {la : Pt → Bool}
def Fr (la:Pt->Bool) (A:List Pt):Int:=(A.map λp=>if la p then 0 else Ba p).sum
theorem ML(la:Pt->Bool)(p:Pt)(A:List Pt):Fr la (p :: A)=(if la p then 0 else Ba p)+Fr la A:=by simp[Fr]
theorem jC(la:Pt->Bool)(A B:List Pt):Fr la (A++B)=Fr la A+Fr la B:=by simp[Fr]
theorem US(la:Pt->Bool):∀(A:List Pt),(∀p∈A,Am p)->0<=Fr la A
 | [],_=>by simp[Fr]
 | p :: A,h=>by
  have b:=Gm (h p (by simp));have c:=US la A λq a=>h q (by simp[a]);rw[ML]
  split<;>omega
def PY (la:Pt->Bool):Prop:=∀p (n:Int),Am p->la p=false->∀r∈(Ah p n).2,la r=false
theorem L8:PY Au:=by
 intro p n d c r a;have b:p.put=[]:=by simpa[Au] using c
 unfold Ah at a
 split at a
 . cases a
 . split at a
   . obtain rfl:=List.mem_singleton.1 a;simp[Au,b]
   . split at a
     . obtain rfl:=List.mem_singleton.1 a;simp[Au,b]
     . obtain rfl:=List.mem_singleton.1 a;simp[Au,b]
theorem fb:PY Dg:=by
 intro p n d c r a;have b:¬0<p.drop:=by simpa[Dg] using c
 unfold Ah at a
 split at a
 . cases a
 . split at a
   . obtain rfl:=List.mem_singleton.1 a;simpa[Dg] using b
   . obtain rfl:=List.mem_singleton.1 a;simpa[Dg] using b
def QW (x:Pt×Pt):Prop:=(Am x.1\/x.1=Dh)/\(Am x.2\/x.2=Dh)
def JH (l:List (Pt×Pt)):Int:=(l.map λx=>Ba x.1+Ba x.2).sum
theorem WF(e:PY la){p:Pt}(d:Am p)(c:la p=false){n:Nat}(l:0<n)(h:(n:Int)<=Ba p)(A:List Pt):Fr la (p :: A)=n+Fr la ((Ah p n).2++A):=by
 rw[ML,jC,if_neg (by rw[c];simp)];obtain⟨k,j,f,g⟩:=Mz d (n:=n) (by omega) h;have b:=e p n d c
 have a:(Ah p n).2.length<=1:=by
  unfold Ah
  split
  . simp
  . split
    . simp
    . split<;>simp
 generalize (Ah p n).2=R at *
 match R,a with
 | [],_=>have:=g.1 rfl;simp[Fr];omega
 | [r],_ =>
  have m:=f r (by simp);have i:=b r (by simp);simp only[Fr,AY,BU,BQ,FE,i];simp;omega
theorem Qe{lb:Pt->Bool}(F:PY la)(E:PY lb):∀(f:Nat)(A B:List Pt),(∀p∈A,Am p/\Ba p<1000000000)->(∀p∈B,Am p/\Ba p<1000000000)->Fr la A=Fr lb B->Bc A+Bc B<=f ->
    Ge la lb A B (Bi la lb f A B)/\(∀x∈Bi la lb f A B,QW x)/\JH (Bi la lb f A B)=Bc A+Bc B/\(Bi la lb f A B).length<=Bc A+Bc B:=by
 have r:∀(l:List Pt),(∀p∈l,Am p/\Ba p<1000000000)->Bc l=0->l=[]:=by
  intro l c w
  cases l with
  | nil=>rfl
  | cons p l =>
   have:=Gm (c p (by simp)).1;rw[Ff]at w;omega
 have b:Ba Dh=0:=by simp[Ba,Dh]
 have Q:Bc []=0:=by simp[Bc]
 have m:∀x l,JH (x :: l)=Ba x.1+Ba x.2+JH l:=by intro x l;simp[JH]
 intro f
 induction f with
 | zero =>
  intro A B ha o _ w;obtain rfl:=r A ha (by omega);obtain rfl:=r B o (by omega);exact⟨.nil,by simp[Bi],by simp[Bi,JH,Bc],by simp[Bi]⟩
 | succ f ih =>
  intro A B ha o s w
  cases A with
  | nil =>
   cases B with
   | nil=>exact⟨.nil,by simp[Bi],by simp[Bi,JH,Bc],by simp[Bi]⟩
   | cons q B =>
    have j:=(o q (by simp)).1;have z:=Gm j;have i:∀p∈B,Am p/\Ba p<1000000000:=λp d=>o p (by simp[d]);have U:=US lb B λp d=>(i p d).1;have g:(0:Int)=Fr lb (q :: B):=s;rw[ML]at g;have c:lb q=true:=by
     cases h:lb q with
     | true=>rfl
     | false=>rw[h]at g;simp at g;omega
    rw[c]at g;have e:Bi la lb (f+1) [] (q :: B)=(Dh,q) :: Bi la lb f [] B:=by rw[Bi,if_pos c]
    rw[Ff]at w;obtain⟨v,t,D,H⟩:=ih [] B (by simp) i (by simpa[Fr] using g) (by omega);rw[e,Ff,m];refine⟨.last c v,?_,by simp only[b];omega,by simp only[AJ];omega⟩;intro x a
    rcases List.mem_cons.1 a with rfl|a
    . exact⟨.inr rfl,.inl j⟩
    . exact t x a
  | cons p A =>
   have d:=(ha p (by simp)).1;have O:=Gm d;have u:∀p∈A,Am p/\Ba p<1000000000:=λq j=>ha q (by simp[j])
   cases c:la p with
   | true =>
    have e:Bi la lb (f+1) (p :: A) B=(p,Dh) :: Bi la lb f A B:=by cases B<;>(rw[Bi];rw[if_pos c])
    rw[ML,c]at s;rw[Ff]at w;obtain⟨v,t,D,H⟩:=ih A B u o (by simpa using s) (by omega);rw[e,Ff,m];refine⟨.left c v,?_,by simp only[b];omega,by simp only[AJ];omega⟩;intro x a
    rcases List.mem_cons.1 a with rfl|a
    . exact⟨.inl d,.inr rfl⟩
    . exact t x a
   | false =>
    have I:=US la A λp d=>(u p d).1
    cases B with
    | nil =>
     rw[ML,c]at s;simp[Fr]at s;unfold Fr at I;omega
    | cons q B =>
     have j:=(o q (by simp)).1;have z:=Gm j;have i:∀p∈B,Am p/\Ba p<1000000000:=λp d=>o p (by simp[d])
     cases hlq:lb q with
     | true =>
      have e:Bi la lb (f+1) (p :: A) (q :: B)=(Dh,q) :: Bi la lb f (p :: A) B:=by rw[Bi,if_neg (by rw[c];simp),if_pos hlq]
      rw[ML lb,hlq]at s;rw[Ff q]at w;obtain⟨v,t,D,H⟩:=ih (p :: A) B ha i (by simpa using s) (by omega);rw[e,Ff q,m];refine⟨.right c hlq v,?_,by simp only[b];omega,by simp only[AJ];omega⟩;intro x a
      rcases List.mem_cons.1 a with rfl|a
      . exact⟨.inr rfl,.inl j⟩
      . exact t x a
     | false =>
      obtain⟨k,L⟩:∃k:Nat,min (Ba p) (Ba q)=(k:Int):=⟨(min (Ba p) (Ba q)).toNat,by omega⟩;have e:Bi la lb (f+1) (p :: A) (q :: B)=((Ah p k).1,(Ah q k).1) :: Bi la lb f ((Ah p k).2++A) ((Ah q k).2++B):=by
       rw[Bi,if_neg (by rw[c];simp),if_neg (by rw[hlq];simp),L]
      have y:0<k:=by omega
      have C:(k:Int)<=Ba p:=by omega
      have G:(k:Int)<=Ba q:=by omega
      have W:=(RH d y C A).1;have X:=(RH j y G B).1;have m1:=WF F d c y C A;have m2:=WF E j hlq y G B;obtain⟨S,R,K,_⟩:=Mz d (n:=k) (by omega) C;obtain⟨d1,d2,J,_⟩:=Mz j (n:=k) (by omega) G;have P:=(ha p (by simp)).2;have N:=(o q (by simp)).2;obtain ⟨v,t,D,H⟩:=ih ((Ah p k).2++A) ((Ah q k).2++B) (λx a=>by
       rcases List.mem_append.1 a with a|a
       . exact⟨(K x a).1,by rw[(K x a).2];omega⟩
       . exact u x a) (λx a=>by
       rcases List.mem_append.1 a with a|a
       . exact⟨(J x a).1,by rw[(J x a).2];omega⟩
       . exact i x a) (by omega) (by omega)
      rw[e,m];refine⟨.both k c hlq d j y L P N v,?_,by simp only[R,d2];omega,by simp only[AJ];omega⟩;intro x a
      rcases List.mem_cons.1 a with rfl|a
      . exact⟨.inl S,.inl d1⟩
      . exact t x a
def PZ (t:Pt×Pt->List Pt):Prop:=∀x,QW x->(t x).length<=1/\∀p∈t x,Ek p/\Ee p<=Ba x.1+Ba x.2
theorem Oa{p:Pt}(h:Am p\/p=Dh):Ek p/\Ee p=Ba p/\0<=Ba p/\(p.put.length:Int)<=Ba p:=by
 rcases h with h|rfl
 . have a:=Da (ps:=[p]) (by simpa using h) p (by simp)
   refine⟨a,rfl,by have:=Gm h;omega,?_⟩;unfold Ba;omega
 . exact⟨⟨by simp[Dh],by simp[Dh]⟩,rfl,by simp[Ba,Dh],by simp[Ba,Dh]⟩
theorem Uq:PZ Ea:=by
 intro x ⟨h1,h2⟩;obtain⟨b,g,i,h⟩:=Oa h1;obtain⟨f,d,e,c⟩:=Oa h2;unfold Ea
 split
 . refine⟨by simp,λp a=>?_⟩
   obtain rfl:=List.mem_singleton.1 a;refine⟨⟨by simp,by simp⟩,?_⟩;simp only[Ee,AR];omega
 . split
   . refine⟨by simp,λp a=>?_⟩
     obtain rfl:=List.mem_singleton.1 a;exact⟨b,by omega⟩
   . exact⟨by simp,by simp⟩
theorem YF:PZ λx=>Ea (x.2,x.1):=by
 intro x ⟨h1,h2⟩;have:=Uq (x.2,x.1) ⟨h2,h1⟩;exact⟨this.1,λp a=>⟨(this.2 p a).1,by have:=(this.2 p a).2;simp only at this;omega⟩⟩
theorem eM:PZ Do:=by
 intro x ⟨h1,h2⟩;obtain⟨b,g,i,h⟩:=Oa h1;obtain⟨c,e,f,d⟩:=Oa h2;unfold Do
 split
 . refine⟨by simp,λp a=>?_⟩
   obtain rfl:=List.mem_singleton.1 a;exact⟨b,by omega⟩
 . split
   . refine⟨by simp,λp a=>?_⟩
     obtain rfl:=List.mem_singleton.1 a;exact⟨c,by omega⟩
   . exact⟨by simp,by simp⟩
theorem WZ{t:Pt×Pt->List Pt}(a:PZ t):∀(l:List (Pt×Pt)),(∀x∈l,QW x)->Bj (l.flatMap t)<=JH l
 | [],_=>by simp[Bj,JH]
 | x :: l,h=>by
  have ih:=WZ a l λy d=>h y (by simp[d]);obtain⟨f,g⟩:=a x (h x (by simp));have b:=h x (by simp);obtain⟨_,_,j,_⟩:=Oa b.1;obtain⟨_,_,i,_⟩:=Oa b.2;have e:JH (x :: l)=Ba x.1+Ba x.2+JH l:=by simp[JH]
  have c:Bj (t x)<=Ba x.1+Ba x.2:=by
   generalize t x=L at *
   match L,f with
   | [],_=>simp[Bj];omega
   | [p],_=>have:=(g p (by simp)).2;simpa[Bj] using this
  rw[CY,e];unfold Bj at ih c ⊢;rw[BM,DK];omega
theorem Tb{t:Pt×Pt->List Pt}(a:PZ t){l:List (Pt×Pt)}(h:∀x∈l,QW x)(e:JH l<1000000000)(d:l.length<10000000):BdS t l A7 0 0 :=
 ⟨Vn,by have:=WZ a l h;omega,by omega,λx b p c=>((a x (h x b)).2 p c).1,λx b=>(a x (h x b)).1⟩
end
section
attribute [local go_sem] Oper.semAt_some
variable {M a g1 g2 o c b : Nat}{bx : List (Nat × Obj)}{w W W' : World}{v2 v1 : Value}{p : Pt}{A B : List Pt}{s : Av}
theorem sideI.tail1(h:sideI M a g1 g2 bx w (.slice (some (Ad g1 o)) (A.length+1) c) v2 (p :: A) B s W)(e:Bw W W') :
    sideI M a g1 g2 bx w (.slice (some (Ad g1 (o+3))) A.length (c - 1)) v2 A B s W'/\(c=1->sideI M a g1 g2 bx w (.slice (some (Ad g1 o)) A.length 0) v2 A B s W'):=by
 obtain⟨g,i⟩:=Ru h.r1 e;have d:=h.grow e;exact⟨⟨d.below,d.g,g,d.r2,d.b⟩,λf=>⟨d.below,d.g,i f,d.r2,d.b⟩⟩
theorem sideI.tail2(h:sideI M a g1 g2 bx w v1 (.slice (some (Ad g2 o)) (B.length+1) c) A (p :: B) s W)(e:Bw W W') :
    sideI M a g1 g2 bx w v1 (.slice (some (Ad g2 (o+3))) B.length (c - 1)) A B s W'/\(c=1->sideI M a g1 g2 bx w v1 (.slice (some (Ad g2 o)) B.length 0) A B s W'):=by
 obtain⟨g,i⟩:=Ru h.r2 e;have d:=h.grow e;exact⟨⟨d.below,d.g,d.r1,g,d.b⟩,λf=>⟨d.below,d.g,d.r1,i f,d.b⟩⟩
def JX (la lb:Pt->Bool) (t:Pt×Pt->List Pt) (M a g1 g2:Nat) (bx:List (Nat×Obj)) (w:World) (S:Av) (k:Nat) (u1 u2:Value) (W:World):Prop :=
 ∃A B l s T n,l.length=k/\Ge la lb A B l/\sideI M a g1 g2 bx w u1 u2 A B s W/\BdS t l s T n/\B9 t l s=S
theorem NP{la lb:Pt->Bool}{t:Pt×Pt->List Pt}{S:Av}{u1 u2:Value}{x:Pt×Pt}{l:List (Pt×Pt)}{T:Int}{n:Nat}
    (r:Ge la lb A B l) (k:sideI M a g1 g2 bx w u1 u2 A B s W) (j:BdS t (x :: l) s T n) (h:B9 t (x :: l) s=S) (g:Aw M W' a ((t x).foldl Af s)) (e:BelowG M a W W') (i:P8 a g1 g2 bx) (m:a+4<=g1) (q:g1<M) (d:a+4<=g2) (f:g2<M) :
    JX la lb t M a g1 g2 bx w S l.length u1 u2 W' :=
 ⟨A,B,l,_,_,_,rfl,r,k.took e g i m q d f,j.tail,h⟩
theorem LD{w:World}{b:Nat}{g j i:Value}{T:TypeId}(h:w.heap[b]?=some (Oc #[g,j,i] T))(d f e:Value) :
    (((w.setCell (Ad b 0) d).setCell (Ad b 1) f).setCell (Ad b 2) e).heap[b]?=some (Oc #[d,f,e] T):=by
 simp[World.setCell,Array.getElem?_modify,h]
theorem Oy{k:Nat}{e f d:Value}(h:k≠b):(((w.setCell (Ad b 0) e).setCell (Ad b 1) f).setCell (Ad b 2) d).heap[k]?=w.heap[k]?:=by
 rw[BF _ _ _ _ (by show k≠b;exact h),BF _ _ _ _ (by show k≠b;exact h),BF _ _ _ _ (by show k≠b;exact h)]
theorem ButO.above3{g:Nat}(h:ButO g w W)(i:w.heap.size<=b)(d e f:Value):ButO g w (((W.setCell (Ad b 0) d).setCell (Ad b 1) e).setCell (Ad b 2) f) :=
 h.trans' (by simp) (λk j=>Oy (by omega)) ⟨rfl,rfl,rfl⟩
structure But2 (g1 g2:Nat) (w w':World):Prop where
 os:w'.os=w.os
 tape:w'.tape=w.tape
 output:w'.output=w.output
 size:w.heap.size<=w'.heap.size
 block:∀k,k<w.heap.size->k≠g1->k≠g2->w'.heap[k]?=w.heap[k]?
theorem But2.of1{w':World}(h:ButO g1 w w'):But2 g1 g2 w w':=⟨h.os,h.tape,h.output,h.size,λk e d _=>h.block k e d⟩
theorem But2.cut2{a b c:World}(h:But2 g1 g2 a b)(k:ButO g2 b c):But2 g1 g2 a c :=
 ⟨k.os.trans h.os,k.tape.trans h.tape,k.output.trans h.output,AF h.size k.size,λi f e d=>(k.block i (AK f h.size) d).trans (h.block i f e d)⟩
theorem But2.above3(h:But2 g1 g2 w W)(l:w.heap.size<=b)(d g i:Value):But2 g1 g2 w (((W.setCell (Ad b 0) d).setCell (Ad b 1) g).setCell (Ad b 2) i) :=
 ⟨h.os,h.tape,h.output,by simpa using h.size,λk e j f=>(Oy (by omega)).trans (h.block k e j f)⟩
theorem sideI.both{l j:Value}{D y:List Pt}(h:sideI M a g1 g2 bx w v1 v2 A B s W)(f:But2 g1 g2 W W')(G:P8 a g1 g2 bx)(z:a+4<=g1)(E:g1<M)(F:a+4<=g2)(C:g2<M)(S:Co W' g1 l D)(J:Co W' g2 j y) :
    sideI M a g1 g2 bx w l j D y s W':=by
 have I:=h.g.le;have R:=h.g.top;have O:=Hf h.g;have d:Below (a+4) W W':=⟨f.os,f.tape,f.output,f.size,λk hk=>f.block k (by omega) (by omega) (by omega)⟩;have m:∀{e size n:Nat} {v:Value} {r:List Value},W.ownsRow M e size v n r->W'.ownsRow M e size v n r:=by
  intro e size n v r h;obtain⟨U,q⟩:=h;refine⟨U,?_⟩
  rcases q with g|⟨H,t,u,rfl,K,i,rest⟩
  . exact .inl g
  . exact .inr ⟨H,t,u,rfl,K,(f.block H (Cn i) (by omega) (by omega)).trans i,rest⟩
 refine⟨h.below.trans (d.mono (by omega)),?_,S,J,λx g=>(f.block _ (Cn (h.b x g)) (G x g).2.1 (G x g).2.2.1).trans (h.b x g)⟩;obtain⟨⟨p,c,z,E⟩,F,⟨Z,Y,C,N⟩,P,X,L,Q⟩:=h.g
 exact ⟨⟨p,c,(zC d a 0 (by show a<a+4;omega)).trans z,m E⟩,(d.frozen (p:=(Ad a 0)) (by show a<a+4;omega)).trans F,
  ⟨Z,Y,(zC d (a+1) 0 (by show a+1<a+4;omega)).trans C,m N⟩,(d.frozen (p:=(Ad (a+1) 0)) (by show a+1<a+4;omega)).trans P,
  (zC d (a+2) 0 (by show a+2<a+4;omega)).trans X,(d.frozen (p:=(Ad (a+2) 0)) (by show a+2<a+4;omega)).trans L,(zC d (a+3) 0 (by show a+3<a+4;omega)).trans Q,I,AF R f.size⟩
end
section
attribute [local go_sem] Oper.semAt_some
theorem TK(fL fR fT:FuncId)(la lb:Pt->Bool)(t:Pt×Pt->List Pt)(M a g1 g2 β:Nat)(bx:List (Nat×Obj))(v1 v2:Value)(A0 B0:List Pt)(l0:List (Pt×Pt))(s0:Av)(w:World){T0:Int}{n0:Nat}(hI0:sideI M a g1 g2 bx w v1 v2 A0 B0 s0 w)(hS0:Ge la lb A0 B0 l0)(hB0:BdS t l0 s0 T0 n0)(ho0:P8 a g1 g2 bx)(Z:a+4<=g1)(h2:g1<M)(h3:a+4<=g2)(h4:g2<M)(hne0:g1≠g2)
    (cT0:∀(s:Av) (x:Pt×Pt) (T:Int) (n:Nat) (W:World),Aw M W a s->LV bx W->Bd s T n->(∀p∈t x,Ek p)->T+Bj (t x)<1000000000->n<10000000->Cg fT #[Cv x.1,Cv x.2,Pd β 0] W (I8 M a s (t x) W))
    (eL0:∀(xs:Array Value) (d:World),Sem.run prog (callFunc fL xs) d=Sem.run prog (pure (.enter fL xs)) d) (eR0:∀(xs:Array Value) (d:World),Sem.run prog (callFunc fR xs) d=Sem.run prog (pure (.enter fR xs)) d) (eT0:∀(xs:Array Value) (d:World),Sem.run prog (callFunc fT xs) d=Sem.run prog (pure (.enter fT xs)) d)
    (cA0:∀(p:Pt) (d:World),Cg fL #[Cv p] d (Rt d (.bool (la p))))
    (cB0:∀(p:Pt) (d:World),Cg fR #[Cv p] d (Rt d (.bool (lb p)))) :
    Cg 112 #[v1,v2,.func (.func fL) #[] #[],.func (.func fR) #[] #[],.func (.func fT) #[] #[Pd β 0]] w λe w'=>(∃v,e=.returned v)/\Aw M w' a (B9 t l0 s0)/\LV bx w'/\Below a w w':=by
 obtain⟨S,hS⟩:∃S,B9 t l0 s0=S:=⟨_,rfl⟩;rw[hS];have eL:=Aa eL0;have eR:=Aa eR0;have eT:=Aa eT0;have cA:=Aa cA0;have cB:=Aa cB0;have cT:=Aa λ(s:Av) (x:Pt×Pt) (T:Int) (n:Nat) (l:List (Pt×Pt)) (W:World) (hg:Aw M W a s) (O:LV bx W) (hB:BdS t (x :: l) s T n)=>cT0 s x T n W hg O hB.bd hB.head.1 hB.head.2.1 hB.head.2.2;have hst:JX la lb t M a g1 g2 bx w S l0.length v1 v2 w:=⟨A0,B0,l0,s0,T0,n0,rfl,hS0,hI0,hB0,hS⟩;have HST:=Aa hst;have HO:=Aa ho0;have HNE:=Aa hne0;clear eL0 eR0 eT0 cA0 cB0 cT0 hI0 hS0 hB0 ho0 hS hst hne0
 go_enter func112,ntmps112
 go_wp2
 go_loopg [0,1] l0.length (λk u1 u2 wr=>JX la lb t M a g1 g2 bx w S k u1 u2 wr)
 case atStart=>exact HST.out
 case round =>
  obtain⟨A,B,l,s,T,n,hk,hSd,N,hB,hR⟩:=hrel;have hwz:=N.below.size;have HK:=Aa hk;have HI:=Aa N;have HB:=Aa hB;have HR:=Aa hR;clear HST;clear hk hB hR
  cases hSd with
  | nil =>
   obtain⟨p1,c1,rfl,_,_,_⟩:=N.r1;obtain⟨p2,c2,rfl,_,_,_⟩:=N.r2;clear N;go_wp2;go_end0;have hx:=HI.out;exact⟨⟨_,rfl⟩,by rw[←HR.out];exact hx.g,hx.b,hx.below⟩
  | left =>
   rename_i p A l hl hS'
   obtain⟨o,c,rfl,e1,e2,eg,e3,k0,k1,k2⟩:=Kf N.r1;obtain⟨p2,c2,rfl,_,_,_⟩:=N.r2;have cL:Hid (∀d,Cg fL #[Cv p] d (Rt d (.bool true))):=λd=>by
    have:=cA.out p d;rw[hl]at this;exact this
   have Q:=Aa λW' (O:Bw wr W')=>cT.out s (p,Dh) T n l W' (HI.out.grow O).g (HI.out.grow O).b HB.out;have HS:=Aa hS';have HT:Hid (∀W',Bw wr W'->_/\_):=λW' O=>sideI.tail1 HI.out O;obtain⟨K,D,U⟩:=p;simp only at k0 k1 k2;have u:Hid (wr.cell? (Ad g1 o)=some (I6 K)/\wr.cell? (Ad g1 (o+1))=some (I6 D)/\wr.cell? (Ad g1 (o+2))=some (Sx U)):=⟨k0,k1,k2⟩;have z:=Aa eg;have hi0:(0:Int)<(A.length:Int)+1:=by omega
   have hi1:(1:Int)<=(A.length:Int)+1:=by omega
   unfold Dh at Q;unfold Cv at cL Q;clear N hS' hl;go_wp2;rw[eL.out];go_simp;refine(cL.out _).mono ?_;rintro e X ⟨rfl,F⟩;obtain⟨b1,b2,b3⟩:=IE F;have i:=Aa b1;have g:=Aa b2;have f:=Aa b3;clear b1 b2 b3 F;have r0:=cQ i.out 0 rfl;have r1:=cQ i.out 1 rfl;have r2:=cQ i.out 2 rfl;have rF0:=fZ i.out 0;have rF1:=fZ i.out 1;have rF2:=fZ i.out 2;have q0:=cQ g.out 0 rfl;have q1:=cQ g.out 1 rfl;have q2:=cQ g.out 2 rfl;have qF0:=fZ g.out 0;have qF1:=fZ g.out 1;have qF2:=fZ g.out 2;have x0:X.cell? (Ad g1 o)=some (I6 K):=(f.out.cell z.out).trans u.out.1;have x1:X.cell? (Ad g1 (o+1))=some (I6 D):=(f.out.cell z.out).trans u.out.2.1;have x2:X.cell? (Ad g1 (o+2))=some (Sx U):=(f.out.cell z.out).trans u.out.2.2;go_wp2;obtain⟨s0,s1,s2,hsz,hoth⟩:=Ou r0 r1 r2 (I6 K) (I6 D) (Sx U)
   go_region
   all_goals go_wp2
   all_goals (rw[eT.out];go_simp;have C:Hid (Bw wr _):=((((f.out.setCell (p:=(Ad wr.heap.size 0)) (Ai _) (I6 K)).setCell (p:=(Ad wr.heap.size 1)) (Ai _) (I6 D)).setCell (p:=(Ad wr.heap.size 2)) (Ai _) (Sx U)).drew);refine(Q.out _ C.out).mono ?_;rintro e w5 ⟨⟨v5,rfl⟩,P,r⟩;go_wp2)
   . have hc1:c=1:=by assumption
     subst hc1
     go_roundg l.length
     case measure=>have:=HK.out;simp only[AJ]at this;omega
     case rel=>exact NP HS.out ((HT.out _ C.out).2 rfl) HB.out HR.out P r HO.out Z h2 h3 h4
   . go_roundg l.length
     case measure=>have:=HK.out;simp only[AJ]at this;omega
     case rel=>exact NP HS.out (HT.out _ C.out).1 HB.out HR.out P r HO.out Z h2 h3 h4
  | last =>
   rename_i p B l hl hS'
   obtain⟨p2,c2,rfl,_,_,_⟩:=N.r1;obtain⟨o,c,rfl,e1,e2,eg,e3,k0,k1,k2⟩:=Kf N.r2;have cL:Hid (∀d,Cg fR #[Cv p] d (Rt d (.bool true))):=λd=>by
    have:=cB.out p d;rw[hl]at this;exact this
   have Q:=Aa λW' (O:Bw wr W')=>cT.out s (Dh,p) T n l W' (HI.out.grow O).g (HI.out.grow O).b HB.out;have HS:=Aa hS';have HT:Hid (∀W',Bw wr W'->_/\_):=λW' O=>sideI.tail2 HI.out O;obtain⟨K,D,U⟩:=p;simp only at k0 k1 k2;have u:Hid (wr.cell? (Ad g2 o)=some (I6 K)/\wr.cell? (Ad g2 (o+1))=some (I6 D)/\wr.cell? (Ad g2 (o+2))=some (Sx U)):=⟨k0,k1,k2⟩;have z:=Aa eg;have hi0:(0:Int)<(B.length:Int)+1:=by omega
   have hi1:(1:Int)<=(B.length:Int)+1:=by omega
   unfold Dh at Q;unfold Cv at cL Q;clear N hS' hl;go_wp2;rw[eR.out];go_simp;refine(cL.out _).mono ?_;rintro e X ⟨rfl,F⟩;obtain⟨b1,b2,b3⟩:=IE F;have i:=Aa b1;have g:=Aa b2;have f:=Aa b3;clear b1 b2 b3 F;have r0:=cQ i.out 0 rfl;have r1:=cQ i.out 1 rfl;have r2:=cQ i.out 2 rfl;have rF0:=fZ i.out 0;have rF1:=fZ i.out 1;have rF2:=fZ i.out 2;have q0:=cQ g.out 0 rfl;have q1:=cQ g.out 1 rfl;have q2:=cQ g.out 2 rfl;have qF0:=fZ g.out 0;have qF1:=fZ g.out 1;have qF2:=fZ g.out 2;have x0:X.cell? (Ad g2 o)=some (I6 K):=(f.out.cell z.out).trans u.out.1;have x1:X.cell? (Ad g2 (o+1))=some (I6 D):=(f.out.cell z.out).trans u.out.2.1;have x2:X.cell? (Ad g2 (o+2))=some (Sx U):=(f.out.cell z.out).trans u.out.2.2;go_wp2;obtain⟨s0,s1,s2,hsz,hoth⟩:=Ou q0 q1 q2 (I6 K) (I6 D) (Sx U)
   go_region
   all_goals go_wp2
   all_goals (rw[eT.out];go_simp;have C:Hid (Bw wr _):=((((f.out.setCell (p:=(Ad (wr.heap.size+1) 0)) (BX _) (I6 K)).setCell (p:=(Ad (wr.heap.size+1) 1)) (BX _) (I6 D)).setCell (p:=(Ad (wr.heap.size+1) 2)) (BX _) (Sx U)).drew);refine(Q.out _ C.out).mono ?_;rintro e w5 ⟨⟨v5,rfl⟩,P,r⟩;go_wp2)
   . have hc1:c=1:=by assumption
     subst hc1
     go_roundg l.length
     case measure=>have:=HK.out;simp only[AJ]at this;omega
     case rel=>exact NP HS.out ((HT.out _ C.out).2 rfl) HB.out HR.out P r HO.out Z h2 h3 h4
   . go_roundg l.length
     case measure=>have:=HK.out;simp only[AJ]at this;omega
     case rel=>exact NP HS.out (HT.out _ C.out).1 HB.out HR.out P r HO.out Z h2 h3 h4
  | right =>
   rename_i pa p A B l hla hl hS'
   obtain⟨oa,ca,rfl,ea1,ea2,eag,ea3,ka0,ka1,ka2⟩:=Kf N.r1;obtain⟨o,c,rfl,e1,e2,eg,e3,k0,k1,k2⟩:=Kf N.r2;have cLA:Hid (∀d,Cg fL #[Cv pa] d (Rt d (.bool false))):=λd=>by
    have:=cA.out pa d;rw[hla]at this;exact this
   have cL:Hid (∀d,Cg fR #[Cv p] d (Rt d (.bool true))):=λd=>by
    have:=cB.out p d;rw[hl]at this;exact this
   have Q:=Aa λW' (O:Bw wr W')=>cT.out s (Dh,p) T n l W' (HI.out.grow O).g (HI.out.grow O).b HB.out;have HS:=Aa hS';have HT:Hid (∀W',Bw wr W'->_/\_):=λW' O=>sideI.tail2 HI.out O;obtain⟨KA,DA,UA⟩:=pa;simp only at ka0 ka1 ka2;have HKA:Hid (wr.cell? (Ad g1 oa)=some (I6 KA)/\wr.cell? (Ad g1 (oa+1))=some (I6 DA)/\wr.cell? (Ad g1 (oa+2))=some (Sx UA)):=⟨ka0,ka1,ka2⟩;have hia:(0:Int)<(A.length:Int)+1:=by omega
   unfold Cv at cLA;obtain⟨K,D,U⟩:=p;simp only at k0 k1 k2;have u:Hid (wr.cell? (Ad g2 o)=some (I6 K)/\wr.cell? (Ad g2 (o+1))=some (I6 D)/\wr.cell? (Ad g2 (o+2))=some (Sx U)):=⟨k0,k1,k2⟩;have z:=Aa eg;have hi0:(0:Int)<(B.length:Int)+1:=by omega
   have hi1:(1:Int)<=(B.length:Int)+1:=by omega
   unfold Dh at Q;unfold Cv at cL Q;clear N hS' hl hla;go_wp2;rw[eL.out];go_simp;refine(cLA.out _).mono ?_;rintro e X ⟨rfl,F⟩;obtain⟨b1,b2,b3⟩:=IE F;have i:=Aa b1;have g:=Aa b2;have f:=Aa b3;clear b1 b2 b3 F;have x0:X.cell? (Ad g2 o)=some (I6 K):=(f.out.cell z.out).trans u.out.1;have x1:X.cell? (Ad g2 (o+1))=some (I6 D):=(f.out.cell z.out).trans u.out.2.1;have x2:X.cell? (Ad g2 (o+2))=some (Sx U):=(f.out.cell z.out).trans u.out.2.2;go_wp2;rw[eR.out];go_simp;have _:=f;refine(cL.out _).mono ?_;rintro e w2 ⟨rfl,L⟩;have H:Hid (w2.heap[wr.heap.size]?=some (Oc #[I6 0,I6 0,.string ⟨#[]⟩] 87)):=(L.block _ (Cn i.out)).trans i.out;have J:Hid (w2.heap[wr.heap.size+1]?=some (Oc #[I6 0,I6 0,.string ⟨#[]⟩] 87)):=(L.block _ (Cn g.out)).trans g.out;have y:=Aa (f.out.trans (L.mono f.out.size));clear L;have r0:=cQ H.out 0 rfl;have r1:=cQ H.out 1 rfl;have r2:=cQ H.out 2 rfl;have rF0:=fZ H.out 0;have rF1:=fZ H.out 1;have rF2:=fZ H.out 2;have q0:=cQ J.out 0 rfl;have q1:=cQ J.out 1 rfl;have q2:=cQ J.out 2 rfl;have qF0:=fZ J.out 0;have qF1:=fZ J.out 1;have qF2:=fZ J.out 2;have x0:w2.cell? (Ad g2 o)=some (I6 K):=(y.out.cell z.out).trans u.out.1;have x1:w2.cell? (Ad g2 (o+1))=some (I6 D):=(y.out.cell z.out).trans u.out.2.1;have x2:w2.cell? (Ad g2 (o+2))=some (Sx U):=(y.out.cell z.out).trans u.out.2.2;go_wp2;obtain⟨s0,s1,s2,hsz,hoth⟩:=Ou q0 q1 q2 (I6 K) (I6 D) (Sx U)
   go_region
   all_goals go_wp2
   all_goals (rw[eT.out];go_simp;have C:Hid (Bw wr _):=((((y.out.setCell (p:=(Ad (wr.heap.size+1) 0)) (BX _) (I6 K)).setCell (p:=(Ad (wr.heap.size+1) 1)) (BX _) (I6 D)).setCell (p:=(Ad (wr.heap.size+1) 2)) (BX _) (Sx U)).drew);refine(Q.out _ C.out).mono ?_;rintro e w5 ⟨⟨v5,rfl⟩,P,r⟩;go_wp2)
   . have hc1:c=1:=by assumption
     subst hc1
     go_roundg l.length
     case measure=>have:=HK.out;simp only[AJ]at this;omega
     case rel=>exact NP HS.out ((HT.out _ C.out).2 rfl) HB.out HR.out P r HO.out Z h2 h3 h4
   . go_roundg l.length
     case measure=>have:=HK.out;simp only[AJ]at this;omega
     case rel=>exact NP HS.out (HT.out _ C.out).1 HB.out HR.out P r HO.out Z h2 h3 h4
  | both =>
   rename_i p q A B l m hla hlb o1 o2 m0 hm b1 b2 hS'
   obtain⟨oa,ca,rfl,ea1,ea2,eag,ea3,ka0,ka1,ka2⟩:=Kf N.r1;obtain⟨ob,cb,rfl,eb1,eb2,ebg,eb3,kb0,kb1,kb2⟩:=Kf N.r2;have hlp:=Gm o1;have hlq:=Gm o2;have cLA:Hid (∀d,Cg fL #[Cv p] d (Rt d (.bool false))):=λd=>by
    have:=cA.out p d;rw[hla]at this;exact this
   have cLB:Hid (∀d,Cg fR #[Cv q] d (Rt d (.bool false))):=λd=>by
    have:=cB.out q d;rw[hlb]at this;exact this
   have cNP:Hid (∀d,Cg 156 #[Cv p] d (Rt d (I6 (Ba p)))):=λd=>OK p d (by rcases o1 with ⟨Z,h2,h3⟩|⟨Z,h2,h3⟩|⟨Z,h2,h3⟩<;>exact⟨by omega,by omega⟩) (by unfold Ba at b1;omega);have cNQ:Hid (∀d,Cg 156 #[Cv q] d (Rt d (I6 (Ba q)))):=λd=>OK q d (by rcases o2 with ⟨Z,h2,h3⟩|⟨Z,h2,h3⟩|⟨Z,h2,h3⟩<;>exact⟨by omega,by omega⟩) (by unfold Ba at b2;omega);have CC1:=Aa λW' (h:Co W' g1 (.slice (some (Ad g1 oa)) (A.length+1) ca) (p :: A))=>VO g1 _ p A m W' h o1 m0 (by omega) b1;have CC2:=Aa λW' (h:Co W' g2 (.slice (some (Ad g2 ob)) (B.length+1) cb) (q :: B))=>VO g2 _ q B m W' h o2 m0 (by omega) b2;have Q:=Aa λW' (hg:Aw M W' a s) (O:LV bx W')=>cT.out s ((Ah p m).1,(Ah q m).1) T n l W' hg O HB.out;have HS:=Aa hS';have hm1:(m:Int)<1000000000:=by omega
   clear hS' hla hlb o1 o2 hlp hlq b1 b2;generalize Ba p=LP at *;generalize Ba q=LQ at *;obtain⟨R1,hR1⟩:∃R,(Ah p m).2++A=R:=⟨_,rfl⟩;obtain⟨R2,hR2⟩:∃R,(Ah q m).2++B=R:=⟨_,rfl⟩;obtain⟨x1,hx1⟩:∃x,(Ah p m).1=x:=⟨_,rfl⟩;obtain⟨x2,hx2⟩:∃x,(Ah q m).1=x:=⟨_,rfl⟩;rw[hR1,hx1]at CC1;rw[hR2,hx2]at CC2;rw[hx1,hx2]at Q HB HR;rw[hR1,hR2]at HS;rw[hx1,hx2]at HK;clear hR1 hR2 hx1 hx2;obtain⟨K1,D1,U1⟩:=x1;obtain⟨K2,D2,U2⟩:=x2;have HW1:=Aa N.r1;have HW2:=Aa N.r2;have E:=Aa eag;have j:=Aa ebg;obtain⟨KA,DA,UA⟩:=p;obtain⟨KB,DB,UB⟩:=q;simp only at ka0 ka1 ka2 kb0 kb1 kb2;have HKA:Hid (wr.cell? (Ad g1 oa)=some (I6 KA)/\wr.cell? (Ad g1 (oa+1))=some (I6 DA)/\wr.cell? (Ad g1 (oa+2))=some (Sx UA)):=⟨ka0,ka1,ka2⟩;have I:Hid (wr.cell? (Ad g2 ob)=some (I6 KB)/\wr.cell? (Ad g2 (ob+1))=some (I6 DB)/\wr.cell? (Ad g2 (ob+2))=some (Sx UB)):=⟨kb0,kb1,kb2⟩;have hia:(0:Int)<(A.length:Int)+1:=by omega
   have hib:(0:Int)<(B.length:Int)+1:=by omega
   unfold Cv at cLA cLB cNP cNQ CC1 CC2 Q;clear N ea3 eb3;go_wp2;rw[eL.out];go_simp;refine(cLA.out _).mono ?_;rintro e X ⟨rfl,F⟩;obtain⟨y1,y2,y3⟩:=IE F;have i:=Aa y1;have g:=Aa y2;have f:=Aa y3;clear y1 y2 y3 F;have xb0:X.cell? (Ad g2 ob)=some (I6 KB):=(f.out.cell j.out).trans I.out.1;have xb1:X.cell? (Ad g2 (ob+1))=some (I6 DB):=(f.out.cell j.out).trans I.out.2.1;have xb2:X.cell? (Ad g2 (ob+2))=some (Sx UB):=(f.out.cell j.out).trans I.out.2.2;go_wp2;rw[eR.out];go_simp;have _:=f;refine(cLB.out _).mono ?_;rintro e w2 ⟨rfl,L⟩;have H:Hid (w2.heap[wr.heap.size]?=some (Oc #[I6 0,I6 0,.string ⟨#[]⟩] 87)):=(L.block _ (Cn i.out)).trans i.out;have J:Hid (w2.heap[wr.heap.size+1]?=some (Oc #[I6 0,I6 0,.string ⟨#[]⟩] 87)):=(L.block _ (Cn g.out)).trans g.out;have y:=Aa (f.out.trans (L.mono f.out.size));clear L;have xa0:w2.cell? (Ad g1 oa)=some (I6 KA):=(y.out.cell E.out).trans HKA.out.1;have xa1:w2.cell? (Ad g1 (oa+1))=some (I6 DA):=(y.out.cell E.out).trans HKA.out.2.1;have xa2:w2.cell? (Ad g1 (oa+2))=some (Sx UA):=(y.out.cell E.out).trans HKA.out.2.2;have xc0:w2.cell? (Ad g2 ob)=some (I6 KB):=(y.out.cell j.out).trans I.out.1;have xc1:w2.cell? (Ad g2 (ob+1))=some (I6 DB):=(y.out.cell j.out).trans I.out.2.1;have xc2:w2.cell? (Ad g2 (ob+2))=some (Sx UB):=(y.out.cell j.out).trans I.out.2.2;go_wp2
   go_region_with (first
    | (have _:=HB3;go_at_call 156;refine(cNQ.out _).mono ?_;rintro e w4 ⟨rfl,hb4⟩;have HR4:Hid (w4.heap[wr.heap.size]?=some (Oc #[I6 0,I6 0,.string ⟨#[]⟩] 87)):=(hb4.block _ (Cn HR3.out)).trans HR3.out;have HP4:Hid (w4.heap[wr.heap.size+1]?=some (Oc #[I6 0,I6 0,.string ⟨#[]⟩] 87)):=(hb4.block _ (Cn HP3.out)).trans HP3.out;have HB4:=Aa (HB3.out.trans (hb4.mono HB3.out.size));clear hb4)
    | (have _:=y;go_at_call 156;refine(cNP.out _).mono ?_;rintro e w3 ⟨rfl,hb3⟩;have HR3:Hid (w3.heap[wr.heap.size]?=some (Oc #[I6 0,I6 0,.string ⟨#[]⟩] 87)):=(hb3.block _ (Cn H.out)).trans H.out;have HP3:Hid (w3.heap[wr.heap.size+1]?=some (Oc #[I6 0,I6 0,.string ⟨#[]⟩] 87)):=(hb3.block _ (Cn J.out)).trans J.out;have HB3:=Aa (y.out.drew.trans (hb3.mono y.out.size));clear hb3;have xd0:w3.cell? (Ad g2 ob)=some (I6 KB):=(HB3.out.cell j.out).trans I.out.1;have xd1:w3.cell? (Ad g2 (ob+1))=some (I6 DB):=(HB3.out.cell j.out).trans I.out.2.1;have xd2:w3.cell? (Ad g2 (ob+2))=some (Sx UB):=(HB3.out.cell j.out).trans I.out.2.2))
   all_goals (
    go_wp2_with (first
     | (have _:=HT5;go_at_call 157;have HT6:Hid (ButO g1 wr (((w5.setCell (Ad wr.heap.size 0) (I6 K1)).setCell (Ad wr.heap.size 1) (I6 D1)).setCell (Ad wr.heap.size 2) (Sx U1))):=HT5.out.above3 (Ai _) _ _ _;have HR6:Hid ((((w5.setCell (Ad wr.heap.size 0) (I6 K1)).setCell (Ad wr.heap.size 1) (I6 D1)).setCell (Ad wr.heap.size 2) (Sx U1)).heap[wr.heap.size]?=some (Oc #[I6 K1,I6 D1,Sx U1] 87)):=LD Y.out _ _ _;have HP6:Hid ((((w5.setCell (Ad wr.heap.size 0) (I6 K1)).setCell (Ad wr.heap.size 1) (I6 D1)).setCell (Ad wr.heap.size 2) (Sx U1)).heap[wr.heap.size+1]?=some (Oc #[I6 0,I6 0,.string ⟨#[]⟩] 87)):=(Oy (by omega)).trans HP5.out;have HQ6:Hid (Co (((w5.setCell (Ad wr.heap.size 0) (I6 K1)).setCell (Ad wr.heap.size 1) (I6 D1)).setCell (Ad wr.heap.size 2) (Sx U1)) g1 _ R1):=Kg HQ5.out (by simp) λ_=>Oy (by have:=E.out;omega);refine(CC2.out _ (Kg HW2.out HT6.out.size λhg=>HT6.out.block g2 hg (GE HNE.out))).mono ?_;rintro e w7 ⟨v7,rfl,hw7,hb7⟩;have HQ7:=Aa hw7;have G:ButO g2 (((w5.setCell (Ad wr.heap.size 0) (I6 K1)).setCell (Ad wr.heap.size 1) (I6 D1)).setCell (Ad wr.heap.size 2) (Sx U1)) w7:=⟨hb7.os,hb7.tape,hb7.output,hb7.size,hb7.block⟩;obtain⟨p7,c7,rfl,_⟩:=hw7;have HO7:=Aa (dV HQ6.out G HNE.out);have HR7:Hid (w7.heap[wr.heap.size]?=some (Oc #[I6 K1,I6 D1,Sx U1] 87)):=(G.block _ (Cn HR6.out) (by have:=j.out;omega)).trans HR6.out;have HP7:Hid (w7.heap[wr.heap.size+1]?=some (Oc #[I6 0,I6 0,.string ⟨#[]⟩] 87)):=(G.block _ (Cn HP6.out) (by have:=j.out;omega)).trans HP6.out;have HT7:=Aa ((But2.of1 HT6.out).cut2 G);clear hb7 G;have t0:=cQ HR7.out 0 rfl;have t1:=cQ HR7.out 1 rfl;have t2:=cQ HR7.out 2 rfl;have q0:=cQ HP7.out 0 rfl;have q1:=cQ HP7.out 1 rfl;have q2:=cQ HP7.out 2 rfl;have qF0:=fZ HP7.out 0;have qF1:=fZ HP7.out 1;have qF2:=fZ HP7.out 2)
     | (have _:=HB4;go_at_call 157;refine(CC1.out _ (Kg HW1.out HB4.out.size λhg=>HB4.out.block g1 hg)).mono ?_;rintro e w5 ⟨v5,rfl,hw5,r⟩;have HQ5:=Aa hw5;have G:ButO g1 w4 w5:=⟨r.os,r.tape,r.output,r.size,r.block⟩;obtain⟨p5,c5,rfl,_⟩:=hw5;have Y:Hid (w5.heap[wr.heap.size]?=some (Oc #[I6 0,I6 0,.string ⟨#[]⟩] 87)):=(G.block _ (Cn HR4.out) (by have:=E.out;omega)).trans HR4.out;have HP5:Hid (w5.heap[wr.heap.size+1]?=some (Oc #[I6 0,I6 0,.string ⟨#[]⟩] 87)):=(G.block _ (Cn HP4.out) (by have:=E.out;omega)).trans HP4.out;have HT5:=Aa ((ButO.of HB4.out).trans G);clear r G;have r0:=cQ Y.out 0 rfl;have r1:=cQ Y.out 1 rfl;have r2:=cQ Y.out 2 rfl;have rF0:=fZ Y.out 0;have rF1:=fZ Y.out 1;have rF2:=fZ Y.out 2))
    all_goals (rw[eT.out];go_simp;have _:=HT7;have HI8:Hid (sideI M a g1 g2 bx w _ _ R1 R2 s (((w7.setCell (Ad (wr.heap.size+1) 0) (I6 K2)).setCell (Ad (wr.heap.size+1) 1) (I6 D2)).setCell (Ad (wr.heap.size+1) 2) (Sx U2))):=HI.out.both (HT7.out.above3 (BX _) _ _ _) HO.out Z h2 h3 h4 (Kg HO7.out (by simp) λ_=>Oy (by have:=E.out;omega)) (Kg HQ7.out (by simp) λ_=>Oy (by have:=j.out;omega));refine(Q.out _ HI8.out.g HI8.out.b).mono ?_;rintro e w9 ⟨⟨v9,rfl⟩,hg9,hb9⟩;go_wp2)
    go_roundg l.length
    case measure=>have:=HK.out;simp only[AJ]at this;omega
    case rel=>exact NP HS.out HI8.out HB.out HR.out hg9 hb9 HO.out Z h2 h3 h4)
end
section
variable {ps : List Pt}
theorem Mj:(∀(e:Array Value)(d:World),Sem.run prog (callFunc 115 e) d=Sem.run prog (pure (.enter 115 e)) d)/\(∀(e:Array Value)(d:World),Sem.run prog (callFunc 114 e) d=Sem.run prog (pure (.enter 114 e)) d)/\(∀(e:Array Value)(d:World),Sem.run prog (callFunc 179 e) d=Sem.run prog (pure (.enter 179 e)) d)/\(∀(e:Array Value)(d:World),Sem.run prog (callFunc 180 e) d=Sem.run prog (pure (.enter 180 e)) d)/\(∀(e:Array Value)(d:World),Sem.run prog (callFunc 116 e) d=Sem.run prog (pure (.enter 116 e)) d):=by
 refine⟨?_,?_,?_,?_,?_⟩<;>intro e d<;>go_simp
theorem UI{i f e d:World}{a:Nat}{v1 v2:Value}{r q:List Pt}(bx:List (Nat×Obj))(H:∀M t,Bw i t->a+4<=M->M<=t.heap.size->Aw M t a A7)(L:i.heap.size=a+4)
    (j:LV bx f) (I:∀x∈bx,a+4<=x.1/\(∀c n,x.2≠.cells c 5 n)/\∀c n,x.2≠.cells c 87 n) (h:Bw i f)
    (G:e.ownsRow f.heap.size 87 3 v1 r.length (Cw r)) (u:Bw f e) (K:f.heap.size+4<=e.heap.size)
    (D:d.ownsRow e.heap.size 87 3 v2 q.length (Cw q)) (k:Bw e d) (N:e.heap.size+4<=d.heap.size) :
    ∃g1 g2,sideI d.heap.size a g1 g2 bx d v1 v2 r q A7 d/\P8 a g1 g2 bx/\a+4<=g1/\g1<d.heap.size/\a+4<=g2/\g2<d.heap.size/\g1≠g2:=by
 have z:=h.size;obtain⟨g1,C,E⟩:=Xa G;obtain⟨g2,F,v⟩:=Xa D;have l:Bw i d:=(h.trans (u.mono z)).trans (k.mono (by omega));have m:Bw f d:=u.trans (k.mono (by omega));refine⟨g1,g2,⟨.refl _ _,H _ _ l (by omega) (Ai _),UN E k,v,λx g=>(m.block _ (Cn (j x g))).trans (j x g)⟩,λx g=>?_,by omega,by omega,by omega,by omega,by omega⟩;obtain⟨J,y,w⟩:=I x g;have:=Cn (j x g);exact⟨J,by omega,by omega,y,w⟩
theorem Rd(f:Pt->Int)(l:List Pt):∀x:Int,l.foldl (λx p=>x+f p) x=x+(l.map f).sum:=by
 induction l with
 | nil=>intro x;simp
 | cons p l ih=>intro x;rw[BT,ih,AY,BQ];omega
theorem J7(ps:List Pt)(h:∀p∈ps,0<=p.keep/\0<=p.drop):Bj (Ag ps)=Bj ps:=by
 have e:G8 (λ(x:Int) p=>x+Ee p):=by
  constructor
  . intro x;simp[Ee]
  . intro x u v;simp only[Ee,AA];push_cast;omega
  . intro x a b _ _;simp only[Ee,AR];omega
  . intro x a b _ _;simp only[Ee,AR];omega
  . intro x k d u;simp only[Ee,AR];omega
  . intro x d u;simp only[Ee,AR];omega
 have:=Nt e ps h 0;rw[Rd,Rd]at this;simpa[Bj] using this
theorem dt(ps:List Pt)(h:∀p∈ps,0<=p.keep/\0<=p.drop):((Ag ps).map Dm).sum=(ps.map Dm).sum:=by
 have e:G8 (λ(x:Int) p=>x+Dm p):=by
  constructor
  . intro x;simp[Dm]
  . intro x u v;simp only[Dm,AA];push_cast;omega
  . intro x a b _ _;simp only[Dm,AR];omega
  . intro x a b _ _;simp only[Dm,AR];omega
  . intro x k d u;simp only[Dm,AR];omega
  . intro x d u;simp only[Dm,AR];omega
 have:=Nt e ps h 0;rw[Rd,Rd]at this;simpa using this
theorem Qw:∀(A:List Pt),(∀p∈A,Am p)->(Bc A:Int)=Bj A
 | [],_=>by simp[Bc,Bj]
 | p :: A,h=>by
  have ih:=Qw A λq f=>h q (by simp[f]);have g:=Gm (h p (by simp));have e:Bj (p :: A)=Ee p+Bj A:=by simp[Bj]
  have d:Ee p=Ba p:=rfl;rw[Ff,e,d];omega
theorem MC:∀(A:List Pt),(∀p∈A,Am p)->Fr Au A=Ak A
 | [],_=>by simp[Fr,Ak]
 | p :: A,h=>by
  have ih:=MC A λq i=>h q (by simp[i]);have e:Ak (p :: A)=Ab p+Ak A:=by simp[Ak]
  rw[ML,ih,e]
  rcases h p (by simp) with ⟨f,g,d⟩|⟨f,g,d⟩|⟨f,g,d⟩
  . simp[Au,d,Ba,Ab]
  . simp[Au,d,Ba,Ab]
  . simp[Au,d,Ab,f,g]
theorem Xm:∀(A:List Pt),(∀p∈A,Am p)->Fr Dg A=(A.map Dm).sum
 | [],_=>by simp[Fr]
 | p :: A,h=>by
  have ih:=Xm A λq g=>h q (by simp[g]);rw[ML,ih,AY,BQ]
  rcases h p (by simp) with ⟨f,d,e⟩|⟨f,d,e⟩|⟨f,d,e⟩
  . simp[Dg,d,e,Ba,Dm]
  . simp[Dg,d,e,Dm,f]
  . simp[Dg,d,Ba,Dm]
theorem WV(t:Pt×Pt->List Pt)(l:List (Pt×Pt)):∀s,B9 t l s=(l.flatMap t).foldl Af s:=by
 induction l with
 | nil=>intro s;rfl
 | cons x l ih=>intro s;rw[CY,BJ];exact ih _
theorem Ue{t:Pt×Pt->List Pt}{l:List (Pt×Pt)}(d:BdS t l A7 0 0):(B9 t l A7).out.length<1000000000/\(B9 t l A7).put.length<1000000000:=by
 rw[WV];have g:=QX (l.flatMap t) λp f=>by
  obtain⟨x,j,f⟩:=List.mem_flatMap.1 f;exact d.sound x j p f
 have m:(l.flatMap t).length<=l.length:=by
  have e:∀(l:List (Pt×Pt)),(∀x∈l,(t x).length<=1)->(l.flatMap t).length<=l.length:=by
   intro l
   induction l with
   | nil=>intro _;simp
   | cons x l ih =>
    intro h;have m:=h x (by simp);have k:=ih λy i=>h y (by simp[i]);rw[CY,AA,AJ];omega
  exact e l d.one
 have k:=g.len;have n:=g.put;have q:=d.w;have r:=d.n;exact⟨by omega,by omega⟩
structure Bs (ps:List Pt):Prop where
 one:∀p∈ps,Am p
 w:Bj ps<2000000
 len:ps.length<10000000
theorem Hn(h:Bs ps):(∀p∈Ag ps,Am p/\Ba p<1000000000)/\Bc (Ag ps)<2000000/\Ak (Ag ps)=Ak ps/\((Ag ps).map Dm).sum=(ps.map Dm).sum:=by
 have f:=Da h.one;have d:=Nx ps f;have g:=Qw _ d;rw[J7 ps f]at g;have l:=h.w;refine⟨λp i=>⟨d p i,?_⟩,by omega,Ua ps,dt ps f⟩;obtain⟨k,m,e⟩:=List.append_of_mem i;have j:=Qw _ d;rw[e,JO,Ff]at j;rw[e]at g;have n:=Gm (d p i);rw[JO,Ff]at g;omega
theorem Hm(h:Bs ps):(Be ps).1=Ak ps/\(Be ps).2=(ps.map Dm).sum:=by
 have d:=Da h.one;obtain⟨e,f,_,_⟩:=Mg ps (λp g=>d p g) (by have:=h.w;omega);refine⟨?_,f⟩;rw[e,JE];exact JL ps d
end
section
attribute [local go_sem] Oper.semAt_some
def Bv (first:Bool) (a b:List Pt):Av:=if first then B9 Ea (Bi Au Au (Bc (Ag a)+Bc (Ag b)) (Ag a) (Ag b)) A7 else B9 (λx=>Ea (x.2,x.1)) (Bi Au Au (Bc (Ag b)+Bc (Ag a)) (Ag b) (Ag a)) A7
def Ha (a b:List Pt):Av:=B9 Do (Bi Dg Au (Bc (Ag a)+Bc (Ag b)) (Ag a) (Ag b)) A7
def JI (a b:List Pt):Int:=if Dy a b=0 then (if (Be b).1=(Be a).1 then 0 else 2) else Dy a b
def PV (a b:List Pt):Int:=if Dy a b=0 then (if (Be b).1=(Be a).2 then 0 else 2) else Dy a b
theorem bX(v1 v2:Value)(a b:List Pt)(w:World)(hT:Lib.Utf8Tabs 1 2 w)(h1:Ae w v1 a)(h2:Ae w v2 b)(w1:∀p∈a,Cp p)(w2:∀p∈b,Cp p)(m:Bs a)(u:Bs b)(he:Dy a b=0)(hl:(Be b).1=(Be a).1) :
    Cg 163 #[v1,v2,.bool true] w λe w'=>∃v',e=.returned (.tuple #[v',.nilIface])/\opN w.heap.size w' v' (Aq (Bv true a b))/\Bw w w':=by
 have cB:Hid _:=NW v1 v2 a b w hT h1 h2 w1 w2 m.len u.len;have hV:Ao (Dy a b)=.nilIface:=by unfold Ao;rw[if_pos he]
 rw[hV]at cB;have cL1:=Aa λj (v:Bw w j)=>Jr v1 a j (E5 h1 v) m.len;have Q:=Aa λj (v:Bw w j)=>Jr v2 b j (E5 h2 v) u.len;have cN1:=Aa λj (v:Bw w j)=>Ol v1 a j (E5 h1 v) (Da m.one) (by have:=m.w;omega) m.len;have cN2:=Aa λj (v:Bw w j)=>Ol v2 b j (E5 h2 v) (Da u.one) (by have:=u.w;omega) u.len;obtain⟨n1,n2,n3,n4⟩:=Hn m;obtain⟨m1,m2,m3,m4⟩:=Hn u;have h:Fr Au (Ag a)=Fr Au (Ag b):=by
  have e1:=(Hm m).1;have e2:=(Hm m).2;have e3:=(Hm u).1;rw[MC _ (λp hp=>(m1 p hp).1),MC _ (λp hp=>(n1 p hp).1)];omega
 obtain⟨O,hok,N,hln⟩:=Qe L8 L8 (Bc (Ag a)+Bc (Ag b)) (Ag a) (Ag b) n1 m1 h (Ai _);have F:BdS Ea (Bi Au Au (Bc (Ag a)+Bc (Ag b)) (Ag a) (Ag b)) A7 0 0:=Tb Uq hok (by rw[N];omega) (by omega);have HSD:=Aa O;have HBD:=Aa F;have hS:B9 Ea (Bi Au Au (Bc (Ag a)+Bc (Ag b)) (Ag a) (Ag b)) A7=Bv true a b:=rfl;have l:Hid _:=Ue F;rw[hS]at l;obtain⟨S,C⟩:∃S,Bv true a b=S:=⟨_,rfl⟩;rw[C]at l ⊢;have HS:Hid (B9 Ea (Bi Au Au (Bc (Ag a)+Bc (Ag b)) (Ag a) (Ag b)) A7=S):=C;rw[hl]at Q;generalize (Be a).1=A1 at *;generalize (Be a).2=A2 at *;generalize (Be b).2=B2 at *;obtain⟨p1,c1,rfl,_⟩:=h1;obtain⟨p2,c2,rfl,_⟩:=h2;clear hT w1 w2 m u he hV O F hok N hln h hS C n1 n2 n3 n4 m1 m2 m3 m4 hl
 go_enter func163,ntmps163
 go_wp2_with (first
  | (have _:=Z;go_at_call 9999)
  | (have _:=r;go_at_call 43;refine(Q.out _ r.out).mono ?_;rintro e f ⟨rfl,I⟩;have i:=Aa (r.out.trans (I.mono r.out.size));clear I)
  | (go_at_call 43;refine(cL1.out _ E.out).mono ?_;rintro e w2 ⟨rfl,Y⟩;have r:=Aa (E.out.trans (Y.mono E.out.size));clear Y)
  | (go_at_call 110;refine AC cB.out ?_;rintro e w1 ⟨rfl,hb1⟩;have E:=Aa hb1;clear hb1)
  | (have _:=i;go_at_call 111;refine(Se f).mono ?_;rintro e d ⟨rfl,P,hz4,K⟩;have Z:=Aa P;have HZ4:=Aa hz4;have HB4:=Aa (i.out.trans (K.mono i.out.size));clear P hz4 K))
 obtain⟨G,t⟩:∃X,X=((d.alloc (Oc #[.func (.func 154) #[] #[.pointer (some (Ad (f.heap.size+1) 0)),.pointer (some (Ad (f.heap.size+2) 0)),.pointer (some (Ad (f.heap.size+3) 0)),Pd f.heap.size 0]] 196)).alloc (Oc #[.func (.func 179) #[] #[Pd d.heap.size 0]] 201)):=⟨_,rfl⟩;rw[←t];have H45:Hid (Bw d G):=by rw[t];exact(zA _ _).alloc (by simp) _
 have q:Hid (Bw w G):=HB4.out.trans (H45.out.mono HB4.out.size)
 have g:Hid (LV [(d.heap.size,Oc #[Cc f.heap.size] 196),(d.heap.size+1,Oc #[.func (.func 179) #[] #[Pd d.heap.size 0]] 201)] G):=by
  intro x J;simp only[DR,DL,or_false]at J;rw[t]
  rcases J with rfl|rfl
  . exact(heap_alloc_old _ _ (by simp)).trans (heap_alloc_new _ _)
  . have:=heap_alloc_new (d.alloc (Oc #[.func (.func 154) #[] #[.pointer (some (Ad (f.heap.size+1) 0)),.pointer (some (Ad (f.heap.size+2) 0)),.pointer (some (Ad (f.heap.size+3) 0)),Pd f.heap.size 0]] 196)) (Oc #[.func (.func 179) #[] #[Pd d.heap.size 0]] 201)
    rwa[AN]at this
 have HKX:Hid (∀x∈([(d.heap.size,Oc #[Cc f.heap.size] 196),(d.heap.size+1,Oc #[.func (.func 179) #[] #[Pd d.heap.size 0]] 201)]:List (Nat×Obj)),f.heap.size+4<=x.1/\(∀c fz,x.2≠.cells c 5 fz)/\∀c fz,x.2≠.cells c 87 fz):=by
  intro x J;simp only[DR,DL,or_false]at J;rcases J with rfl|rfl<;>exact⟨by have:=HZ4.out;simp only;omega,λc fz e=>(by cases e),λc fz e=>(by cases e)⟩
 clear t;have yX:G.cell? (Ad (d.heap.size+1) 0)=some (.func (.func 179) #[] #[Pd d.heap.size 0]):=Az (g.out (d.heap.size+1,Oc #[.func (.func 179) #[] #[Pd d.heap.size 0]] 201) (by simp)) 0
 go_region_with (first
  | (have _:=HO6;go_at_call 112;obtain⟨g1,g2,hI,ho,i1,i2,i3,i4,i5⟩:=UI [(d.heap.size,Oc #[Cc f.heap.size] 196),(d.heap.size+1,Oc #[.func (.func 179) #[] #[Pd d.heap.size 0]] 201)] Z.out HZ4.out g.out HKX.out H45.out L.out k.out HS5.out HO6.out z.out HS6.out;refine(TK 115 115 179 Au Au Ea _ _ g1 g2 d.heap.size [(d.heap.size,Oc #[Cc f.heap.size] 196),(d.heap.size+1,Oc #[.func (.func 179) #[] #[Pd d.heap.size 0]] 201)] _ _ _ _ _ A7 w6 hI HSD.out HBD.out ho i1 i2 i3 i4 i5 (λs x T n W hg hbx hB hS hT hn=>Yh _ _ _ s x.1 x.2 W hg (hbx (d.heap.size,Oc #[Cc f.heap.size] 196) (by simp)) hB hS hT hn) Mj.1 Mj.1 Mj.2.2.1 MI MI).mono ?_;rintro e w7 ⟨⟨v7,rfl⟩,D,hx7,R⟩;rw[HS.out]at D;have H:=Aa D;have HB7:=Aa R;clear hI ho i1 i2 i3 i4 i5 D hx7 R)
  | (have _:=L;go_at_call 113;refine(cN2.out _ y.out).mono ?_;rintro e w6 ⟨v6,rfl,o6,b6,s6⟩;have HO6:=Aa o6;have z:=Aa b6;have HS6:=Aa s6;have HW6:=Aa (y.out.trans (z.out.mono y.out.size));have U:=Aa (k.out.trans (z.out.mono k.out.size));obtain⟨pp6,cc6,rfl⟩:=Bm o6;clear o6 b6 s6;have yw6:w6.cell? (Ad (d.heap.size+1) 0)=some (.func (.func 179) #[] #[Pd d.heap.size 0]):=Az ((U.out.block _ (Cn (g.out (d.heap.size+1,Oc #[.func (.func 179) #[] #[Pd d.heap.size 0]] 201) (by simp)))).trans (g.out (d.heap.size+1,Oc #[.func (.func 179) #[] #[Pd d.heap.size 0]] 201) (by simp))) 0)
  | (go_at_call 113;refine(cN1.out _ (by first|exact q.out.drew|exact q.out)).mono ?_;rintro e w5 ⟨v5,rfl,o5,b5,s5⟩;have L:=Aa o5;have k:Hid (Bw G w5):=(by first|exact b5|exact(A9 _ G).drew.trans b5);have HS5:=Aa s5;have y:=Aa (q.out.trans (k.out.mono q.out.size));obtain⟨pp5,cc5,rfl⟩:=Bm o5;clear o5 b5 s5;have yw5:w5.cell? (Ad (d.heap.size+1) 0)=some (.func (.func 179) #[] #[Pd d.heap.size 0]):=Az ((k.out.block _ (Cn (g.out (d.heap.size+1,Oc #[.func (.func 179) #[] #[Pd d.heap.size 0]] 201) (by simp)))).trans (g.out (d.heap.size+1,Oc #[.func (.func 179) #[] #[Pd d.heap.size 0]] 201) (by simp))) 0))
 all_goals (
  go_wp2_with (have _:=H;go_at_call 155;refine(RI f.heap.size S w7 H.out l.out.1 l.out.2).mono ?_;rintro e w8 ⟨v8,rfl,o8,b8⟩)
  obtain⟨p8,c8,rfl⟩:=Bm o8
  go_ret2
  exact⟨_,rfl,J6 HW6.out.size o8,(HW6.out.trans (HB7.out.mono i.out.size)).trans (b8.below.mono i.out.size)⟩)
theorem bY(v1 v2:Value)(a b:List Pt)(w:World)(hT:Lib.Utf8Tabs 1 2 w)(h1:Ae w v1 a)(h2:Ae w v2 b)(w1:∀p∈a,Cp p)(w2:∀p∈b,Cp p)(k:Bs a)(r:Bs b)(he:Dy a b=0)(hl:(Be b).1=(Be a).1) :
    Cg 163 #[v1,v2,.bool false] w λe w'=>∃v',e=.returned (.tuple #[v',.nilIface])/\opN w.heap.size w' v' (Aq (Bv false a b))/\Bw w w':=by
 have cB:Hid _:=NW v1 v2 a b w hT h1 h2 w1 w2 k.len r.len;have hV:Ao (Dy a b)=.nilIface:=by unfold Ao;rw[if_pos he]
 rw[hV]at cB;have cL1:=Aa λi (t:Bw w i)=>Jr v1 a i (E5 h1 t) k.len;have P:=Aa λi (t:Bw w i)=>Jr v2 b i (E5 h2 t) r.len;have cN1:=Aa λi (t:Bw w i)=>Ol v2 b i (E5 h2 t) (Da r.one) (by have:=r.w;omega) r.len;have cN2:=Aa λi (t:Bw w i)=>Ol v1 a i (E5 h1 t) (Da k.one) (by have:=k.w;omega) k.len;obtain⟨n1,n2,n3,n4⟩:=Hn k;obtain⟨m1,m2,m3,m4⟩:=Hn r;have g:Fr Au (Ag b)=Fr Au (Ag a):=by
  have e1:=(Hm k).1;have e2:=(Hm k).2;have e3:=(Hm r).1;rw[MC _ (λp hp=>(n1 p hp).1),MC _ (λp hp=>(m1 p hp).1)];omega
 obtain⟨N,hok,L,hln⟩:=Qe L8 L8 (Bc (Ag b)+Bc (Ag a)) (Ag b) (Ag a) m1 n1 g (Ai _);have E:BdS (λx=>Ea (x.2,x.1)) (Bi Au Au (Bc (Ag b)+Bc (Ag a)) (Ag b) (Ag a)) A7 0 0:=Tb YF hok (by rw[L];omega) (by omega);have HSD:=Aa N;have HBD:=Aa E;have hS:B9 (λx=>Ea (x.2,x.1)) (Bi Au Au (Bc (Ag b)+Bc (Ag a)) (Ag b) (Ag a)) A7=Bv false a b:=rfl;have j:Hid _:=Ue E;rw[hS]at j;obtain⟨S,y⟩:∃S,Bv false a b=S:=⟨_,rfl⟩;rw[y]at j ⊢;have HS:Hid (B9 (λx=>Ea (x.2,x.1)) (Bi Au Au (Bc (Ag b)+Bc (Ag a)) (Ag b) (Ag a)) A7=S):=y;rw[hl]at P;generalize (Be a).1=A1 at *;generalize (Be a).2=A2 at *;generalize (Be b).2=B2 at *;obtain⟨p1,c1,rfl,_⟩:=h1;obtain⟨p2,c2,rfl,_⟩:=h2;clear hT w1 w2 k r he hV N E hok L hln g hS y n1 n2 n3 n4 m1 m2 m3 m4 hl
 go_enter func163,ntmps163
 go_wp2_with (first
  | (have _:=U;go_at_call 9999)
  | (have _:=m;go_at_call 43;refine(P.out _ m.out).mono ?_;rintro e f ⟨rfl,G⟩;have h:=Aa (m.out.trans (G.mono m.out.size));clear G)
  | (go_at_call 43;refine(cL1.out _ D.out).mono ?_;rintro e w2 ⟨rfl,R⟩;have m:=Aa (D.out.trans (R.mono D.out.size));clear R)
  | (go_at_call 110;refine AC cB.out ?_;rintro e w1 ⟨rfl,hb1⟩;have D:=Aa hb1;clear hb1)
  | (have _:=h;go_at_call 111;refine(Se f).mono ?_;rintro e d ⟨rfl,O,hz4,I⟩;have U:=Aa O;have Y:=Aa hz4;have HB4:=Aa (h.out.trans (I.mono h.out.size));clear O hz4 I))
 obtain⟨X5,q⟩:∃X,X=((d.alloc (Oc #[.func (.func 154) #[] #[.pointer (some (Ad (f.heap.size+1) 0)),.pointer (some (Ad (f.heap.size+2) 0)),.pointer (some (Ad (f.heap.size+3) 0)),Pd f.heap.size 0]] 196)).alloc (Oc #[.func (.func 179) #[] #[Pd d.heap.size 0]] 201)):=⟨_,rfl⟩;rw[←q];have H45:Hid (Bw d X5):=by rw[q];exact(zA _ _).alloc (by simp) _
 have z:Hid (Bw w X5):=HB4.out.trans (H45.out.mono HB4.out.size)
 have HBX:Hid (LV [(d.heap.size,Oc #[Cc f.heap.size] 196),(d.heap.size+1,Oc #[.func (.func 179) #[] #[Pd d.heap.size 0]] 201)] X5):=by
  intro x H;simp only[DR,DL,or_false]at H;rw[q]
  rcases H with rfl|rfl
  . exact(heap_alloc_old _ _ (by simp)).trans (heap_alloc_new _ _)
  . have:=heap_alloc_new (d.alloc (Oc #[.func (.func 154) #[] #[.pointer (some (Ad (f.heap.size+1) 0)),.pointer (some (Ad (f.heap.size+2) 0)),.pointer (some (Ad (f.heap.size+3) 0)),Pd f.heap.size 0]] 196)) (Oc #[.func (.func 179) #[] #[Pd d.heap.size 0]] 201)
    rwa[AN]at this
 have HKX:Hid (∀x∈([(d.heap.size,Oc #[Cc f.heap.size] 196),(d.heap.size+1,Oc #[.func (.func 179) #[] #[Pd d.heap.size 0]] 201)]:List (Nat×Obj)),f.heap.size+4<=x.1/\(∀c Z,x.2≠.cells c 5 Z)/\∀c Z,x.2≠.cells c 87 Z):=by
  intro x H;simp only[DR,DL,or_false]at H;rcases H with rfl|rfl<;>exact⟨by have:=Y.out;simp only;omega,λc Z e=>(by cases e),λc Z e=>(by cases e)⟩
 clear q;refine(cN1.out _ z.out).mono ?_;rintro e w5 ⟨v5,rfl,o5,b5,s5⟩;have J:=Aa o5;have l:Hid (Bw X5 w5):=(by first | exact b5 | exact(A9 _ X5).drew.trans b5);have HS5:=Aa s5;have u:Hid (Bw w w5):=z.out.trans (l.out.mono z.out.size);obtain⟨pp5,cc5,rfl⟩:=Bm o5;clear o5 b5 s5
 go_wp2_with (first
  | (have _:=F;go_at_call 155;refine(RI f.heap.size S w7 F.out j.out.1 j.out.2).mono ?_;rintro e w8 ⟨v8,rfl,o8,b8⟩)
  | (have _:=HO6;go_at_call 112;obtain⟨g1,g2,hI,ho,i1,i2,i3,i4,i5⟩:=UI [(d.heap.size,Oc #[Cc f.heap.size] 196),(d.heap.size+1,Oc #[.func (.func 179) #[] #[Pd d.heap.size 0]] 201)] U.out Y.out HBX.out HKX.out H45.out J.out l.out HS5.out HO6.out v.out HS6.out;refine(TK 115 115 180 Au Au (λx=>Ea (x.2,x.1)) _ _ g1 g2 (d.heap.size+1) [(d.heap.size,Oc #[Cc f.heap.size] 196),(d.heap.size+1,Oc #[.func (.func 179) #[] #[Pd d.heap.size 0]] 201)] _ _ _ _ _ A7 w6 hI HSD.out HBD.out ho i1 i2 i3 i4 i5 (λs x T n W hg K hB hS hT hn=>gj _ _ d.heap.size _ s x.1 x.2 W hg (K (d.heap.size,Oc #[Cc f.heap.size] 196) (by simp)) (K (d.heap.size+1,Oc #[.func (.func 179) #[] #[Pd d.heap.size 0]] 201) (by simp)) hB hS hT hn) Mj.1 Mj.1 Mj.2.2.2.1 MI MI).mono ?_;rintro e w7 ⟨⟨v7,rfl⟩,C,hx7,Q⟩;rw[HS.out]at C;have F:=Aa C;have HB7:=Aa Q;clear hI ho i1 i2 i3 i4 i5 C hx7 Q)
  | (have _:=J;go_at_call 113;refine(cN2.out _ u.out).mono ?_;rintro e w6 ⟨v6,rfl,o6,b6,s6⟩;have HO6:=Aa o6;have v:=Aa b6;have HS6:=Aa s6;have HW6:=Aa (u.out.trans (v.out.mono u.out.size));have HB56:=Aa (l.out.trans (v.out.mono l.out.size));obtain⟨pp6,cc6,rfl⟩:=Bm o6;clear o6 b6 s6))
 obtain⟨p8,c8,rfl⟩:=Bm o8
 go_ret2
 exact⟨_,rfl,J6 HW6.out.size o8,(HW6.out.trans (HB7.out.mono h.out.size)).trans (b8.below.mono h.out.size)⟩
theorem fE(v1 v2:Value)(a b:List Pt)(w:World)(hT:Lib.Utf8Tabs 1 2 w)(h1:Ae w v1 a)(h2:Ae w v2 b)(w1:∀p∈a,Cp p)(w2:∀p∈b,Cp p)(j:Bs a)(q:Bs b)(he:Dy a b=0)(hl:(Be b).1=(Be a).2) :
    Cg 77 #[v1,v2] w λe w'=>∃v',e=.returned (.tuple #[v',.nilIface])/\opN w.heap.size w' v' (Aq (Ha a b))/\Bw w w':=by
 have cB:Hid _:=NW v1 v2 a b w hT h1 h2 w1 w2 j.len q.len;have hV:Ao (Dy a b)=.nilIface:=by unfold Ao;rw[if_pos he]
 rw[hV]at cB;have cL1:=Aa λh (t:Bw w h)=>Jr v1 a h (E5 h1 t) j.len;have O:=Aa λh (t:Bw w h)=>Jr v2 b h (E5 h2 t) q.len;have cN1:=Aa λh (t:Bw w h)=>Ol v1 a h (E5 h1 t) (Da j.one) (by have:=j.w;omega) j.len;have cN2:=Aa λh (t:Bw w h)=>Ol v2 b h (E5 h2 t) (Da q.one) (by have:=q.w;omega) q.len;obtain⟨n1,n2,n3,n4⟩:=Hn j;obtain⟨m1,m2,m3,m4⟩:=Hn q;have f:Fr Dg (Ag a)=Fr Au (Ag b):=by
  have e1:=(Hm j).1;have e2:=(Hm j).2;have e3:=(Hm q).1;rw[MC _ (λp hp=>(m1 p hp).1),Xm _ (λp hp=>(n1 p hp).1)];omega
 obtain⟨L,hok,K,hln⟩:=Qe fb L8 (Bc (Ag a)+Bc (Ag b)) (Ag a) (Ag b) n1 m1 f (Ai _);have E:BdS Do (Bi Dg Au (Bc (Ag a)+Bc (Ag b)) (Ag a) (Ag b)) A7 0 0:=Tb eM hok (by rw[K];omega) (by omega);have HSD:=Aa L;have HBD:=Aa E;have hS:B9 Do (Bi Dg Au (Bc (Ag a)+Bc (Ag b)) (Ag a) (Ag b)) A7=Ha a b:=rfl;have i:Hid _:=Ue E;rw[hS]at i;obtain⟨S,y⟩:∃S,Ha a b=S:=⟨_,rfl⟩;rw[y]at i ⊢;have HS:Hid (B9 Do (Bi Dg Au (Bc (Ag a)+Bc (Ag b)) (Ag a) (Ag b)) A7=S):=y;rw[hl]at O;generalize (Be a).1=A1 at *;generalize (Be a).2=A2 at *;generalize (Be b).2=B2 at *;obtain⟨p1,c1,rfl,_⟩:=h1;obtain⟨p2,c2,rfl,_⟩:=h2;clear hT w1 w2 j q he hV L E hok K hln f hS y n1 n2 n3 n4 m1 m2 m3 m4 hl
 go_enter func77,ntmps77
 go_wp2_with (first
  | (have _:=R;go_at_call 9999)
  | (have _:=l;go_at_call 43;refine(O.out _ l.out).mono ?_;rintro e d ⟨rfl,G⟩;have g:=Aa (l.out.trans (G.mono l.out.size));clear G)
  | (go_at_call 43;refine(cL1.out _ D.out).mono ?_;rintro e w2 ⟨rfl,Q⟩;have l:=Aa (D.out.trans (Q.mono D.out.size));clear Q)
  | (go_at_call 110;refine AC cB.out ?_;rintro e w1 ⟨rfl,hb1⟩;have D:=Aa hb1;clear hb1)
  | (have _:=g;go_at_call 111;refine(Se d).mono ?_;rintro e r ⟨rfl,N,hz4,I⟩;have R:=Aa N;have U:=Aa hz4;have HB4:=Aa (g.out.trans (I.mono g.out.size));clear N hz4 I))
 obtain⟨X5,m⟩:∃X,X=(r.alloc (Oc #[.func (.func 154) #[] #[.pointer (some (Ad (d.heap.size+1) 0)),.pointer (some (Ad (d.heap.size+2) 0)),.pointer (some (Ad (d.heap.size+3) 0)),Pd d.heap.size 0]] 196)):=⟨_,rfl⟩;rw[←m];have Z:Hid (Bw r X5):=by rw[m];exact zA _ _
 have z:Hid (Bw w X5):=HB4.out.trans (Z.out.mono HB4.out.size);have HBX:Hid (LV [(r.heap.size,Oc #[Cc d.heap.size] 196)] X5):=by
  intro x H;simp only[DM]at H;subst H;rw[m];exact heap_alloc_new _ _
 have HKX:Hid (∀x∈([(r.heap.size,Oc #[Cc d.heap.size] 196)]:List (Nat×Obj)),d.heap.size+4<=x.1/\(∀c Y,x.2≠.cells c 5 Y)/\∀c Y,x.2≠.cells c 87 Y):=by
  intro x H;simp only[DM]at H;subst H;exact⟨by have:=U.out;omega,λc Y e=>(by cases e),λc Y e=>(by cases e)⟩
 clear m;refine(cN1.out _ z.out).mono ?_;rintro e w5 ⟨v5,rfl,o5,b5,s5⟩;have J:=Aa o5;have k:Hid (Bw X5 w5):=(by first | exact b5 | exact(A9 _ X5).drew.trans b5);have HS5:=Aa s5;have u:Hid (Bw w w5):=z.out.trans (k.out.mono z.out.size);obtain⟨pp5,cc5,rfl⟩:=Bm o5;clear o5 b5 s5
 go_wp2_with (first
  | (have _:=F;go_at_call 155;refine(RI d.heap.size S w7 F.out i.out.1 i.out.2).mono ?_;rintro e w8 ⟨v8,rfl,o8,b8⟩)
  | (have _:=HO6;go_at_call 112;obtain⟨g1,g2,hI,ho,i1,i2,i3,i4,i5⟩:=UI [(r.heap.size,Oc #[Cc d.heap.size] 196)] R.out U.out HBX.out HKX.out Z.out J.out k.out HS5.out HO6.out v.out HS6.out;refine(TK 114 115 116 Dg Au Do _ _ g1 g2 r.heap.size [(r.heap.size,Oc #[Cc d.heap.size] 196)] _ _ _ _ _ A7 w6 hI HSD.out HBD.out ho i1 i2 i3 i4 i5 (λs x T n W hg hbx hB hS hT hn=>br _ _ _ s x.1 x.2 W hg (hbx (r.heap.size,Oc #[Cc d.heap.size] 196) (by simp)) hB hS hT hn) Mj.2.1 Mj.1 Mj.2.2.2.2 OJ MI).mono ?_;rintro e w7 ⟨⟨v7,rfl⟩,C,hx7,P⟩;rw[HS.out]at C;have F:=Aa C;have HB7:=Aa P;clear hI ho i1 i2 i3 i4 i5 C hx7 P)
  | (have _:=J;go_at_call 113;refine(cN2.out _ u.out).mono ?_;rintro e w6 ⟨v6,rfl,o6,b6,s6⟩;have HO6:=Aa o6;have v:=Aa b6;have HS6:=Aa s6;have HW6:=Aa (u.out.trans (v.out.mono u.out.size));have HB56:=Aa (k.out.trans (v.out.mono k.out.size));obtain⟨pp6,cc6,rfl⟩:=Bm o6;clear o6 b6 s6))
 obtain⟨p8,c8,rfl⟩:=Bm o8
 go_ret2
 exact⟨_,rfl,J6 HW6.out.size o8,(HW6.out.trans (HB7.out.mono g.out.size)).trans (b8.below.mono g.out.size)⟩
end
section
variable {a b l t : List UInt8}{p : Pt}{ps : List Pt}
def V (l:List UInt8):Prop:=∃rs:List Nat,(∀r∈rs,Df r)/\l=encs rs
theorem GP:V []:=⟨[],by simp,rfl⟩
theorem L6(ha:V a)(e:V b):V (a++b):=by
 obtain⟨x,g,rfl⟩:=ha;obtain⟨y,f,rfl⟩:=e;exact⟨x++y,λr d=>(List.mem_append.1 d).elim (g r) (f r),(Mk x y).symm⟩
theorem N4(h:V l):(scan l).2=true:=by
 obtain⟨x,d,rfl⟩:=h;rw[MN x d]
theorem RZ(h:(scan l).2=true):V l:=⟨Ch l,λr d=>NV d,(MP h).symm⟩
theorem Ta(ha:V a)(d:V (a++b)):V b:=by
 obtain⟨i,j,rfl⟩:=ha
 induction i generalizing b with
 | nil=>exact d
 | cons r i ih =>
  obtain⟨g,k,e⟩:=d;rw[Kb,AH]at e;have m:=Rf (j r (by simp)) (encs i++b)
  cases g with
  | nil =>
   have:=congrArg List.length e;have f:=List.length_pos_iff.2 (Q6 r);have n:(encs []).length=0:=rfl;rw[AA]at this;omega
  | cons q g =>
   rw[Kb]at e;have f:=Rf (k q (by simp)) (encs g);rw[←e,m.1]at f;obtain⟨f,_⟩:=f;obtain rfl:r=q:=congrArg Prod.fst f;exact ih (λx h=>j x (by simp[h])) ⟨g,λx h=>k x (by simp[h]),List.append_cancel_left e⟩
theorem LK{b:UInt8}(h:V (b :: l)):LX b=true:=by
 obtain⟨d,f,e⟩:=h
 cases d with
 | nil=>simp[encs]at e
 | cons r d =>
  obtain⟨j,t,g,i,_⟩:=Y8 (f r (by simp));rw[Kb,g,BR]at e;have:b=j:=(List.cons.inj e).1;rw[this];exact i
theorem Vq{n:Nat}(d:V l)(e:V (l.take n)):V (l.drop n):=Ta e (by rw[AW];exact d)
def al:List Pt->List UInt8->Prop
 | [],_=>True
 | p :: ps,t=>V p.put/\V (t.take (Ab p).toNat)/\al ps (t.drop (Ab p).toNat)
structure good (ps:List Pt) (t:List UInt8):Prop where
 one:∀p∈ps,Am p
 long:Ak ps=t.length
 al:al ps t
theorem Im(p:Pt)(ps:List Pt):Ak (p :: ps)=Ab p+Ak ps:=by simp[Ak]
theorem P0(h:Am p):0<=Ab p:=by
 rcases h with ⟨d,e,f⟩|⟨d,e,f⟩|⟨d,e,f⟩<;>simp only[Ab]<;>omega
theorem Qh(h:∀p∈ps,Am p):0<=Ak ps:=by
 induction ps with
 | nil=>simp[Ak]
 | cons p ps ih =>
  have e:=ih λq d=>h q (by simp[d]);have f:=P0 (h p (by simp));rw[Im];omega
theorem Ld(h:Am p):Db p=true:=by
 unfold Db;obtain⟨K,D,U⟩:=p
 rcases h with ⟨f,e,d⟩|⟨f,e,d⟩|⟨f,e,d⟩
 . obtain rfl:D=0:=e
   obtain rfl:U=[]:=d;simp;exact f
 . obtain rfl:K=0:=f
   obtain rfl:U=[]:=d;have e:0<D:=e;have:D≠0:=by omega
   simp[this];exact e
 . obtain rfl:K=0:=f
   obtain rfl:D=0:=e;have d:U≠[]:=d;simp[d]
theorem Vy{n:Int}(f:∀p∈ps,Am p)(g:∀p∈ps,V p.put)(e:Ak ps=n):chkE ps n=0:=by
 have h:Dw ps=0:=by
  clear e
  induction ps with
  | nil=>rfl
  | cons p ps ih =>
   rw[Dw,if_pos (Ld (f p (by simp))),if_pos (N4 (g p (by simp)))];exact ih (λq d=>f q (by simp[d])) λq d=>g q (by simp[d])
 unfold chkE;rw[if_pos h];clear h g
 induction ps generalizing n with
 | nil=>simp[Ak]at e;simp[D9,←e]
 | cons p ps ih =>
  rw[Im]at e;have i:=Qh λq d=>f q (DS _ d);have j:p.keep+p.drop=Ab p:=rfl;rw[D9,if_neg (by omega)];exact ih (λq d=>f q (by simp[d])) (by omega)
theorem Tl:∀{ps:List Pt}{t:List UInt8},al ps t->∀p∈ps,V p.put
 | [],_,_,p,d=>by cases d
 | q :: ps,t,h,p,d=>by
  rcases List.mem_cons.1 d with rfl|d
  . exact h.1
  . exact Tl h.2.2 p d
theorem Vv:∀{ps:List Pt}{t:List UInt8},al ps t->C9 ps t=false
 | [],_,_=>rfl
 | p :: ps,t,h=>by
  rw[C9,Vv h.2.2,Bool.or_false];have:=h.2.1;generalize t.take (Ab p).toNat=l at this
  cases l with
  | nil=>rfl
  | cons b l=>simp[GS,LK this]
theorem good.chk(h:good ps t):chkE ps (t.length:Int)=0:=Vy h.one (Tl h.al) h.long
theorem good.ord(h:good ps t):ordE ps t=0:=by
 unfold ordE;rw[if_pos h.chk,Vv h.al];rfl
theorem Ow(p:Pt)(ps:List Pt)(t:List UInt8):Aj (p :: ps) t=Fy (p,t.take (Ab p).toNat)++Aj ps (t.drop (Ab p).toNat):=rfl
theorem N8:∀{ps:List Pt}{t:List UInt8},al ps t->V (Aj ps t)
 | [],_,_=>GP
 | p :: ps,t,h=>by
  rw[Ow];refine L6 ?_ (N8 h.2.2);unfold Fy;refine L6 ?_ h.1
  split
  . exact h.2.1
  . exact GP
theorem Ky(u:List UInt8)(ps:List Pt)(t:List UInt8):Aj (⟨0,0,u⟩ :: ps) t=u++Aj ps t:=by
 simp[Ow,Fy,Ab]
theorem gE(n:Int)(d:0<n)(ps:List Pt)(t:List UInt8):Aj (⟨n,0,[]⟩ :: ps) t=t.take n.toNat++Aj ps (t.drop n.toNat):=by
 simp[Ow,Fy,Ab,d]
theorem gD(n:Int)(ps:List Pt)(t:List UInt8):Aj (⟨0,n,[]⟩ :: ps) t=Aj ps (t.drop n.toNat):=by
 simp[Ow,Fy,Ab]
def Gd (x:List UInt8×List UInt8) (p:Pt):List UInt8×List UInt8:=(x.1++(p.put++(x.2.drop p.drop.toNat).take p.keep.toNat),(x.2.drop p.drop.toNat).drop p.keep.toNat)
theorem Rb:G8 Gd:=by
 constructor
 . intro x;simp[Gd]
 . intro x u v;simp[Gd]
 . intro x a b ha e
   simp only[Gd,DQ,DW,AZ,DI,EI];rw[show a.toNat+b.toNat=(a+b).toNat by omega]
 . intro x a b ha e
   simp only[Gd,BA,DQ,DE,DI,AH];rw[show(a+b).toNat=a.toNat+b.toNat by omega,FM];simp only[EI]
 . intro x k d u;simp[Gd]
 . intro x d u;simp[Gd]
theorem R6:∀(ps:List Pt),(∀p∈ps,Am p)->∀(o t:List UInt8),ps.foldl Gd (o,t)=(o++Aj ps t,t.drop (Ak ps).toNat)
 | [],_,o,t=>by simp[Aj,E7,Ak]
 | p :: ps,h,o,t=>by
  have e:=Qh λq d=>h q (DS _ d);rw[BT,Gd,R6 ps λq d=>h q (by simp[d])];rw[Im]
  rcases L5 (h p (by simp)) with ⟨u,f,rfl⟩|⟨m,rfl⟩|⟨m,rfl⟩
  . rw[Ky];simp[Ab]
  . rw[gE _ (by omega)]
    simp only[Ab,DQ,DE,BA,AH,DI];rw[show((m:Int)+1+0+Ak ps).toNat=((m:Int)+1).toNat+(Ak ps).toNat by omega]
  . rw[gD]
    simp only[Ab,DQ,AZ,DW,DI,EI];rw[show(0+((m:Int)+1)+Ak ps).toNat=((m:Int)+1).toNat+(Ak ps).toNat by omega]
def Iq (E:Int->Prop):Int->List Pt->Prop
 | i,[]=>E i
 | i,p :: ps=>E i/\Iq E (i+Ab p) ps
theorem Tw{E:Int->Prop}{i:Int}{ps:List Pt}(h:Iq E i ps):E i:=by
 cases ps with
 | nil=>exact h
 | cons p ps=>exact h.1
theorem Ov(E:Int->Prop):∀(a b:List Pt)(i:Int),Iq E i (a++b)↔Iq E i a/\Iq E (i+Ak a) b
 | [],b,i=>by
  simp only[BA,Ak,BU,FE,DO];exact⟨λh=>⟨Tw h,h⟩,λh=>h.2⟩
 | p :: a,b,i=>by
  rw[BR,Im,←GL];show(E i/\Iq E (i+Ab p) (a++b))↔(E i/\Iq E (i+Ab p) a)/\_;rw[Ov E a b,and_assoc]
theorem VU{E:Int->Prop}{i:Int}{ps:List Pt}(h:Iq E i ps):E (i+Ak ps):=by
 have:=(Ov E ps [] i).1 (by rw[AZ];exact h);exact this.2
structure Gy (E:Int->Prop) (s:Av):Prop where
 out:Iq E 0 s.out
 here:E (IH s)
 puts:∀p∈s.out,V p.put
 put:V s.put
 one:Iw s
theorem Qf{E:Int->Prop}{s:Av}(h:Gy E s):Iq E 0 (Aq s)/\∀p∈Aq s,V p.put:=by
 have f:=VU h.out;rw[EY]at f;have g:=h.here;unfold IH at g;unfold Aq;refine⟨(Ov ..).2 ⟨h.out,?_⟩,?_⟩
 . rw [EY]
   have e:Iq E (Ak s.out) (if s.drop=0 then [] else [⟨0,s.drop,[]⟩]):=by
    split
    . exact f
    . refine⟨f,?_⟩
      show E (Ak s.out+(0+s.drop));rw[EY];exact g
   split
   . exact e
   . refine⟨f,?_⟩
     show Iq E (Ak s.out+(0+0)) _;rw[EY,DO];exact e
 . intro p d
   rcases List.mem_append.1 d with d|d
   . exact h.puts p d
   . rcases List.mem_append.1 d with d | d
     . split at d
       . cases d
       . rw[List.mem_singleton.1 d];exact h.put
     . split at d
       . cases d
       . rw[List.mem_singleton.1 d];exact GP
theorem b9{E:Int->Prop}{l:List Pt}{k:Int}(h:Iq E 0 l)(f:E (Ak l+k)):Iq E 0 (F8 l k):=by
 have d:Iq E 0 (l++[⟨k,0,[]⟩]):=by
  refine(Ov ..).2 ⟨h,VU h,?_⟩;show E (0+Ak l+(k+0));rw[EY,DO];exact f
 unfold F8
 cases hq:l.getLast? with
 | none=>exact d
 | some q =>
  simp only
  split
  . obtain⟨m,rfl⟩:=List.getLast?_eq_some_iff.1 hq
    obtain⟨g,i⟩:=(Ov ..).1 h;rw[List.dropLast_concat];refine(Ov ..).2 ⟨g,i.1,?_⟩;have e:Ak (m++[q])=Ak m+Ab q:=by simp[Ak]
    rw[e]at f;show E (0+Ak m+(q.keep+k+q.drop));have:0+Ak m+(q.keep+k+q.drop)=Ak m+Ab q+k:=by unfold Ab;omega
    rw[this];exact f
  . exact d
theorem ft{l:List Pt}{k:Int}(h:∀p∈l,V p.put):∀p∈F8 l k,V p.put:=by
 intro p d;unfold F8 at d
 cases hq:l.getLast? with
 | none =>
  rw[hq]at d;simp only[EQ,DM]at d
  rcases d with d|rfl
  . exact h p d
  . exact GP
 | some q =>
  rw[hq]at d;simp only at d
  split at d
  . simp only[EQ,DM]at d
    rcases d with d|rfl
    . exact h p (GG l d)
    . exact h q (GF hq)
  . simp only[EQ,DM]at d
    rcases d with d|rfl
    . exact h p d
    . exact GP
theorem Qa{E:Int->Prop}{s:Av}(h:Gy E s)(p:Pt)(i:0<=p.keep)(n:0<=p.drop)(k:p.keep=0\/(p.drop=0/\p.put=[]))(m:V p.put)(f:E (IH s+Ab p)):Gy E (Af s p):=by
 have e:=Tk h.one p i n;have d:=Od s p;refine⟨?_,by rw[d];exact f,?_,?_,e⟩
 . unfold Af
   split
   . exact h.out
   . rename_i h0
     obtain⟨g,j⟩:=k.resolve_left h0;rw[g,j,AZ,DO];have i:E (Ak (Aq s)+p.keep):=by
      rw[Sr];unfold Ab at f;rw[g,DO]at f;exact f
     exact b9 (Qf h).1 i
 . unfold Af
   split
   . exact h.puts
   . rename_i h0
     obtain⟨g,j⟩:=k.resolve_left h0;rw[g,j,AZ,DO];exact ft (Qf h).2
 . unfold Af
   split
   . exact L6 h.put m
   . exact GP
theorem Rw(h:Am p):0<=p.keep/\0<=p.drop/\(p.keep=0\/(p.drop=0/\p.put=[])):=by
 rcases h with ⟨d,e,f⟩|⟨d,e,f⟩|⟨d,e,f⟩
 . exact⟨by omega,by omega,.inr ⟨e,f⟩⟩
 . exact⟨by omega,by omega,.inl d⟩
 . exact⟨by omega,by omega,.inl d⟩
theorem Wq{E:Int->Prop}:∀(ps:List Pt)(s:Av),(∀p∈ps,Am p)->(∀p∈ps,V p.put)->Gy E s->Iq E (IH s) ps->Gy E (ps.foldl Af s)
 | [],s,_,_,h,_=>h
 | p :: ps,s,h1,h2,h,hc=>by
  obtain⟨e,i,g⟩:=Rw (h1 p (by simp));have f:=Od s p;refine Wq ps (Af s p) (λq d=>h1 q (by simp[d])) (λq d=>h2 q (by simp[d])) (Qa h p e i g (h2 p (by simp)) (Tw hc.2)) ?_;rw[f];exact hc.2
def Mu (T:List UInt8) (j:Int):Prop:=V (T.take j.toNat)
theorem Vr{T:List UInt8}:∀{ps:List Pt}{i:Int},0<=i->(∀p∈ps,Am p)->V (T.take i.toNat)->al ps (T.drop i.toNat)->Iq (Mu T) i ps
 | [],i,_,_,h,_=>h
 | p :: ps,i,h0,h1,h,ha=>by
  have f:=P0 (h1 p (by simp));have e:(i+Ab p).toNat=i.toNat+(Ab p).toNat:=by omega
  refine⟨h,Vr (by omega) (λq d=>h1 q (by simp[d])) ?_ ?_⟩
  . rw[e,FM];exact L6 h ha.2.1
  . rw[e,←DI];exact ha.2.2
theorem VA{T:List UInt8}:∀{ps:List Pt}{i:Int},0<=i->(∀p∈ps,Am p)->(∀p∈ps,V p.put)->Iq (Mu T) i ps->al ps (T.drop i.toNat)
 | [],i,_,_,_,_=>trivial
 | p :: ps,i,h0,h1,h2,hc=>by
  have h:=P0 (h1 p (by simp));have e:(i+Ab p).toNat=i.toNat+(Ab p).toNat:=by omega
  have g:V (T.take i.toNat):=hc.1;have f:V (T.take (i+Ab p).toNat):=Tw hc.2;rw[e,FM]at f;refine⟨h2 p (by simp),Ta g f,?_⟩;have:=VA (by omega) (λq d=>h1 q (by simp[d])) (λq d=>h2 q (by simp[d])) hc.2;rw[e,←DI]at this;exact this
theorem PB(T:List UInt8):Gy (Mu T) A7:=⟨GP,GP,by simp[A7],GP,⟨by simp[A7],by simp[A7]⟩⟩
theorem ZQ{T:List UInt8}{s:Av}(h:Gy (Mu T) s)(d:IH s=T.length):good (Aq s) T:=by
 refine⟨RB h.one,by rw[Sr];exact d,?_⟩;have:=VA (i:=0) (by omega) (RB h.one) (Qf h).2 (Qf h).1;exact this
theorem good.norm(h:good ps t):good (Ag ps) t:=by
 have d:Gy (Mu t) (ps.foldl Af A7):=Wq ps A7 h.one (Tl h.al) (PB t) (Vr (i:=0) (by omega) h.one GP h.al);refine ZQ d ?_;rw[XN];show Ak []+0+Ak ps=_;rw[h.long];simp[Ak]
theorem Uw(h:∀p∈ps,Am p)(t:List UInt8):Aj (Ag ps) t=Aj ps t:=by
 have e:=Nt Rb ps (Da h) ([],t);rw[R6 ps h,R6 _ (Nx ps (Da h))]at e;simpa using congrArg Prod.fst e
end
section
variable {T D R o x r : List UInt8}{s : Av}{p : Pt}{ps : List Pt}
structure St (T D R o:List UInt8) (s:Av):Prop where
 cut:Gy (Mu T) s
 eq:T=D++R
 here:V D
 long:IH s=D.length
 act:(Aq s).foldl Gd ([],T)=(o,R)
theorem S8(T:List UInt8):St T [] T [] A7:=⟨PB T,rfl,GP,by simp[IH,A7,Ak],rfl⟩
theorem St.none(h:St T D R o s):St T D R (o++[]) s:=by rw[AZ];exact h
theorem St.put(h:St T D R o s){u:List UInt8}(f:V u):St T D R (o++u) (Af s ⟨0,0,u⟩):=by
 have e:=Od s ⟨0,0,u⟩;have d:Ab ⟨0,0,u⟩=0:=rfl;rw[d,DO]at e;refine⟨Qa h.cut _ (BO _) (BO _) (.inl rfl) f ?_,h.eq,h.here,by rw[e];exact h.long,?_⟩
 . rw[d,DO];exact h.cut.here
 . rw[Rc Rb s _ h.cut.one.drop (BO _) (BO _),h.act]
   simp[Gd]
theorem St.keep(h:St T D (x++R) o s)(f:V x):St T (D++x) R (o++x) (Af s ⟨x.length,0,[]⟩):=by
 have g:=Od s ⟨x.length,0,[]⟩;have d:Ab ⟨x.length,0,[]⟩=x.length:=by simp[Ab]
 rw[d]at g;have e:(0:Int)<=x.length:=by omega
 refine⟨Qa h.cut _ e (BO _) (.inr ⟨rfl,rfl⟩) GP ?_,by rw[AH];exact h.eq,L6 h.here f,by rw[g,h.long,AA];push_cast;rfl,?_⟩
 . rw[d,h.long]
   unfold Mu;rw[show((D.length:Int)+x.length).toNat=(D++x).length by rw[AA];omega,h.eq,←AH,DP]
   . exact L6 h.here f
   . rfl
 . rw[Rc Rb s _ h.cut.one.drop e (BO _),h.act]
   simp[Gd]
theorem St.drop{T D R o x:List UInt8}{s:Av}(h:St T D (x++R) o s)(g:V x):St T (D++x) R o (Af s ⟨0,x.length,[]⟩):=by
 have d:=Od s ⟨0,x.length,[]⟩;have f:Ab ⟨0,x.length,[]⟩=x.length:=by simp[Ab]
 rw[f]at d;have e:(0:Int)<=x.length:=by omega
 refine⟨Qa h.cut _ (BO _) e (.inl rfl) GP ?_,by rw[AH];exact h.eq,L6 h.here g,by rw[d,h.long,AA];push_cast;rfl,?_⟩
 . rw[f,h.long]
   unfold Mu;rw[show((D.length:Int)+x.length).toNat=(D++x).length by rw[AA];omega,h.eq,←AH,DP]
   . exact L6 h.here g
   . rfl
 . rw[Rc Rb s _ h.cut.one.drop (BO _) e,h.act]
   simp[Gd]
theorem St.full(h:St T D [] o s):St T T [] o s:=by
 have e:=h.eq;rw[AZ]at e;subst e;exact h
theorem St.good{T o:List UInt8}{s:Av}(h:St T T [] o s):good (Aq s) T/\Aj (Aq s) T=o:=by
 have d:=ZQ h.cut h.long;refine⟨d,?_⟩;have e:=h.act;rw[R6 _ d.one]at e;simpa using congrArg Prod.fst e
theorem IM(d:Bool)(n:Nat):Ab (At d n)=(n:Int):=by cases d<;>simp[Ab,At]
theorem Nz(d:Bool)(n:Nat):(At d n).put=[]:=by cases d<;>rfl
theorem bE(d:Bool)(n:Nat):Am (At d (n+1)):=by
 cases d with
 | true=>exact .inr (.inl ⟨rfl,by show(0:Int)<((n+1:Nat):Int);omega,rfl⟩)
 | false=>exact .inl ⟨by show(0:Int)<((n+1:Nat):Int);omega,rfl,rfl⟩
theorem fd(d:Bool)(n:Nat)(x:List UInt8):Fy (At d (n+1),x)=if d then [] else x:=by
 cases d<;>simp[Fy,At]
theorem MF(d:Bool)(n:Nat)(ps:List Pt)(r:List UInt8):Aj (At d (n+1) :: ps) r=(if d then [] else r.take (n+1))++Aj ps (r.drop (n+1)):=by
 rw[Ow,fd,IM];rfl
theorem XE(d:Bool)(m j:Nat)(h:j<=m):(m=j/\(Ah (At d (m+1)) ((j:Int)+1)).2=[])\/∃i,m=j+i+1/\(Ah (At d (m+1)) ((j:Int)+1)).2=[At d (i+1)]:=by
 have f:Ba (At d (m+1))=(m:Int)+1:=by rw[Ij];push_cast;rfl
 by_cases e:m=j
 . exact .inl ⟨e,by unfold Ah;rw[if_pos (by rw[f,e])]⟩
 . right
   refine⟨m - j - 1,by omega,?_⟩;unfold Ah;rw[if_neg (by rw[f];omega)];have g:((m+1:Nat):Int) - ((j:Int)+1)=((m - j - 1+1:Nat):Int):=by omega
   cases d with
   | true =>
    rw[if_neg (show ¬0<(At true (m+1)).keep from FF 0),if_pos (show 0<(At true (m+1)).drop by show(0:Int)<((m+1:Nat):Int);omega)];show [(⟨0,((m+1:Nat):Int) - ((j:Int)+1),[]⟩:Pt)]=[⟨0,((m - j - 1+1:Nat):Int),[]⟩];rw[g]
   | false =>
    rw[if_pos (show 0<(At false (m+1)).keep by show(0:Int)<((m+1:Nat):Int);omega)];show [(⟨((m+1:Nat):Int) - ((j:Int)+1),0,[]⟩:Pt)]=[⟨((m - j - 1+1:Nat):Int),0,[]⟩];rw[g]
structure Left (X:List Pt) (r:List UInt8):Prop where
 one:∀p∈X,Am p
 long:Ak X=r.length
 al:al X r
theorem Left.good{X:List Pt}{r:List UInt8}(h:Left X r):good X r:=⟨h.one,h.long,h.al⟩
theorem NB(d:Bool)(m j:Nat)(z:j<=m)(ps:List Pt)(r:List UInt8)(h:Left (At d (m+1) :: ps) r)(y:V (r.take (j+1))) :
    Left ((Ah (At d (m+1)) ((j:Int)+1)).2++ps) (r.drop (j+1))/\Aj (At d (m+1) :: ps) r=(if d then [] else r.take (j+1))++Aj ((Ah (At d (m+1)) ((j:Int)+1)).2++ps) (r.drop (j+1))/\j+1<=r.length:=by
 have v:=h.long;rw[Im,IM]at v;have C:=Qh λq g=>h.one q (DS _ g);have ha:=h.al.2.2;have g:=h.al.2.1;rw[IM]at ha g;have w:((m+1:Nat):Int).toNat=m+1:=by omega
 rw[w]at ha g;have f:j+1<=r.length:=by omega
 rcases XE d m j z with ⟨rfl,e⟩|⟨i,rfl,e⟩
 . rw[e,BA]
   refine⟨⟨λp k=>h.one p (by simp[k]),by rw[AM];omega,ha⟩,MF d m ps r,f⟩
 . rw [e]
   have u:r.take (j+i+1+1)=r.take (j+1)++(r.drop (j+1)).take (i+1):=by rw[←FM];congr 1;omega
   have n:r.drop (j+i+1+1)=(r.drop (j+1)).drop (i+1):=by rw[DI];congr 1;omega
   rw[u]at g;rw[n]at ha;refine⟨⟨?_,?_,?_,?_,?_⟩,?_,f⟩
   . intro p k
     rcases List.mem_cons.1 k with rfl|k
     . exact bE d i
     . exact h.one p (by simp at k;simp[k])
   . show Ak (At d (i+1) :: ps)=_
     rw[Im,IM,AM];omega
   . rw[Nz];exact GP
   . rw[IM];exact Ta y g
   . rw[IM];exact ha
   . show _=_++Aj (At d (i+1) :: ps) _
     rw[MF,MF,u,n]
     cases d<;>simp
def Gb:List (Pt×Pt)->List UInt8->List UInt8
 | [],_=>[]
 | (p,q) :: l,r=>p.put++(q.put++((if 0<p.keep/\0<q.keep then r.take p.keep.toNat else [])++Gb l (r.drop (Ab p).toNat)))
def tF (F:Bool) (x:Pt×Pt):List Pt:=if F then Ea x else Ea (x.2,x.1)
theorem NH(t:Pt×Pt->List Pt)(x:Pt×Pt)(l:List (Pt×Pt))(s:Av):B9 t (x :: l) s=B9 t l ((t x).foldl Af s):=rfl
theorem Xp(u:List UInt8)(l:List (Pt×Pt))(r:List UInt8):Gb ((⟨0,0,u⟩,Dh) :: l) r=u++Gb l r/\Gb ((Dh,⟨0,0,u⟩) :: l) r=u++Gb l r:=by
 simp[Gb,Dh,Ab]
theorem gY(d e:Bool)(j:Nat)(l:List (Pt×Pt))(r:List UInt8):Gb ((At d (j+1),At e (j+1)) :: l) r=(if d || e then [] else r.take (j+1))++Gb l (r.drop (j+1)):=by
 have g:(0:Int)<((j:Int)+1):=by omega
 have f:((j:Int)+1).toNat=j+1:=by omega
 cases d<;>cases e<;>simp[Gb,At,Ab,g,f]
theorem Q9(F:Bool)(u:List UInt8)(d:u≠[]):tF F (if F then (⟨0,0,u⟩,Dh) else (Dh,⟨0,0,u⟩))=[⟨0,0,u⟩]:=by
 cases F<;>simp[tF,Ea,Au,Dh,d]
theorem Ry(F:Bool)(u:List UInt8)(d:u≠[]):tF F (if F then (Dh,⟨0,0,u⟩) else (⟨0,0,u⟩,Dh))=[⟨u.length,0,[]⟩]:=by
 cases F<;>simp[tF,Ea,Au,Dh,d]
theorem WX(F d e:Bool)(j:Nat):tF F (At d (j+1),At e (j+1))=if (if F then e else d) then [] else [At (if F then d else e) (j+1)]:=by
 have f:=IQ d (j+1);have i:=IQ e (j+1);have g:∀b,Gv (At b (j+1)) = !b:=by
  intro b;have h:(0:Int)<((j:Int)+1):=by omega
  cases b<;>simp[Gv,At,h]
 cases F<;>cases d<;>cases e<;>simp[tF,Ea,f,i,g]
theorem St.unit(h:St T D (x++R) o s)(e:V x)(d:Bool)(n:Nat)(f:x.length=n):St T (D++x) R (o++if d then [] else x) (Af s (At d n)):=by
 subst f
 cases d with
 | true=>rw[if_pos rfl,AZ];exact h.drop e
 | false=>rw[if_neg (by decide)];exact h.keep e
theorem Jq(h:Left (p :: ps) r):Left ps (r.drop (Ab p).toNat)/\V p.put/\V (r.take (Ab p).toNat)/\(Ab p).toNat<=r.length:=by
 have e:=h.long;rw[Im]at e;have g:=Qh λq d=>h.one q (DS _ d);have f:=P0 (h.one p (by simp));exact⟨⟨λq d=>h.one q (by simp[d]),by rw[AM];omega,h.al.2.2⟩,h.al.1,h.al.2.1,by omega⟩
theorem L9(h:Left [] r):r=[]:=by
 have:=h.long;simp[Ak]at this;exact BC (by omega)
theorem Nw{u:List UInt8}(h:Left (⟨0,0,u⟩ :: ps) r):Left ps r/\V u:=by
 obtain⟨d,e,_⟩:=Jq h;exact⟨by simpa[Ab] using d,e⟩
theorem QR{d:Bool}{n:Nat}(h:Left (At d (n+1) :: ps) []):False:=by
 have:=(Jq h).2.2.2;rw[IM]at this;simp at this
theorem Mh(h:Am p)(ps:List Pt):Bc ps+1<=Bc (p :: ps):=by
 have:=Gm h;rw[Ff];omega
theorem W7(F:Bool):∀(f:Nat)(A B:List Pt)(r T D o:List UInt8)(s:Av),Left A r->Left B r->Bc A+Bc B<=f->St T D (Aj (if F then B else A) r) o s ->
    St T T [] (o++Gb (Bi Au Au f A B) r) (B9 (tF F) (Bi Au Au f A B) s):=by
 have base:∀(T D o:List UInt8) (s:Av) (g:Nat),St T D (Aj (if F then [] else []) []) o s->St T T [] (o++Gb (Bi Au Au g [] []) []) (B9 (tF F) (Bi Au Au g [] []) s):=by
  intro T D o s g h;have e:Bi Au Au g [] []=[]:=by cases g<;>rfl
  rw[e];have S:St T D [] o s:=by cases F<;>exact h
  exact S.full.none
 have i:∀{l:List Pt} {r:List UInt8},Left l r->Bc l=0->l=[]:=by
  intro l r h U
  cases l with
  | nil=>rfl
  | cons p l=>have:=Mh (h.one p (by simp)) l;omega
 intro f
 induction f with
 | zero =>
  intro A B r T D o s y C U h;obtain rfl:=i y (by omega);obtain rfl:=i C (by omega);obtain rfl:=L9 y;exact base T D o s 0 h
 | succ f ih =>
  intro A B r T D o s y C U h
  have z:∀(v:List UInt8) (n:List Pt),v≠[]->B=⟨0,0,v⟩ :: n->Bi Au Au (f+1) A B=(Dh,⟨0,0,v⟩) :: Bi Au Au f A n->St T T [] (o++Gb (Bi Au Au (f+1) A B) r) (B9 (tF F) (Bi Au Au (f+1) A B) s):=by
   intro v n w e J;subst e;obtain⟨Q,I⟩:=Nw C;have O:=Mh (C.one ⟨0,0,v⟩ (by simp)) n;rw[J,(Xp v _ r).2,NH,←AH];refine ih A n r T (if F then D++v else D) (o++v) _ y Q (by omega) ?_
   cases F with
   | true =>
    have e:=Ry true v w;rw[if_pos rfl]at e;rw[e];rw[if_pos rfl,Ky]at h;exact h.keep I
   | false =>
    have e:=Q9 false v w;rw[if_neg (by decide)]at e;rw[e];rw[if_neg (by decide)]at h;exact h.put I
  cases A with
  | nil =>
   obtain rfl:=L9 y
   cases B with
   | nil=>exact base T D o s (f+1) h
   | cons q n =>
    rcases Ih (C.one q (by simp)) with ⟨v,w,rfl⟩|⟨e,k,rfl⟩
    . exact z v n w rfl (by rw[Bi,if_pos (JM w)])
    . exact absurd C QR
  | cons p A' =>
   rcases Ih (y.one p (by simp)) with ⟨u,L,rfl⟩|⟨d,m,rfl⟩
   . obtain ⟨K,I⟩:=Nw y
     have O:=Mh (y.one ⟨0,0,u⟩ (by simp)) A';have J:Bi Au Au (f+1) (⟨0,0,u⟩ :: A') B=(⟨0,0,u⟩,Dh) :: Bi Au Au f A' B:=by
      have P:=JM L
      cases B<;>simp only[Bi,P,if_true]
     rw[J,(Xp u _ r).1,NH,←AH];refine ih A' B r T (if F then D else D++u) (o++u) _ K C (by omega) ?_
     cases F with
     | true =>
      have e:=Q9 true u L;rw[if_pos rfl]at e;rw[e];rw[if_pos rfl]at h;exact h.put I
     | false =>
      have e:=Ry false u L;rw[if_neg (by decide)]at e;rw[e];rw[if_neg (by decide),Ky]at h;exact h.keep I
   . cases B with
     | nil =>
      obtain rfl:=L9 C;exact absurd y QR
     | cons q n =>
      rcases Ih (C.one q (by simp)) with ⟨v,w,rfl⟩|⟨e,k,rfl⟩
      . exact z v n w rfl (by
          have P:=IQ d (m+1);have S:=JM w
          simp only[Bi,P,S,BW,if_false,if_true])
      . have E:min (Ba (At d (m+1))) (Ba (At e (k+1)))=((min m k:Nat):Int)+1:=by rw[Ij,Ij];omega
        obtain⟨j,hj⟩:∃j,min m k=j:=⟨_,rfl⟩;rw[hj]at E;have H:j<=m:=by omega
        have G:j<=k:=by omega
        have J:Bi Au Au (f+1) (At d (m+1) :: A') (At e (k+1) :: n)=(At d (j+1),At e (j+1)) :: Bi Au Au f ((Ah (At d (m+1)) ((j:Int)+1)).2++A') ((Ah (At e (k+1)) ((j:Int)+1)).2++n):=by
         rw[Bi,if_neg (by rw[IQ];decide),if_neg (by rw[IQ];decide),E,(L7 d m j H).1,(L7 e k j G).1]
        have w:V (r.take (j+1)):=by
         have v1:=(Jq y).2.2.1;have v2:=(Jq C).2.2.1;rw[IM]at v1 v2
         by_cases hc:m<=k
         . obtain rfl:m=j:=by omega
           exact v1
         . obtain rfl:k=j:=by omega
           exact v2
        obtain⟨lA,aA,X⟩:=NB d m j H A' r y w;obtain⟨Z,aB,_⟩:=NB e k j G n r C w;have wA:=Mf d m j H;have wB:=Mf e k j G;have Y:(r.take (j+1)).length=j+1:=by rw[AO];omega
        have N:Bc ((Ah (At d (m+1)) ((j:Int)+1)).2++A')+Bc ((Ah (At e (k+1)) ((j:Int)+1)).2++n)<=f:=by
         rw[JO,JO,wA,wB];rw[Ff,Ff,Ij,Ij]at U;omega
        rw[J,gY,NH,WX,←AH];refine ih _ _ (r.drop (j+1)) T (if (if F then e else d) then D else D++r.take (j+1)) _ _ lA Z N ?_
        cases F with
        | true =>
         rw[if_pos rfl,aB]at h;simp only[if_true]
         cases e with
         | true =>
          simp only[Bool.or_true,if_true,AZ,GB];exact h
         | false =>
          simp only[Bool.or_false,BW,if_false,BT,GB]at h ⊢;exact h.unit w d (j+1) Y
        | false =>
         rw[if_neg (by decide),aA]at h;simp only[BW,if_false]
         cases d with
         | true =>
          simp only[Bool.true_or,if_true,AZ,GB];exact h
         | false =>
          simp only[GK,BW,if_false,BT,GB]at h ⊢;exact h.unit w e (j+1) Y
theorem OI(F:Bool){a b:List Pt}{t:List UInt8}(ha:good a t)(f:good b t) :
    good (Aq (Bv F a b)) (Aj b t)/\Aj (Aq (Bv F a b)) (Aj b t)=Gb (if F then Bi Au Au (Bc (Ag a)+Bc (Ag b)) (Ag a) (Ag b) else Bi Au Au (Bc (Ag b)+Bc (Ag a)) (Ag b) (Ag a)) t:=by
 have e:=ha.norm;have d:=f.norm;have la:Left (Ag a) t:=⟨e.one,e.long,e.al⟩;have lb:Left (Ag b) t:=⟨d.one,d.long,d.al⟩;have g:=Uw f.one t;unfold Bv
 cases F with
 | true =>
  have:=W7 true _ (Ag a) (Ag b) t (Aj b t) [] [] A7 la lb (Ai _) (by rw[if_pos rfl,g];exact S8 _);exact this.good
 | false =>
  have:=W7 false _ (Ag b) (Ag a) t (Aj b t) [] [] A7 lb la (Ai _) (by rw[if_neg (by decide),g];exact S8 _);exact this.good
theorem jt(F:Bool){a b:List Pt}{t:List UInt8}(ha:good a t)(d:good b t) :
    Aj (Aq (Bv (!F) b a)) (Aj a t)=Aj (Aq (Bv F a b)) (Aj b t):=by
 rw[(OI F ha d).2,(OI (!F) d ha).2]
 cases F<;>simp
end
section
variable {u : Int}{q : Pt}
def aU (l:List UInt8):List Int:=l.map λb=>(b.toNat:Int)
def GV (u:Int) (rs:List Nat):List Int:=if u=1 then aU (encs rs) else if u=2 then E6 (Hh rs) else E6 rs
def Ej (u:Int) (R:List Nat) (n:Int):List Nat:=R.drop (A8 R u n).length
theorem N9(d:Ck u){R:List Nat}{n:Int}(i:n<=by_ u R)(f:Eh R u n=true):R=A8 R u n++Ej u R n/\by_ u (A8 R u n)=n:=by
 obtain⟨k,e,h,g,_⟩:=(OE d i).1 f;unfold Ej;rw[h,AO,FA e];exact⟨(AW k R).symm,g⟩
theorem Lq(i:Ck u){R X Y:List Nat}(h:R=X++Y):Eh R u (by_ u X)=true/\A8 R u (by_ u X)=X/\Ej u R (by_ u X)=Y:=by
 have f:by_ u X<=by_ u R:=by rw[h,IB];have:=Jj u Y;omega
 have g:R.take X.length=X:=by rw[h,DP rfl]
 have m:Eh R u (by_ u X)=true:=by
  cases e:Eh R u (by_ u X) with
  | true=>rfl
  | false=>exact absurd (by rw[g]) ((OE i f).2 e X.length (by rw[h];simp))
 obtain⟨k,y,v,n,_⟩:=(OE i f).1 m
 have w:k=X.length:=by
  have j:X.length<=R.length:=by rw[h];simp
  rcases Nat.lt_trichotomy k X.length with d|rfl|d
  . have:=Re i R k X.length d j
    rw[g,n]at this;omega
  . rfl
  . have:=Re i R X.length k d y
    rw[g,n]at this;omega
 subst w;refine⟨m,by rw[v,g],?_⟩;unfold Ej;rw[v,g,h,ER rfl]
def F4 (u:Int):List Nat->List Pt->Bool
 | _,[]=>true
 | R,q :: qs=>Eh R u (Ab q) && F4 u (Ej u R (Ab q)) qs
def GW (u v:Int):List Nat->List Pt->List Pt
 | _,[]=>[]
 | R,q :: qs=>Gi (by_ v (A8 R u (Ab q))) q :: GW u v (Ej u R (Ab q)) qs
def I9 (u:Int):List Nat->List Pt->List Nat
 | _,[]=>[]
 | R,q :: qs=>((if 0<q.keep then A8 R u (Ab q) else [])++Ch q.put)++I9 u (Ej u R (Ab q)) qs
theorem Yy(g:Ck u)(d R:List Nat)(n:Int)(H:0<=n)(v:n<=by_ u R) :
    Eh (d++R) u (by_ u d+n)=Eh R u n/\(Eh R u n=true->A8 (d++R) u (by_ u d+n)=d++A8 R u n):=by
 have i:Eh R u n=true->Eh (d++R) u (by_ u d+n)=true/\A8 (d++R) u (by_ u d+n)=d++A8 R u n:=λf=>by
  obtain⟨y,E⟩:=N9 g v f;have w:d++R=(d++A8 R u n)++Ej u R n:=by rw[AH,←y]
  have:=Lq g w;rw[IB,E]at this;exact⟨this.1,this.2.1⟩
 refine⟨?_,λf=>(i f).2⟩
 cases f:Eh R u n with
 | true=>exact(i f).1
 | false =>
  cases e:Eh (d++R) u (by_ u d+n) with
  | false=>rfl
  | true =>
   exfalso
   have j:by_ u d+n<=by_ u (d++R):=by rw[IB];omega
   obtain⟨k,C,G,m,_⟩:=(OE g j).1 e
   have z:d.length<=k:=by
    by_cases h:d.length<=k
    . exact h
    . have:=Re g (d++R) k d.length (by omega) (by simp)
      rw[m,DP rfl]at this;omega
   have F:(d++R).take k=d++R.take (k - d.length):=by
    rw[List.take_append,AQ z]
   rw[F,IB]at m;exact(OE g v).2 f (k - d.length) (by rw[AA]at C;omega) (by omega)
theorem W8{u:Int}(g:Ck u)(v:Int):∀(e:List Pt)(d R:List Nat),(∀q∈e,0<=Ab q)->Ak e<=by_ u R ->
    (Hd (d++R) u v (by_ u d) e).2=F4 u R e/\(F4 u R e=true->(Hd (d++R) u v (by_ u d) e).1=GW u v R e)
 | [],_,_,_,_=>⟨rfl,λ_=>rfl⟩
 | q :: e,d,R,h,hl=>by
  have L:=h q (by simp);have E:∀x∈e,0<=Ab x:=λx H=>h x (by simp[H]);have Q:=Ob E;have n:Ak (q :: e)=Ab q+Ak e:=by simp[Ak]
  rw[n]at hl;obtain⟨I,N⟩:=Yy g d R (Ab q) L (by omega);obtain⟨P,i⟩:=Yy g d R 0 (BO _) (Jj u R);have y:A8 R u 0=[]:=Ym R u;have w:Eh R u 0=true:=by unfold Eh;rw[y,PX];rfl
  have i:=i w;rw[DO,y,AZ]at i
  have f:Hd (d++R) u v (by_ u d) (q :: e)=if Eh (d++R) u (by_ u d+Ab q) then
   (Gi (by_ v (A8 (d++R) u (by_ u d+Ab q)) - by_ v (A8 (d++R) u (by_ u d))) q :: (Hd (d++R) u v (by_ u d+Ab q) e).1,(Hd (d++R) u v (by_ u d+Ab q) e).2)
   else ([],false):=rfl
  have k:F4 u R (q :: e)=(Eh R u (Ab q) && F4 u (Ej u R (Ab q)) e):=rfl;rw[f,k,I]
  cases he:Eh R u (Ab q) with
  | false=>exact⟨rfl,λh=>by cases h⟩
  | true =>
   obtain⟨C,G⟩:=N9 g (by omega) he;have K:d++R=(d++A8 R u (Ab q))++Ej u R (Ab q):=by rw[AH,←C]
   have m:by_ u d+Ab q=by_ u (d++A8 R u (Ab q)):=by rw[IB,G]
   have j:Ak e<=by_ u (Ej u R (Ab q)):=by
    have:by_ u R=by_ u (A8 R u (Ab q))+by_ u (Ej u R (Ab q)):=by rw[←IB];exact congrArg _ C
    omega
   obtain⟨F,z⟩:=W8 g v e (d++A8 R u (Ab q)) (Ej u R (Ab q)) E j;rw[if_pos rfl,N he,i,m,Bool.true_and];rw[←K]at F z;refine⟨F,λO=>?_⟩;have J:by_ v (d++A8 R u (Ab q)) - by_ v d=by_ v (A8 R u (Ab q)):=by rw[IB];omega
   rw[z O,J];rfl
theorem Wf(g:Ck u)(v:Int)(d:List Pt)(R:List Nat)(h:∀q∈d,0<=Ab q)(i:Ak d<=by_ u R) :
    Ko R u v d=(if F4 u R d then 0 else 10)/\Kn R u v d=if F4 u R d then GW u v R d else []:=by
 obtain⟨e,f⟩:=W8 g v d [] R h i;rw[BA,PX]at e f;unfold Ko Kn;rw[e];refine⟨rfl,?_⟩
 split
 . rename_i ho;exact f ho
 . rfl
theorem Uc{R:List Nat}{n:Int}(h:∀r∈R,Df r):∀r∈Ej u R n,Df r:=λr d=>h r (DJ d)
theorem Yl(g:Ck u){R:List Nat}{n:Int}(f:n<=by_ u R)(h:∀r∈R,Df r):∀r∈A8 R u n,Df r:=λr d=>by
 obtain⟨k,_,e,_⟩:=OO R u n f;rw[e]at d;exact h r (BZ d)
theorem YW{u:Int}(j:Ck u):∀(e:List Pt)(R:List Nat),(∀q∈e,0<=Ab q)->Ak e<=by_ u R->F4 u R e=true->(∀r∈R,Df r)->∀r∈I9 u R e,Df r
 | [],R,_,_,_,_,r,d=>by cases d
 | q :: e,R,h,hl,f,hR,r,d=>by
  have k:∀x∈e,0<=Ab x:=λx m=>h x (by simp[m]);have y:=Ob k;have w:=h q (by simp);have g:Ak (q :: e)=Ab q+Ak e:=by simp[Ak]
  rw[g]at hl;have f:(Eh R u (Ab q) && F4 u (Ej u R (Ab q)) e)=true:=f;rw[ED]at f;obtain⟨n,v⟩:=N9 j (by omega) f.1;have i:Ak e<=by_ u (Ej u R (Ab q)):=by
   have:by_ u R=by_ u (A8 R u (Ab q))+by_ u (Ej u R (Ab q)):=by rw[←IB];exact congrArg _ n
   omega
  have d:r∈((if 0<q.keep then A8 R u (Ab q) else [])++Ch q.put)++I9 u (Ej u R (Ab q)) e:=d
  rcases List.mem_append.1 d with d|d
  . rcases List.mem_append.1 d with d | d
    . split at d
      . exact Yl j (by omega) hR r d
      . cases d
    . exact NV d
  . exact YW j e _ k i f.2 (Uc hR) r d
theorem dR(h:Db q=true)(n:Int)(g:Ab q=0->n=0):Ab (Gi n q)=n:=by
 unfold Gi
 rcases QM h with ⟨d,e,f⟩|⟨d,e,f⟩|⟨d,e,f⟩
 . rw[if_pos d];simp[Ab]
 . rw[if_neg (by omega),if_pos e];simp[Ab]
 . rw[if_neg (by omega),if_neg (by omega)]
   rw[g (by unfold Ab;omega)];simp[Ab]
theorem dS(h:Db q=true){n:Int}(g:0<Ab q->0<n):Am (Gi n q):=by
 unfold Gi
 rcases QM h with ⟨d,f,e⟩|⟨d,f,e⟩|⟨d,f,e⟩
 . rw[if_pos d];exact .inl ⟨g (by unfold Ab;omega),rfl,rfl⟩
 . rw[if_neg (by omega),if_pos f];exact .inr (.inl ⟨rfl,g (by unfold Ab;omega),rfl⟩)
 . rw[if_neg (by omega),if_neg (by omega)];exact .inr (.inr ⟨rfl,rfl,e⟩)
theorem TL(h:Db q=true)(n:Int):(Gi n q).put=q.put:=by
 unfold Gi
 rcases QM h with ⟨e,f,d⟩|⟨e,f,d⟩|⟨e,f,d⟩
 . rw[if_pos e,d]
 . rw[if_neg (by omega),if_pos f,d]
 . rw[if_neg (by omega),if_neg (by omega)]
theorem gq(h:Db q=true){n:Int}(g:0<Ab q->0<n):(0<(Gi n q).keep)↔0<q.keep:=by
 unfold Gi
 rcases QM h with ⟨d,e,f⟩|⟨d,e,f⟩|⟨d,e,f⟩
 . rw[if_pos d];exact⟨λ_=>d,λ_=>g (by unfold Ab;omega)⟩
 . rw[if_neg (by omega),if_pos e];exact⟨λh=>absurd h (FF 0),λh=>by omega⟩
 . rw[if_neg (by omega),if_neg (by omega)];exact⟨λh=>absurd h (FF 0),λh=>by omega⟩
theorem ek{v:Int}(f:Ck u)(d:Ck v){X:List Nat}(h:0<by_ u X):0<by_ v X:=by
 cases X with
 | nil=>rw[PX]at h;omega
 | cons r X =>
  have e:r :: X=[r]++X:=rfl;rw[e,IB];have:=Tc d r;have:=Jj v X;omega
theorem YS(d:Ck u){X:List Nat}(h:by_ u X=0):X=[]:=by
 cases X with
 | nil=>rfl
 | cons r X =>
  have e:r :: X=[r]++X:=rfl;rw[e,IB]at h;have:=Tc d r;have:=Jj u X;omega
theorem V2{u:Int}(k:Ck u):∀(d:List Pt)(R:List Nat),(∀q∈d,Db q=true/\(scan q.put).2=true)->Ak d=by_ u R->(∀r∈R,Df r)->F4 u R d=true ->
    Left (GW u 1 R d) (encs R)/\Aj (GW u 1 R d) (encs R)=encs (I9 u R d)
 | [],R,_,hl,_,_=>by
  have:R=[]:=YS k (by rw[←hl];simp[Ak]);subst this;exact⟨⟨by simp[GW],by simp[GW,Ak,encs],trivial⟩,rfl⟩
 | q :: d,R,h,hl,hr,y=>by
  have j:=h q (by simp);have S:=(KC j.1).1;have J:Ak (q :: d)=Ab q+Ak d:=by simp[Ak]
  have I:∀x∈d,0<=Ab x:=λx G=>by
   have:=(KC (h x (by simp[G])).1).1;unfold Ek at this;unfold Ab;omega
  have C:=Ob I;have P:0<=Ab q:=by unfold Ek at S;unfold Ab;omega
  rw[J]at hl;have y:(Eh R u (Ab q) && F4 u (Ej u R (Ab q)) d)=true:=y;rw[ED]at y;obtain⟨L,O⟩:=N9 k (by omega) y.1;have Y:by_ u R=by_ u (A8 R u (Ab q))+by_ u (Ej u R (Ab q)):=by rw[←IB];exact congrArg _ L
  obtain⟨F,Q⟩:=V2 k d (Ej u R (Ab q)) (λx G=>h x (by simp[G])) (by omega) (Uc hr) y.2;have H:=Yl (n:=Ab q) k (by omega) hr;have X:encs R=encs (A8 R u (Ab q))++encs (Ej u R (Ab q)):=by rw[←Mk];exact congrArg _ L
  have v:GW u 1 R (q :: d)=Gi (by_ 1 (A8 R u (Ab q))) q :: GW u 1 (Ej u R (Ab q)) d:=rfl;have U:I9 u R (q :: d)=((if 0<q.keep then A8 R u (Ab q) else [])++Ch q.put)++I9 u (Ej u R (Ab q)) d:=rfl;have K:by_ 1 (A8 R u (Ab q))=(encs (A8 R u (Ab q))).length:=by unfold by_;rw[if_pos rfl,Ie]
  have E:Ab q=0->by_ 1 (A8 R u (Ab q))=0:=λe=>by rw[YS k (O.trans e),PX]
  have m:0<Ab q->0<by_ 1 (A8 R u (Ab q)):=λe=>ek k (.inl rfl) (by omega);have w:=dR j.1 _ E;rw[v,U,X];have z:(Ab (Gi (by_ 1 (A8 R u (Ab q))) q)).toNat=(encs (A8 R u (Ab q))).length:=by rw[w,K];simp
  have f:(encs (A8 R u (Ab q))++encs (Ej u R (Ab q))).take (Ab (Gi (by_ 1 (A8 R u (Ab q))) q)).toNat=encs (A8 R u (Ab q)):=by rw[z,DP rfl]
  have g:(encs (A8 R u (Ab q))++encs (Ej u R (Ab q))).drop (Ab (Gi (by_ 1 (A8 R u (Ab q))) q)).toNat=encs (Ej u R (Ab q)):=by rw[z,ER rfl]
  refine⟨⟨?_,?_,?_⟩,?_⟩
  . intro p C
    rcases List.mem_cons.1 C with rfl|C
    . exact dS j.1 m
    . exact F.one p C
  . rw[Im,F.long,w,K,AA];omega
  . refine⟨?_,?_,?_⟩
    . rw[TL j.1];exact RZ j.2
    . rw[f];exact⟨_,H,rfl⟩
    . rw[g];exact F.al
  . rw[Ow,f,g,Q,Mk,Mk]
    congr 1
    unfold Fy;have N:=gq j.1 m;rw[TL j.1,MP j.2]
    congr 1
    by_cases i:0<q.keep
    . rw[if_pos i,if_pos (N.2 i)]
    . rw[if_neg i,if_neg (λe=>i (N.1 e))];rfl
end
section
variable {w : World}
def sl (w:World) (k:IntKind) (p:Option Addr) (n c:Nat) (zs:List Int):Prop :=
 n=zs.length/\((p=none/\c=0/\zs=[])\/∃b o,p=some (Ad b o)/\zs.length<=c/\c<=maxLen/\b<w.heap.size/\∀i z,zs[i]?=some z->w.cell? (Ad b (o+i))=some (.int k z))
theorem VN{B e:Nat}{k:IntKind}{v:Value}{d:List Int}{F:List Value}(I:F=d.map (Value.int k))(h:w.ownsRow B e 1 v d.length F):∃p c,v=.slice p d.length c/\sl w k p d.length c d:=by
 subst I;obtain⟨L,f⟩:=h
 rcases f with ⟨rfl,G⟩|⟨g,j,n,rfl,G,C,H,K,N,E⟩
 . obtain rfl:d=[]:=BC G
   exact⟨none,0,rfl,rfl,.inl ⟨rfl,rfl,rfl⟩⟩
 . refine ⟨_,j,rfl,rfl,.inr ⟨g,0,rfl,H,K,(As C),λi z y=>?_⟩⟩
   have m:i<d.length:=(De y);rw[GJ]at E;have J:n[i]?=some (.int k z):=by
    rw[←CE];have:=congrArg (·[i]?) E;simp only[DU,m,if_true,BD]at this;rw[this,y];rfl
   rw[DC];show w.cell? (Ad g i)=_;unfold World.cell?;simp[C,J]
theorem fO(w:World)(d:Option Nat):w.grownBy w d:=⟨rfl,rfl,rfl,Ai _,λ_ _ _=>rfl⟩
theorem ly{P:Program}(w:World){J:Array Oper}{rest:List Oper}{o:Oper}{a:Act}{Q:Exit->Act->World->Prop}(I:o.guard=none)(s x:Operand)(t:TypeId)
    (ho:o.op=.call { callee:=.builtin .append,args:=#[s,x],argTypes:=#[t,t] })
    (base:Nat) (e:TypeId) (i:TypeInfo) (z:Value) (d:Nat) (Z:P.underlying t=some (.slice e)) (Y:P.info? e=some i) (hz:i.zero=some z)
    (C:i.size=1) (S:i.bytes=d) (N:z.cells.size=1)
    (v:Value) (n:Nat) (K:List Value) (U:a.eval s=v) (f:w.ownsRow base e 1 v n K)
    (k:IntKind) (p:Option Addr) (m c:Nat) (G:List Int) (X:a.eval x=.slice p m c) (F:sl w k p m c G)
    (O:n+m<=maxLen) (g:(n+m)*d<=140737488355328) (E:base<=w.heap.size)
    (h:∀L w',w'.ownsRow base e 1 L (n+m) (K++G.map (Value.int k))->w.grownBy w' v.ownBlock->wpList P J Q rest (a.put o.dst L) w'):wpList P J Q (o :: rest) a w:=by
 obtain⟨rfl,F⟩:=F
 rcases F with ⟨rfl,rfl,rfl⟩|⟨b,o',rfl,h2,h3,h4,h5⟩
 . exact wpList_append_own_none I s x t ho base e i 1 Z Y v n K U f X (h v w (by simpa using f) (fO _ _))
 . exact wpList_append_own w I s x t ho base e i z 1 d Z Y hz C S N (by decide) v n K U f (Ad b o') G.length c (G.map (Value.int k)) X (by simp) (λj u H=>by
     rw[BD]at H
     cases hz':G[j]? with
     | none=>rw[hz']at H;cases H
     | some z' =>
      rw[hz']at H;obtain rfl:Value.int k z'=u:=Bq H;rw[DG];exact h5 j z' hz') (λu hu=>by
     obtain⟨y,_,rfl⟩:=List.mem_map.1 hu
     rfl) O g E λL w' g1 g2 _=>h L w' g1 g2
theorem eI{p:Option Addr}{n c:Nat}{l:List UInt8}(h:sl w .u8 p n c (l.map λb=>(b.toNat:Int))):(convert 146 9 (.slice p n c)).run prog w=.ok (Sx l) w:=by
 obtain⟨rfl,h⟩:=h;rw[BS]
 rcases h with ⟨rfl,rfl,e⟩|⟨b,o,rfl,k,g,i,f⟩
 . obtain rfl:l=[]:=List.map_eq_nil_iff.1 e
   kernel_rfl
 . refine run_convert_bytes_back w 146 9 5 (Ad b o) c l underlying146 underlying5 underlying9 λj d=>?_
   rw[DG];exact f j _ (by rw[BD,B7 d];rfl)
end
section
attribute [local go_sem] Oper.semAt_some
theorem Pb(X:List Nat):GV 1 X=(encs X).map λb=>(b.toNat:Int):=rfl
theorem Pa(X:List Nat):GV 2 X=E6 (Hh X):=rfl
theorem O9(X:List Nat):GV 3 X=E6 X:=rfl
theorem fH{X:List Nat}(h:C1 X<=1000000):(encs X).length<=1000000/\X.length<=1000000/\(Hh X).length<=2000000:=by
 have d:=Ie X;have f:=TI X;have e:=(cX X).1;omega
theorem iO(w:World)(e:TypeId)(s:ByteArray):Bw w (Lib.bytesWorld w e s) :=
 ⟨rfl,rfl,rfl,by rw[Lib.bytesWorld_size];omega,λk d=>Lib.bytesWorld_at_old w e s k d⟩
theorem bI(U:List UInt8)(y:(scan U).2=true)(C:U.length<=1000000)(w:World) :
    Cg 132 #[Sx U] w λe w'=>∃p n c,e=.returned (.slice p n c)/\sl w' .u8 p n c (GV 1 (Ch U))/\Bw w w':=by
 have m:=Lib.run_convert_string_bytes (P:=prog) w 9 146 5 ⟨U.toArray⟩ (u:=.string) underlying9 underlying146 underlying5;have h:(ByteArray.mk U.toArray).size=U.length:=by simp[ByteArray.size]
 have f:sl (Lib.bytesWorld w 5 ⟨U.toArray⟩) .u8 (some (Ad w.heap.size 0)) (ByteArray.mk U.toArray).size (grownCap w (ByteArray.mk U.toArray).size 0 5) (GV 1 (Ch U)):=by
  rw[Pb,MP y];refine⟨by rw[h,BS],.inr ⟨w.heap.size,0,rfl,?_,?_,?_,λi z j=>?_⟩⟩
  . rw[BS,←h];exact grownCap_ge _ _ _ _
  . exact grownCap_le_maxLen _ _ _ _ (by rw[h];unfold maxLen;omega)
  . rw[Lib.bytesWorld_size];omega
  . have d:i<U.length:=by have:=(De j);rwa[BS]at this
    rw[DC,Lib.bytesWorld_cell _ _ _ _ (by rw[h];exact d)];rw[BD,B7 d]at j;have:=Bq j;rw[←this,EK];simp[d]
 have g:=iO w 5 ⟨U.toArray⟩;have v:=Aa f;have k:=Aa g;generalize Lib.bytesWorld w 5 ⟨U.toArray⟩=W at *;clear f g
 go_enter func132,ntmps132
 go_wp2;go_ret;exact⟨_,_,_,rfl,v.out,k.out⟩
theorem bJ(U:List UInt8)(m:(scan U).2=true)(K:U.length<=1000000)(w:World)(k:Lib.Utf8Tabs 1 2 w) :
    Cg 135 #[Sx U] w λe w'=>∃p n c,e=.returned (.slice p n c)/\sl w' .u16 p n c (GV 2 (Ch U))/\Bw w w':=by
 have E:Hid (Cg 136 #[Sx U] w λe w'=>∃p n c,e=.returned (.tuple #[.slice p n c,.nilIface])/\sl w' .u16 p n c (GV 2 (Ch U))/\Bw w w') :=
  (gw ⟨U.toArray⟩ (by simp[ByteArray.size];omega) w k).mono λe w' ⟨v,x,z,C,H⟩=>by
    rcases H with ⟨_,rfl,p,c,g,i⟩|⟨g,_⟩
    . have I:(ByteArray.mk U.toArray).data.toList=U:=rfl
      have y:=gK U;rw[I]at g i;have d:(Ka (scan U).1).length=(GV 2 (Ch U)).length:=by rw[y,Pa,BS]
      rw[d]at g i;obtain⟨L,J,G,F⟩:=VN y i;exact⟨L,_,J,by rw[z,G],F,C⟩
    . rw[show(ByteArray.mk U.toArray).data.toList=U from rfl,m]at g;cases g
 clear k m K
 go_enter func135,ntmps135
 go_wp2_with (go_at_call 136;refine AC E.out ?_;rintro e N ⟨p,n,c,rfl,f,h⟩;have j:=Aa f;clear f)
 go_ret;exact⟨_,_,_,rfl,j.out,h⟩
theorem bK(U:List UInt8)(m:(scan U).2=true)(K:U.length<=1000000)(w:World)(k:Lib.Utf8Tabs 1 2 w) :
    Cg 139 #[Sx U] w λe w'=>∃p n c,e=.returned (.slice p n c)/\sl w' .i32 p n c (GV 3 (Ch U))/\Bw w w':=by
 have E:Hid (Cg 140 #[Sx U] w λe w'=>∃p n c,e=.returned (.tuple #[.slice p n c,.nilIface])/\sl w' .i32 p n c (GV 3 (Ch U))/\Bw w w') :=
  (d9 ⟨U.toArray⟩ (by simp[ByteArray.size];omega) w k).mono λe w' ⟨v,x,z,C,H⟩=>by
    rcases H with ⟨_,rfl,p,c,g,i⟩|⟨g,_⟩
    . have I:(ByteArray.mk U.toArray).data.toList=U:=rfl
      have y:=gJ U;rw[I]at g i;have d:(Gw (scan U).1).length=(GV 3 (Ch U)).length:=by rw[y,O9,BS]
      rw[d]at g i;obtain⟨L,J,G,F⟩:=VN y i;exact⟨L,_,J,by rw[z,G],F,C⟩
    . rw[show(ByteArray.mk U.toArray).data.toList=U from rfl,m]at g;cases g
 clear k m K
 go_enter func139,ntmps139
 go_wp2_with (go_at_call 140;refine AC E.out ?_;rintro e N ⟨p,n,c,rfl,f,h⟩;have j:=Aa f;clear f)
 go_ret;exact⟨_,_,_,rfl,j.out,h⟩
end
def Vm (u:Int) (R:List Nat) (qs:List Pt):Int:=if F4 u R qs then (if C1 (I9 u R qs)<=8000 then 0 else 12) else 10
section
attribute [local go_sem] Oper.semAt_some
def Q3 (u:Nat):Prop:=u=1\/u=2\/u=3
theorem dQ{u:Nat}(h:Q3 u):Ck (u:Int):=by unfold Q3 at h;unfold Ck;omega
def QV (u:Int) (R:List Nat) (qs:List Pt):Int:=if chkE qs (by_ u R)=0 then Vm u R qs else chkE qs (by_ u R)
def Vl (u:Int) (R:List Nat) (qs:List Pt):List Nat:=if QV u R qs=0 then I9 u R qs else R
theorem gg(v1 v2:Value)(first:Bool)(a b:List Pt)(w:World)(g:Lib.Utf8Tabs 1 2 w)(j:Ae w v1 a)(k:Ae w v2 b)(f:∀p∈a,Cp p)(h:∀p∈b,Cp p)(n:a.length<10000000)(y:b.length<10000000)(v:Dy a b≠0) :
    Cg 163 #[v1,v2,.bool first] w (Rt w (.tuple #[.slice none 0 0,Ao (Dy a b)])):=by
 have m:Hid _:=NW v1 v2 a b w g j k f h n y;have i:Ao (Dy a b)=.iface 30 (I6 (Dy a b)):=by unfold Ao;rw[if_neg v]
 rw[i]at m ⊢;generalize Dy a b=E at *;obtain⟨C,z,rfl,_⟩:=j;obtain⟨F,G,rfl,_⟩:=k;clear g f h i
 go_enter func163,ntmps163
 go_wp2_with (go_at_call 110;refine AC m.out ?_;rintro e f ⟨rfl,d⟩)
 go_ret2
 exact⟨rfl,d⟩
theorem gi(v1 v2:Value)(first:Bool)(a b:List Pt)(w:World)(I:Lib.Utf8Tabs 1 2 w)(z:Ae w v1 a)(C:Ae w v2 b)(y:∀p∈a,Cp p)(F:∀p∈b,Cp p)(G:a.length<10000000)(J:b.length<10000000)(L:Dy a b=0)(U:(Be b).1≠(Be a).1) :
    Cg 163 #[v1,v2,.bool first] w (Rt w (.tuple #[.slice none 0 0,Ao (2)])):=by
 have K:Hid _:=NW v1 v2 a b w I z C y F G J;have H:Ao (Dy a b)=.nilIface:=by unfold Ao;rw[if_pos L]
 have h:Ao 2=.iface 30 (I6 2):=rfl;rw[H]at K;rw[h];have E:=Aa λi (n:Bw w i)=>Jr v1 a i (E5 z n) G;have m:=Aa λi (n:Bw w i)=>Jr v2 b i (E5 C n) J;generalize (Be a).1=A1 at *;generalize (Be a).2=A2 at *;generalize (Be b).1=B1 at *;generalize (Be b).2=B2 at *;obtain⟨O,S,rfl,_⟩:=z;obtain⟨P,Q,rfl,_⟩:=C;clear I y F H h
 go_enter func163,ntmps163
 go_wp2_with (first
  | (have _:=d;go_at_call 43;refine(m.out _ d.out).mono ?_;rintro e N ⟨rfl,j⟩;have v:=Aa (d.out.trans (j.mono d.out.size));clear j)
  | (go_at_call 43;refine(E.out _ f.out).mono ?_;rintro e F ⟨rfl,k⟩;have d:=Aa (f.out.trans (k.mono f.out.size));clear k)
  | (go_at_call 110;refine AC K.out ?_;rintro e y ⟨rfl,g⟩;have f:=Aa g;clear g))
 go_ret2
 exact⟨rfl,v.out⟩
theorem YH(v1 v2:Value)(first:Bool)(a b:List Pt)(w:World)(i:Lib.Utf8Tabs 1 2 w)(m:Ae w v1 a)(n:Ae w v2 b)(j:∀p∈a,Cp p)(g:∀p∈b,Cp p)(v:a.length<10000000)(z:b.length<10000000)(E:Dy a b=0->Bs a/\Bs b) :
    Cg 163 #[v1,v2,.bool first] w λe w'=>∃k,e=.returned (.tuple #[k,Ao (JI a b)])/\opN w.heap.size w' k (if JI a b=0 then Aq (Bv first a b) else [])/\Bw w w':=by
 have none:∀w',opN w.heap.size w' (.slice none 0 0) []:=Ik _;unfold JI
 by_cases d:Dy a b=0
 . obtain ⟨y,C⟩:=E d
   rw[if_pos d]
   by_cases f:(Be b).1=(Be a).1
   . rw[if_pos f,if_pos rfl]
     show Calls _ _ _ _ λe w'=>∃k,e=.returned (.tuple #[k,.nilIface])/\_
     cases first with
     | true=>exact(bX v1 v2 a b w i m n j g y C d f)
     | false=>exact(bY v1 v2 a b w i m n j g y C d f)
   . rw[if_neg f,if_neg (by decide)]
     exact(gi v1 v2 first a b w i m n j g v z d f).mono λe w' h=>⟨_,h.1,none w',h.2⟩
 . rw[if_neg d,if_neg d]
   exact(gg v1 v2 first a b w i m n j g v z d).mono λe w' h=>⟨_,h.1,none w',h.2⟩
theorem bt(v1 v2:Value)(a b:List Pt)(w:World)(g:Lib.Utf8Tabs 1 2 w)(j:Ae w v1 a)(k:Ae w v2 b)(f:∀p∈a,Cp p)(h:∀p∈b,Cp p)(n:a.length<10000000)(y:b.length<10000000)(v:Dy a b≠0) :
    Cg 77 #[v1,v2] w (Rt w (.tuple #[.slice none 0 0,Ao (Dy a b)])):=by
 have m:Hid _:=NW v1 v2 a b w g j k f h n y;have i:Ao (Dy a b)=.iface 30 (I6 (Dy a b)):=by unfold Ao;rw[if_neg v]
 rw[i]at m ⊢;generalize Dy a b=E at *;obtain⟨C,z,rfl,_⟩:=j;obtain⟨F,G,rfl,_⟩:=k;clear g f h i
 go_enter func77,ntmps77
 go_wp2_with (go_at_call 110;refine AC m.out ?_;rintro e f ⟨rfl,d⟩)
 go_ret2
 exact⟨rfl,d⟩
theorem bu(v1 v2:Value)(a b:List Pt)(w:World)(I:Lib.Utf8Tabs 1 2 w)(z:Ae w v1 a)(C:Ae w v2 b)(y:∀p∈a,Cp p)(F:∀p∈b,Cp p)(G:a.length<10000000)(J:b.length<10000000)(L:Dy a b=0)(U:(Be b).1≠(Be a).2) :
    Cg 77 #[v1,v2] w (Rt w (.tuple #[.slice none 0 0,Ao (2)])):=by
 have K:Hid _:=NW v1 v2 a b w I z C y F G J;have H:Ao (Dy a b)=.nilIface:=by unfold Ao;rw[if_pos L]
 have h:Ao 2=.iface 30 (I6 2):=rfl;rw[H]at K;rw[h];have E:=Aa λi (n:Bw w i)=>Jr v1 a i (E5 z n) G;have m:=Aa λi (n:Bw w i)=>Jr v2 b i (E5 C n) J;generalize (Be a).1=A1 at *;generalize (Be a).2=A2 at *;generalize (Be b).1=B1 at *;generalize (Be b).2=B2 at *;obtain⟨O,S,rfl,_⟩:=z;obtain⟨P,Q,rfl,_⟩:=C;clear I y F H h
 go_enter func77,ntmps77
 go_wp2_with (first
  | (have _:=d;go_at_call 43;refine(m.out _ d.out).mono ?_;rintro e N ⟨rfl,j⟩;have v:=Aa (d.out.trans (j.mono d.out.size));clear j)
  | (go_at_call 43;refine(E.out _ f.out).mono ?_;rintro e F ⟨rfl,k⟩;have d:=Aa (f.out.trans (k.mono f.out.size));clear k)
  | (go_at_call 110;refine AC K.out ?_;rintro e y ⟨rfl,g⟩;have f:=Aa g;clear g))
 go_ret2
 exact⟨rfl,v.out⟩
theorem eo(v1 v2:Value)(a b:List Pt)(w:World)(j:Lib.Utf8Tabs 1 2 w)(m:Ae w v1 a)(n:Ae w v2 b)(k:∀p∈a,Cp p)(i:∀p∈b,Cp p)(v:a.length<10000000)(y:b.length<10000000)(E:Dy a b=0->Bs a/\Bs b) :
    Cg 77 #[v1,v2] w λe w'=>∃g,e=.returned (.tuple #[g,Ao (PV a b)])/\opN w.heap.size w' g (if PV a b=0 then Aq (Ha a b) else [])/\Bw w w':=by
 have none:∀w',opN w.heap.size w' (.slice none 0 0) []:=Ik _;unfold PV
 by_cases d:Dy a b=0
 . obtain ⟨z,C⟩:=E d
   rw[if_pos d]
   by_cases f:(Be b).1=(Be a).2
   . rw[if_pos f,if_pos rfl]
     show Calls _ _ _ _ λe w'=>∃g,e=.returned (.tuple #[g,.nilIface])/\_;exact(fE v1 v2 a b w j m n k i z C d f)
   . rw[if_neg f,if_neg (by decide)]
     exact(bu v1 v2 a b w j m n k i v y d f).mono λe w' h=>⟨_,h.1,none w',h.2⟩
 . rw[if_neg d,if_neg d]
   exact(bt v1 v2 a b w j m n k i v y d).mono λe w' h=>⟨_,h.1,none w',h.2⟩
theorem bF{W:World}{g:Nat}{ps:List Pt}{t:TypeId}{f:Nat×Nat}(h:W.heap[g]?=some (.cells (Cw ps).toArray t f))(k:ps.length<=maxLen):Ae W (Sl g ps.length ps.length) ps:=by
 refine⟨_,_,rfl,Ai _,k,λ_=>⟨g,0,rfl,Cn h,λi q e=>?_⟩⟩;have n:=Sb ps i q e;have d:∀j,j<3->W.cell? (Ad g (0+i*3+j))=(Ed q)[j]?:=λj m=>by
  have:=Az h (0+i*3+j);rw[this,DC,←n j m];simp
 exact⟨d 0 (by omega),d 1 (by omega),d 2 (by omega)⟩
def d1:List Pt:=[⟨0,0,[120]⟩,⟨3,0,[]⟩]
def d2:List Pt:=[⟨2,0,[]⟩,⟨0,0,[120]⟩,⟨1,0,[]⟩]
end
end Go.Proofs.YtkcpjanmemdjlaaGreatDoor
