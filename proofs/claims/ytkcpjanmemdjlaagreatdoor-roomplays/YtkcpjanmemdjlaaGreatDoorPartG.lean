/-
  A part of the texts that the proof uses.
-/
import Derived.Test.YtkcpjanmemdjlaaGreatDoorPartF
set_option maxRecDepth 100000
set_option maxHeartbeats 40000000
set_option linter.all false
namespace Go.Proofs.YtkcpjanmemdjlaaGreatDoor
open Go.Proofs.Tryz Go.RowKit Go.Maps
section
variable {ps : List Pt}
theorem Uk:∀(ps:List Pt)(t:List UInt8),Left ps t->((Aj ps t).length:Int)=(ps.map Dm).sum
 | [],t,_=>rfl
 | p :: ps,t,h=>by
  obtain⟨b,_,_,a⟩:=Jq h;have ih:=Uk ps _ b;rw[AY,BQ,←ih]
  rcases Ih (h.one p (by simp)) with ⟨u,e,rfl⟩|⟨d,m,rfl⟩
  . rw[Ky,AA];simp[Dm,Ab]
  . rw [IM]at a ⊢
    have c:((m+1:Nat):Int).toNat=m+1:=by omega
    rw[c]at a ⊢;rw[MF,AA]
    cases d with
    | true=>simp[Dm,At]
    | false =>
     rw[if_neg (by decide),AO];simp only[Dm,At,AR,BW,if_false];omega
theorem good.left{t:List UInt8}(h:good ps t):Left ps t:=⟨h.one,h.long,h.al⟩
def D7:List Pt->List Bool
 | []=>[]
 | p :: ps=>List.replicate p.drop.toNat true++(List.replicate p.keep.toNat false++D7 ps)
theorem SG:∀(a b:List Pt),D7 (a++b)=D7 a++D7 b
 | [],b=>rfl
 | p :: a,b=>by rw[BR,D7,D7,SG a b];simp
def Ic (x:List Bool) (p:Pt):List Bool:=x++(List.replicate p.drop.toNat true++List.replicate p.keep.toNat false)
theorem LI:G8 Ic:=by
 constructor
 . intro x;simp[Ic]
 . intro x u v;simp[Ic]
 . intro x a b ha c
   simp only[Ic,DQ,List.replicate_zero,AZ,AH];rw[show(a+b).toNat=a.toNat+b.toNat by omega,←List.replicate_append_replicate]
 . intro x a b ha c
   simp only[Ic,DQ,List.replicate_zero,BA,AH];rw[show(a+b).toNat=a.toNat+b.toNat by omega,←List.replicate_append_replicate]
 . intro x k d u;simp[Ic]
 . intro x d u;simp[Ic]
theorem Uu:∀(ps:List Pt)(x:List Bool),ps.foldl Ic x=x++D7 ps
 | [],x=>by simp[D7]
 | p :: ps,x=>by rw[BT,Uu ps,Ic,D7];simp
theorem Zb(h:∀p∈ps,0<=p.keep/\0<=p.drop):D7 (Ag ps)=D7 ps:=by
 have e:=Nt LI ps h [];rw[Uu,Uu]at e;simpa using e
theorem RY(h:∀p∈ps,0<=p.keep/\0<=p.drop):Al (Ag ps)=Al ps:=by
 have f:G8 (λ(x:Nat) (p:Pt)=>x+p.put.length):=by
  constructor
  . intro x;simp
  . intro x u v;simp;omega
  . intro x a b _ _;simp
  . intro x a b _ _;simp
  . intro x k d u;simp
  . intro x d u;simp
 have c:∀(l:List Pt) (x:Nat),l.foldl (λx p=>x+p.put.length) x=x+Al l:=by
  intro l
  induction l with
  | nil=>intro x;simp[Al]
  | cons p l ih=>intro x;rw[BT,ih];simp[Al];omega
 have e:=Nt f ps h 0;rw[c,c]at e;omega
theorem OG(d:Bool)(n:Nat)(ps:List Pt):D7 (At d n :: ps)=List.replicate n d++D7 ps:=by
 cases d<;>simp[D7,At]
theorem QA(u:List UInt8)(ps:List Pt):D7 (⟨0,0,u⟩ :: ps)=D7 ps:=by simp[D7]
theorem MM(p:Pt)(ps:List Pt):Al (p :: ps)=p.put.length+Al ps:=by simp[Al]
theorem QO(a b:List Pt):Al (a++b)=Al a+Al b:=by simp[Al]
theorem Uv:∀(ps:List Pt)(t:List UInt8),Left ps t->(Aj ps t).length=Al ps+(D7 ps).count false
 | [],t,_=>rfl
 | p :: ps,t,h=>by
  obtain⟨b,_,_,a⟩:=Jq h;have ih:=Uv ps _ b
  rcases Ih (h.one p (by simp)) with ⟨u,f,rfl⟩|⟨d,m,rfl⟩
  . have c:(Ab (⟨0,0,u⟩:Pt)).toNat=0:=rfl
    rw[c,DE]at ih;rw[Ky,QA,MM,AA,ih];show u.length+_=u.length+_+_;omega
  . rw [IM]at a ih
    have e:((m+1:Nat):Int).toNat=m+1:=by omega
    rw[e]at a ih;rw[MF,OG,MM,Nz,AA,List.count_append,ih]
    cases d with
    | true=>simp[List.count_replicate]
    | false =>
     rw[if_neg (by decide),AO,List.count_replicate];simp;omega
def Iu (F:List Bool) (x:Dp):Bool:=if x.1<0 then false else F[x.1.toNat]?.getD false
theorem VP(F:List Bool)(u:List UInt8):(Bl u).map (Iu F)=List.replicate u.length false:=by
 unfold Bl;rw[EW]
 induction u with
 | nil=>rfl
 | cons c u ih=>rw[AY,ih];rfl
theorem TG(F:List Bool)(d:Bool)(rest:List Bool):∀(k i:Nat),F.drop i=List.replicate k d++rest->(Dt i k).map (Iu F)=List.replicate k d
 | 0,i,_=>rfl
 | k + 1,i,h=>by
  have a:F[i]?=some d:=by
   have:(F.drop i)[0]?=some d:=by rw[h];simp[CH]
   rw[List.getElem?_drop,EI]at this;exact this
  have b:F.drop (i+1)=List.replicate k d++rest:=by
   have:=congrArg (List.drop 1) h;rw[DI,CH,BR,List.drop_succ_cons,DE]at this;exact this
  have e:Iu F ((i:Int),0)=d:=by unfold Iu;rw[if_neg (by show ¬(i:Int)<0;omega)];simp[a]
  have ih:=TG F d rest k (i+1) b;rw[Dt,AY,e,CH]
  congr 1
theorem Yj(d:Bool)(m j:Nat)(c:j<=m)(ps:List Pt)(i:Int) :
    D7 (At d (m+1) :: ps)=List.replicate (j+1) d++D7 ((Ah (At d (m+1)) ((j:Int)+1)).2++ps)/\Al ((Ah (At d (m+1)) ((j:Int)+1)).2++ps)=Al ps /\
    Ax i (At d (m+1) :: ps)=(if d then [] else Dt i (j+1))++Ax (i+(j+1:Nat)) ((Ah (At d (m+1)) ((j:Int)+1)).2++ps):=by
 have a:∀(d:Bool) (n:Nat) (i:Int) (ps:List Pt),Ax i (At d n :: ps)=(if d then [] else Dt i n)++Ax (i+n) ps:=by
  intro d n i ps
  cases d
  . simp[Ax,At,Bl]
  . simp[Ax,At,Bl,Dt]
 rcases XE d m j c with ⟨rfl,e⟩|⟨k,rfl,e⟩
 . rw[e,BA,OG,a]
   exact⟨rfl,rfl,rfl⟩
 . rw [e]
   have b:j+k+1+1=(j+1)+(k+1):=by omega
   refine⟨?_,?_,?_⟩
   . show _=_++D7 (At d (k+1) :: ps)
     rw[OG,OG,←AH,b,List.replicate_append_replicate]
   . show Al (At d (k+1) :: ps)=_
     rw[MM,Nz];simp
   . show _=_++Ax _ (At d (k+1) :: ps)
     rw[a,a,b]
     cases d with
     | true=>simp only[if_true,BA];congr 1;push_cast;omega
     | false =>
      simp only[BW,if_false];rw[QQ,AH]
      congr 3
      push_cast;omega
theorem ar(F:Bool):∀(f:Nat)(A B:List Pt)(r:List UInt8)(a:List Bool)(pos:Nat),Left A r->Left B r->Bc A+Bc B<=f->a.drop pos=D7 (if F then A else B) ->
    D7 ((Bi Au Au f A B).flatMap (tF F))=(Ax pos (if F then B else A)).map (Iu a)/\Al ((Bi Au Au f A B).flatMap (tF F))=Al (if F then A else B):=by
 have t:∀{l:List Pt} {r:List UInt8},Left l r->Bc l=0->l=[]:=by
  intro l r h W
  cases l with
  | nil=>rfl
  | cons p l=>have:=Mh (h.one p (by simp)) l;omega
 have base:∀(a:List Bool) (pos g:Nat),D7 ((Bi Au Au g [] []).flatMap (tF F))=(Ax pos (if F then [] else [])).map (Iu a)/\Al ((Bi Au Au g [] []).flatMap (tF F))=Al (if F then [] else []):=by
  intro a pos g;have e:Bi Au Au g [] []=[]:=by cases g<;>rfl
  rw[e]
  cases F<;>exact⟨rfl,rfl⟩
 have o:∀(u:List UInt8) (i:Int) (ps:List Pt),Ax i (⟨0,0,u⟩ :: ps)=Bl u++Ax i ps:=by
  intro u i ps;simp[Ax,Dt]
 have s:∀(n:Nat) (l:List Pt),D7 (⟨(n:Int),0,[]⟩ :: l)=List.replicate n false++D7 l:=by
  intro n l;simp[D7]
 intro f
 induction f with
 | zero =>
  intro A B r a pos C y W h;obtain rfl:=t C (by omega);obtain rfl:=t y (by omega);exact base a pos 0
 | succ f ih =>
  intro A B r a pos C y W h
  have w:∀(v:List UInt8) (c:List Pt),v≠[]->B=⟨0,0,v⟩ :: c->Bi Au Au (f+1) A B=(Dh,⟨0,0,v⟩) :: Bi Au Au f A c ->
      D7 ((Bi Au Au (f+1) A B).flatMap (tF F))=(Ax pos (if F then B else A)).map (Iu a)/\Al ((Bi Au Au (f+1) A B).flatMap (tF F))=Al (if F then A else B):=by
   intro v c x e L;subst e;obtain⟨R,hV⟩:=Nw y;have P:=Mh (y.one ⟨0,0,v⟩ (by simp)) c;have U:a.drop pos=D7 (if F then A else c):=by
    rw[h]
    cases F with
    | true=>rfl
    | false=>exact QA v c
   obtain⟨H,G⟩:=ih A c r a pos C R (by omega) U;rw[L,CY,SG,QO,H,G]
   cases F with
   | true =>
    have e:=Ry true v x;rw[if_pos rfl]at e;rw[e,if_pos rfl,if_pos rfl,if_pos rfl,o,BM,VP,s];exact⟨by simp[D7],by simp[Al]⟩
   | false =>
    have e:=Q9 false v x;rw[if_neg (by decide)]at e;rw[e,if_neg (by decide),if_neg (by decide),if_neg (by decide),MM,QA];exact⟨rfl,by simp[Al]⟩
  cases A with
  | nil =>
   obtain rfl:=L9 C
   cases B with
   | nil=>exact base a pos (f+1)
   | cons q c =>
    rcases Ih (y.one q (by simp)) with ⟨v,x,rfl⟩|⟨e,k,rfl⟩
    . exact w v c x rfl (by
        have S:=JM x
        simp only[Bi,S,if_true])
    . exact absurd y QR
  | cons p A' =>
   rcases Ih (C.one p (by simp)) with ⟨u,O,rfl⟩|⟨d,m,rfl⟩
   . obtain ⟨N,hV⟩:=Nw C
     have P:=Mh (C.one ⟨0,0,u⟩ (by simp)) A';have L:Bi Au Au (f+1) (⟨0,0,u⟩ :: A') B=(⟨0,0,u⟩,Dh) :: Bi Au Au f A' B:=by
      have Q:=JM O
      cases B<;>simp only[Bi,Q,if_true]
     have U:a.drop pos=D7 (if F then A' else B):=by
      rw[h]
      cases F with
      | true=>exact QA u A'
      | false=>rfl
     obtain⟨H,G⟩:=ih A' B r a pos N y (by omega) U;rw[L,CY,SG,QO,H,G]
     cases F with
     | true =>
      have e:=Q9 true u O;rw[if_pos rfl]at e;rw[e,if_pos rfl,if_pos rfl,if_pos rfl,MM,QA];exact⟨rfl,by simp[Al]⟩
     | false =>
      have e:=Ry false u O;rw[if_neg (by decide)]at e;rw[e,if_neg (by decide),if_neg (by decide),if_neg (by decide),o,BM,VP,s];exact⟨by simp[D7],by simp[Al]⟩
   . cases B with
     | nil =>
      obtain rfl:=L9 y;exact absurd C QR
     | cons q c =>
      rcases Ih (y.one q (by simp)) with ⟨v,x,rfl⟩|⟨e,k,rfl⟩
      . exact w v c x rfl (by
          have Q:=IQ d (m+1);have S:=JM x
          simp only[Bi,Q,S,BW,if_false,if_true])
      . have I:min (Ba (At d (m+1))) (Ba (At e (k+1)))=((min m k:Nat):Int)+1:=by rw[Ij,Ij];omega
        obtain⟨j,hj⟩:∃j,min m k=j:=⟨_,rfl⟩;rw[hj]at I;have E:j<=m:=by omega
        have D:j<=k:=by omega
        have L:Bi Au Au (f+1) (At d (m+1) :: A') (At e (k+1) :: c)=(At d (j+1),At e (j+1)) :: Bi Au Au f ((Ah (At d (m+1)) ((j:Int)+1)).2++A') ((Ah (At e (k+1)) ((j:Int)+1)).2++c):=by
         rw[Bi,if_neg (by rw[IQ];decide),if_neg (by rw[IQ];decide),I,(L7 d m j E).1,(L7 e k j D).1]
        have x:V (r.take (j+1)):=by
         have v1:=(Jq C).2.2.1;have v2:=(Jq y).2.2.1;rw[IM]at v1 v2
         by_cases hc:m<=k
         . obtain rfl:m=j:=by omega
           exact v1
         . obtain rfl:k=j:=by omega
           exact v2
        obtain⟨lA,_,_⟩:=NB d m j E A' r C x;obtain⟨Z,_,_⟩:=NB e k j D c r y x;obtain⟨fA,pA,Y⟩:=Yj d m j E A' pos;obtain⟨fB,pB,X⟩:=Yj e k j D c pos;have wA:=Mf d m j E;have wB:=Mf e k j D;have K:Bc ((Ah (At d (m+1)) ((j:Int)+1)).2++A')+Bc ((Ah (At e (k+1)) ((j:Int)+1)).2++c)<=f:=by
         rw[JO,JO,wA,wB];rw[Ff,Ff,Ij,Ij]at W;omega
        have J:(pos:Int)+((j+1:Nat):Int)=((pos+(j+1):Nat):Int):=by push_cast;rfl
        rw[J]at Y X;have z:∀(b:Bool) (l:List Bool),a.drop pos=List.replicate (j+1) b++l->a.drop (pos+(j+1))=l:=by
         intro b l hl;have:=congrArg (List.drop (j+1)) hl;rw[DI,ER (by simp)]at this;exact this
        rw[L,CY,SG,QO,WX]
        cases F with
        | true =>
         rw[if_pos rfl]at h ⊢;rw[if_pos rfl,if_pos rfl,if_pos rfl];rw[fA]at h;obtain⟨H,G⟩:=ih _ _ (r.drop (j+1)) a (pos+(j+1)) lA Z K (by rw[if_pos rfl];exact z d _ h);rw[if_pos rfl]at H G;rw[H,G,X,MM,Nz,pA,BM]
         cases e with
         | true=>simp[D7,Al]
         | false =>
          rw[if_neg (by decide),if_neg (by decide),TG a d _ (j+1) pos h,OG];simp[D7,Al,Nz]
        | false =>
         simp only[BW,if_false]at h ⊢;rw[fB]at h;obtain⟨H,G⟩:=ih _ _ (r.drop (j+1)) a (pos+(j+1)) lA Z K (by rw[if_neg (by decide)];exact z e _ h);rw[if_neg (by decide)]at H G;rw[H,G,Y,MM,Nz,pB,BM]
         cases d with
         | true=>simp[D7,Al]
         | false =>
          rw[if_neg (by decide),if_neg (by decide),TG a e _ (j+1) pos h,OG];simp[D7,Al,Nz]
end
section
variable {x : List Pt}{t : List UInt8}
theorem Vp:∀(ps:List Pt),Bj ps=Ak ps+Al ps
 | []=>by simp[Bj,Ak,Al]
 | p :: ps=>by
  have ih:=Vp ps;have a:Bj (p :: ps)=Ee p+Bj ps:=by simp[Bj]
  rw[a,Im,MM,ih];unfold Ee Ab
  push_cast;omega
theorem Rk:∀(ps:List Pt),(∀p∈ps,Am p)->(ps.length:Int)<=Bj ps
 | [],_=>by simp[Bj]
 | p :: ps,h=>by
  have ih:=Rk ps λq a=>h q (by simp[a]);have b:Bj (p :: ps)=Ee p+Bj ps:=by simp[Bj]
  have c:=Gm (h p (by simp));have d:Ba p=Ee p:=rfl;rw[b,AJ];push_cast;omega
theorem Wh:∀(ps:List Pt),(∀p∈ps,Am p)->∀p∈ps,Ee p<=Bj ps
 | [],_,p,a=>by cases a
 | q :: ps,h,p,a=>by
  have f:Bj (q :: ps)=Ee q+Bj ps:=by simp[Bj]
  have e:=Rk ps λx b=>h x (by simp[b]);have d:=Gm (h q (by simp));have c:Ba q=Ee q:=rfl
  rcases List.mem_cons.1 a with rfl|a
  . omega
  . have:=Wh ps (λx b=>h x (by simp[b])) p a
    omega
theorem good.wt(h:good x t):Bj x=t.length+Al x:=by rw[Vp,h.long]
theorem good.fine(h:good x t)(c:t.length+Al x<1000000):Bs x:=by
 have a:=h.wt;have b:=Rk x h.one;exact⟨h.one,by omega,by omega⟩
theorem good.wf(h:good x t)(b:t.length+Al x<1000000):∀p∈x,Cp p:=by
 intro p a;have f:=h.wt;have g:=Wh x h.one p a;obtain⟨c,d,_⟩:=Rw (h.one p a);have e:Ee p=p.keep+p.drop+p.put.length:=rfl;exact⟨by omega,by omega,by omega,by omega,by omega⟩
theorem good.lens(h:good x t)(b:t.length+Al x<1000000):(Be x).1=t.length/\(Be x).2=(Aj x t).length:=by
 have a:=Hm (h.fine b);rw[a.1,a.2,h.long,Uk x t h.left];exact⟨rfl,rfl⟩
theorem good.both{a b:List Pt}{d:List UInt8}(ha:good a t)(c:good b d)(e:t.length+Al a<1000000)(f:d.length+Al b<1000000):Dy a b=0:=by
 unfold Dy;rw[(ha.lens e).1,(c.lens f).1,ha.chk,if_pos rfl,c.chk]
theorem Tu(h:good x t):Al x<=(Aj x t).length:=by
 have:=Uv x t h.left;omega
theorem XM:∀(ps:List Pt),(∀p∈ps,0<=p.keep/\0<=p.drop)->((D7 ps).length:Int)=Ak ps
 | [],_=>by simp[D7,Ak]
 | p :: ps,h=>by
  have ih:=XM ps λq a=>h q (by simp[a]);have b:=h p (by simp);rw[Im,←ih,D7];simp only[AA,FO];unfold Ab;push_cast;omega
theorem Qk(h:good x t):(Aj x t).length<=t.length+Al x:=by
 have b:=Uv x t h.left;have d:=List.count_le_length (a:=false) (l:=D7 x);have c:=XM x (Da h.one);have e:=h.long;omega
theorem Nn(v:Value)(x:List Pt)(t:List UInt8)(w:World)(d:Lib.Utf8Tabs 1 2 w)(b:Ae w v x)(h:good x t)(a:t.length+Al x<1000000) :
    Cg 44 #[v,Sx t] w (Rt w (.tuple #[Sx (Aj x t),.nilIface])):=by
 have c:=h.fine a;have:=Ug v x t w d b (h.wf a) (by omega) c.len (by omega);rw[h.ord,if_pos rfl]at this;exact this
theorem UL(F:Bool){a b:List Pt}{t:List UInt8}(ha:good a t)(i:good b t)(A:t.length+Al a<1000000)(B:t.length+Al b<1000000):Al (Aq (Bv F a b))=Al a/\D7 (Aq (Bv F a b))=(Ax 0 b).map (Iu (D7 a)):=by
 have n:=ha.norm;have m:=i.norm;have z:=n.left;have lb:=m.left;have r:=Da ha.one;obtain⟨s,_,_,_⟩:=Hn (ha.fine A);obtain⟨m1,_,_,_⟩:=Hn (i.fine B);have u:Fr Au (Ag a)=Fr Au (Ag b):=by
  rw[MC _ n.one,MC _ m.one,n.long,m.long]
 have f:∀(G:Bool) (L:List (Pt×Pt)),(∀p∈L.flatMap (tF G),0<=p.keep/\0<=p.drop)->D7 (Aq (B9 (tF G) L A7))=D7 (L.flatMap (tF G))/\Al (Aq (B9 (tF G) L A7))=Al (L.flatMap (tF G)):=by
  intro G L h;rw[WV];exact⟨Zb h,RY h⟩
 have w:=Zb r;have y:=RY r;have v:=WG b i.one
 cases F with
 | true =>
  obtain⟨g,e⟩:=ar true (Bc (Ag a)+Bc (Ag b)) (Ag a) (Ag b) t (D7 a) 0 z lb (Ai _) (by rw[DE,if_pos rfl,w]);have j:∀p∈(Bi Au Au (Bc (Ag a)+Bc (Ag b)) (Ag a) (Ag b)).flatMap (tF true),0<=p.keep/\0<=p.drop:=by
   obtain⟨_,c,_,_⟩:=Qe L8 L8 (Bc (Ag a)+Bc (Ag b)) (Ag a) (Ag b) s m1 u (Ai _);intro p d;obtain⟨x,k,d⟩:=List.mem_flatMap.1 d;exact((Uq x (c x k)).2 p d).1
  obtain⟨q,l⟩:=f true _ j;rw[if_pos rfl]at g e;have o:Bv true a b=B9 (tF true) (Bi Au Au (Bc (Ag a)+Bc (Ag b)) (Ag a) (Ag b)) A7:=rfl;rw[o,q,l,g,e,y];refine⟨rfl,?_⟩;show(Ax 0 (Ag b)).map _=_;rw[v]
 | false =>
  obtain⟨g,e⟩:=ar false (Bc (Ag b)+Bc (Ag a)) (Ag b) (Ag a) t (D7 a) 0 lb z (Ai _) (by rw[DE,if_neg (by decide),w]);have j:∀p∈(Bi Au Au (Bc (Ag b)+Bc (Ag a)) (Ag b) (Ag a)).flatMap (tF false),0<=p.keep/\0<=p.drop:=by
   obtain⟨_,c,_,_⟩:=Qe L8 L8 (Bc (Ag b)+Bc (Ag a)) (Ag b) (Ag a) m1 s u.symm (Ai _);intro p d;obtain⟨x,k,d⟩:=List.mem_flatMap.1 d;exact((YF x (c x k)).2 p d).1
  obtain⟨q,l⟩:=f false _ j;rw[if_neg (by decide)]at g e;have o:Bv false a b=B9 (tF false) (Bi Au Au (Bc (Ag b)+Bc (Ag a)) (Ag b) (Ag a)) A7:=rfl;rw[o,q,l,g,e,y];refine⟨rfl,?_⟩;show(Ax 0 (Ag b)).map _=_;rw[v]
end
section
variable {t : List UInt8}{ps : List Pt}
theorem Zq:∀(ps:List Pt)(t:List UInt8),(∀p∈ps,0<=Ab p)->Ak ps=t.length->C9 ps t=false->GS t=false
 | [],t,_,hl,_=>by
  have:t=[]:=BC (by simp[Ak]at hl;omega);rw[this];rfl
 | p :: ps,t,h,hl,hb=>by
  have f:=h p (by simp);rw[C9,Bool.or_eq_false_iff]at hb
  by_cases d:Ab p=0
  . have e:(Ab p).toNat=0:=by omega
    rw[e,DE]at hb;exact Zq ps t (λq a=>h q (by simp[a])) (by rw[Im]at hl;omega) hb.2
  . cases t with
    | nil=>rfl
    | cons b t =>
     obtain⟨n,c⟩:∃n,(Ab p).toNat=n+1:=⟨(Ab p).toNat - 1,by omega⟩;rw[c]at hb;exact hb.1
theorem PS{n:Nat}(i:V t)(o:n<=t.length)(c:GS (t.drop n)=false):V (t.take n):=by
 obtain⟨a,b,rfl⟩:=i
 rcases CQ n (encs a).length with h|h
 . have j:(encs a)[n]?=some (encs a)[n]:=B7 h
   have l:(encs a).drop n=(encs a)[n] :: (encs a).drop (n+1):=BK h;rw[l]at c;have d:LW (encs a)[n]=true:=by simpa[GS,LX,LW] using c
   obtain⟨k,m,e⟩:=aR b j d;have f:encs a=encs (a.take k)++encs (a.drop k):=by rw[←Mk,AW]
   refine⟨a.take k,λr g=>b r (BZ g),?_⟩
   conv=>lhs;rw[f,e]
   rw[DP];rfl
 . rw[AQ h];exact⟨a,b,rfl⟩
theorem Mr:∀(ps:List Pt)(t:List UInt8),V t->(∀p∈ps,V p.put)->(∀p∈ps,0<=Ab p)->Ak ps=t.length->C9 ps t=false->al ps t
 | [],_,_,_,_,_,_=>trivial
 | p :: ps,t,hV,hp,h,hl,hb=>by
  have i:=h p (by simp);have a:∀q∈ps,0<=Ab q:=λq b=>h q (by simp[b]);have g:0<=Ak ps:=by
   clear hl hb hp h
   induction ps with
   | nil=>simp[Ak]
   | cons q ps ih=>rw[Im];have:=a q (by simp);have:=ih (λx f=>a x (by simp[f]));omega
  rw[Im]at hl;rw[C9,Bool.or_eq_false_iff]at hb;have e:(Ab p).toNat<=t.length:=by omega
  have d:Ak ps=(t.drop (Ab p).toNat).length:=by rw[AM];omega
  have c:=PS hV e (Zq ps _ a d hb.2);exact⟨hp p (by simp),c,Mr ps _ (Vq hV c) (λq b=>hp q (by simp[b])) a d hb.2⟩
theorem YU:∀{ps:List Pt}{N:Int},(∀q∈ps,0<=Ab q)->D9 ps N=0->Ak ps=N
 | [],N,_,h=>by
  unfold D9 at h
  split at h
  . rename_i e;simp[Ak,e]
  . cases h
 | p :: ps,N,hl,h=>by
  unfold D9 at h
  split at h
  . cases h
  . have:=YU (λq a=>hl q (by simp[a])) h
    rw[Im,this];unfold Ab;omega
theorem YV{N:Int}(h:chkE ps N=0):(∀p∈ps,Db p=true/\(scan p.put).2=true)/\Ak ps=N/\∀q∈ps,0<=Ab q:=by
 unfold chkE at h
 split at h
 . rename_i h1
   have b:=Om h1;have a:∀q∈ps,0<=Ab q:=λq c=>by
    have:=(KC (b q c).1).1;unfold Ek at this;unfold Ab;omega
   exact⟨b,YU a h,a⟩
 . rename_i h1;exact absurd h h1
theorem V9{q:Pt}(h:Db q=true):Am q:=by
 obtain⟨K,D,U⟩:=q;unfold Db at h;unfold Am;simp only at h ⊢
 split at h
 . rename_i e;exact .inl ⟨of_decide_eq_true h,e.1,e.2⟩
 . rename_i e1
   split at h
   . rename_i e;exact .inr (.inl ⟨e.1,of_decide_eq_true h,e.2⟩)
   . rename_i e2
     have a:=of_decide_eq_true h;exact .inr (.inr ⟨a.1,a.2,λe=>e2 ⟨a.1,e⟩⟩)
theorem JS(i:V t)(h:ordE ps t=0):good ps t:=by
 unfold ordE at h
 by_cases a:chkE ps (t.length:Int)=0
 . rw [if_pos a]at h
   have g:C9 ps t=false:=by
    cases e:C9 ps t with
    | false=>rfl
    | true=>rw[e]at h;cases h
   obtain⟨c,d,f⟩:=YV a;exact⟨λp b=>V9 (c p b).1,d,Mr ps t i (λp b=>RZ (c p b).2) f d g⟩
 . rw[if_neg a]at h;exact absurd h a
/-! gaps -/
def Hy (y:List (List UInt8×Bool)) (yl:List UInt8):Int:=(y.map λx=>(x.1.length:Int)+if x.2 then 0 else 1).sum+yl.length
def Hv (y:List (List UInt8×Bool)) (yl:List UInt8):Nat:=(y.map λx=>x.1.length).sum+yl.length
def Vg (y:List (List UInt8×Bool)) (yl:List UInt8):Prop:=(∀x∈y,V x.1)/\V yl
theorem XH(F:Bool):∀(x:List (List UInt8×Bool))(b:List UInt8)(y:List (List UInt8×Bool))(a:List UInt8),x.length=y.length->Ak (En F x b y a)=Hy y a
 | [],b,[],a,_=>by
  cases F<;>simp[En,Hy,Ak,Ab]
 | [],_,_ :: _,_,h=>by simp at h
 | _ :: _,_,[],_,h=>by simp at h
 | (u,d) :: x,b,(v,e) :: y,a,h=>by
   have ih:=XH F x b y a (by simpa using h);rw[En,JT,JT,ih];have c:Hy ((v,e) :: y) a=((v.length:Int)+if e then 0 else 1)+Hy y a:=by simp[Hy];omega
   rw[c];have f:Ak (if F then [⟨0,0,u⟩,⟨(v.length:Int),0,[]⟩] else [⟨(v.length:Int),0,[]⟩,⟨0,0,u⟩])=v.length:=by cases F<;>simp[Ak,Ab]
   have g:Ak (if e then [] else [II d])=if e then 0 else 1:=by cases e<;>cases d<;>simp[Ak,Ab,II]
   rw[f,g]
theorem XJ(F:Bool):∀(x:List (List UInt8×Bool))(a:List UInt8)(y:List (List UInt8×Bool))(b:List UInt8),x.length=y.length->Al (En F x a y b)=Hv x a
 | [],a,[],b,_=>by
  cases F<;>simp[En,Hv,Al]
 | [],_,_ :: _,_,h=>by simp at h
 | _ :: _,_,[],_,h=>by simp at h
 | (u,d) :: x,a,(v,e) :: y,b,h=>by
   have ih:=XJ F x a y b (by simpa using h);rw[En,QO,QO,ih];have c:Hv ((u,d) :: x) a=u.length+Hv x a:=by simp[Hv];omega
   rw[c];have f:Al (if F then [⟨0,0,u⟩,⟨(v.length:Int),0,[]⟩] else [⟨(v.length:Int),0,[]⟩,⟨0,0,u⟩])=u.length:=by cases F<;>simp[Al]
   have g:Al (if e then [] else [II d])=0:=by cases e<;>cases d<;>simp[Al,II]
   rw[f,g];omega
def J0 (p:Pt):Prop:=0<=p.keep/\0<=p.drop/\(p.keep=0\/(p.drop=0/\p.put=[]))/\V p.put
theorem XI(F:Bool):∀(x:List (List UInt8×Bool))(b:List UInt8)(y:List (List UInt8×Bool))(c:List UInt8),Vg x b->∀p∈En F x b y c,J0 p
 | [],b,y,c,h,p,a=>by
  have a:p∈(if F then [⟨0,0,b⟩,⟨(c.length:Int),0,[]⟩] else [⟨(c.length:Int),0,[]⟩,⟨0,0,b⟩]:List Pt):=by cases y<;>exact a
  have f:J0 ⟨0,0,b⟩:=⟨BO _,BO _,.inl rfl,h.2⟩;have g:J0 ⟨(c.length:Int),0,[]⟩:=⟨Int.natCast_nonneg _,BO _,.inr ⟨rfl,rfl⟩,GP⟩
  cases F<;>simp at a<;>rcases a with rfl|rfl<;>assumption
 | (u,d) :: x,b,[],c,h,p,a=>by
   have a:p∈(if F then [⟨0,0,b⟩,⟨(c.length:Int),0,[]⟩] else [⟨(c.length:Int),0,[]⟩,⟨0,0,b⟩]:List Pt):=a;have f:J0 ⟨0,0,b⟩:=⟨BO _,BO _,.inl rfl,h.2⟩;have g:J0 ⟨(c.length:Int),0,[]⟩:=⟨Int.natCast_nonneg _,BO _,.inr ⟨rfl,rfl⟩,GP⟩
   cases F<;>simp at a<;>rcases a with rfl|rfl<;>assumption
 | (u, d) :: x,b,(v,e) :: y,c,h,p,a=>by
   have ih:=XI F x b y c ⟨λz i=>h.1 z (by simp[i]),h.2⟩;rw[En]at a;have f:J0 ⟨0,0,u⟩:=⟨BO _,BO _,.inl rfl,h.1 (u,d) (by simp)⟩;have g:J0 ⟨(v.length:Int),0,[]⟩:=⟨Int.natCast_nonneg _,BO _,.inr ⟨rfl,rfl⟩,GP⟩;have j:J0 (II d):=by
    cases d
    . exact⟨by decide,by decide,.inr ⟨rfl,rfl⟩,GP⟩
    . exact⟨by decide,by decide,.inl rfl,GP⟩
   rcases List.mem_append.1 a with a|a
   . rcases List.mem_append.1 a with a | a
     . cases F<;>simp at a<;>rcases a with rfl|rfl<;>assumption
     . cases e<;>simp at a
       rw[a];exact j
   . exact ih p a
theorem RK:∀(ps:List Pt)(a:List UInt8),(∀p∈ps,Am p)->Hy (C5 a ps).1 (C5 a ps).2=a.length+(ps.map Dm).sum/\Hv (C5 a ps).1 (C5 a ps).2=a.length+Al ps
 | [],a,_=>by simp[C5,Hy,Hv,Al]
 | p :: ps,a,h=>by
  have g:∀q∈ps,Am q:=λq j=>h q (by simp[j])
  rcases Ih (h p (by simp)) with ⟨u,_,rfl⟩|⟨d,n,rfl⟩
  . obtain⟨b,c⟩:=RK ps (a++u) g
    rw[Nv,b,c];have f:(List.map Dm (⟨0,0,u⟩ :: ps)).sum=u.length+(ps.map Dm).sum:=by simp[Dm]
    have e:Al (⟨0,0,u⟩ :: ps)=u.length+Al ps:=by simp[Al]
    rw[f,e,AA];exact⟨by omega,by omega⟩
  . obtain ⟨b,c⟩:=RK ps [] g
    rw[Kz];have f:(List.map Dm (At d (n+1) :: ps)).sum=(if d then 0 else ((n:Int)+1))+(ps.map Dm).sum:=by cases d<;>simp[Dm,At]
    have e:Al (At d (n+1) :: ps)=Al ps:=by cases d<;>simp[Al,At]
    have l:∀k:Nat,((List.replicate k (([]:List UInt8),d)).map λx=>(x.1.length:Int)+if x.2 then 0 else 1).sum=if d then 0 else (k:Int):=by
     intro k
     induction k with
     | zero=>cases d<;>simp
     | succ k ih=>rw[CH,AY,BQ,ih];cases d<;>simp<;>omega
    have i:∀k:Nat,((List.replicate k (([]:List UInt8),d)).map λx=>x.1.length).sum=0:=by
     intro k
     induction k with
     | zero=>rfl
     | succ k ih=>rw[CH,AY,BQ,ih];rfl
    rw[f,e];unfold Hy at b ⊢;unfold Hv at c ⊢;simp only[BM,DK,AY,BQ,BR,l,i,AR]at b c ⊢;constructor
    . cases d<;>simp at *<;>omega
    . omega
theorem S9:∀(ps:List Pt)(a:List UInt8),(∀p∈ps,Am p)->(∀p∈ps,V p.put)->V a->Vg (C5 a ps).1 (C5 a ps).2
 | [],a,_,_,ha=>⟨λx b=>(by cases b),ha⟩
 | p :: ps,a,h,hv,ha=>by
  have f:∀q∈ps,Am q:=λq e=>h q (by simp[e]);have c:∀q∈ps,V q.put:=λq e=>hv q (by simp[e])
  rcases Ih (h p (by simp)) with ⟨u,_,rfl⟩|⟨d,n,rfl⟩
  . rw[Nv]
    exact S9 ps (a++u) f c (L6 ha (hv ⟨0,0,u⟩ (by simp)))
  . obtain ⟨g,i⟩:=S9 ps [] f c GP
    rw[Kz];refine⟨λx b=>?_,i⟩
    rcases List.mem_append.1 b with b|b
    . rcases List.mem_cons.1 b with rfl|b
      . exact ha
      . rw[(List.mem_replicate.1 b).2];exact GP
    . exact g x b
theorem Ww:∀(ps:List Pt)(s:Av),(∀p∈ps,J0 p)->Gy (λ_=>True) s->Gy (λ_=>True) (ps.foldl Af s)
 | [],s,_,h=>h
 | p :: ps,s,hp,h=>by
  obtain⟨b,e,c,a⟩:=hp p (by simp);exact Ww ps (Af s p) (λq d=>hp q (by simp[d])) (Qa h p b e c a trivial)
theorem VH(h:∀p∈ps,J0 p):∀p∈Ag ps,V p.put:=by
 have b:Gy (λ_=>True) A7:=⟨trivial,trivial,λp a=>(by cases a),GP,⟨λp a=>(by cases a),BO _⟩⟩;exact(Qf (Ww ps A7 h b)).2
theorem dq{p:Pt}(h:Am p)(b:V p.put):J0 p:=by
 obtain⟨a,d,c⟩:=Rw h;exact⟨a,d,c,b⟩
theorem gh(F:Bool){a b:List Pt}(q:Bs a)(r:Bs b)(v:∀p∈a,V p.put)(z:Ak a=Ak b) :
    (∀p∈Aq (Bv F a b),Am p)/\(∀p∈Aq (Bv F a b),V p.put)/\Ak (Aq (Bv F a b))=(b.map Dm).sum/\Al (Aq (Bv F a b))=Al a:=by
 have n:=Da q.one;have u:=Da r.one;have f:=Nx a n;have i:=Nx b u;have l:Hb (Ag a)=Hb (Ag b):=by
  have h:=JL (Ag a) (Da f);have k:=JL (Ag b) (Da i);rw[Ua]at h k;omega
 have j:∃x c y d,Aq (Bv F a b)=Ag (En F x c y d)/\x.length=y.length/\Hy y d=(b.map Dm).sum/\Hv x c=Al a/\Vg x c:=by
  refine⟨(C5 [] (Ag a)).1,(C5 [] (Ag a)).2,(C5 [] (Ag b)).1,(C5 [] (Ag b)).2,?_,l,?_,?_,?_⟩
  . unfold Bv Ag
    cases F with
    | true=>rw[if_pos rfl];exact congrArg Aq (YM _ (Ag a) (Ag b) A7 f i l (Ai _))
    | false=>rw[if_neg (by decide)];exact congrArg Aq (au (Bc (Ag b)+Bc (Ag a)) (Ag a) (Ag b) A7 f i l (by omega))
  . rw[(RK (Ag b) [] i).1,(Hn r).2.2.2];simp
  . rw[(RK (Ag a) [] f).2,RY n];simp
  . exact S9 (Ag a) [] f (VH λp g=>dq (q.one p g) (v p g)) GP
 obtain⟨x,c,y,d,e,h,k,w,s⟩:=j;have m:=XI F x c y d s;have o:∀p∈En F x c y d,0<=p.keep/\0<=p.drop:=λp g=>⟨(m p g).1,(m p g).2.1⟩;rw[e];refine⟨Nx _ o,VH m,?_,?_⟩
 . rw[Ua,XH F x c y d h,k]
 . rw[RY o,XJ F x c y d h,w]
end
section
variable {u who : Int}
structure Cl where
 seen:List UInt8
 doc:List UInt8
 rev:Int
 id:Int
 drops:Int
 mine:List (List Pt)
def Eo:List (List Pt)->List UInt8->List UInt8
 | [],t=>t
 | m :: ms,t=>Eo ms (Aj m t)
def JF:List (List Pt)->List UInt8->Prop
 | [],_=>True
 | m :: ms,t=>good m t/\JF ms (Aj m t)
def Di:List (List Pt)->List Pt->List (List Pt)×List Pt
 | [],x=>([],x)
 | m :: ms,x=>(Aq (Bv false m x) :: (Di ms (Aq (Bv true x m))).1,(Di ms (Aq (Bv true x m))).2)
theorem Ss:∀(a:List (List Pt))(x:List Pt),(Di a x).1.length=a.length
 | [],_=>rfl
 | m :: a,x=>by rw[Di,AJ,AJ,Ss a]
theorem OM:∀(a:List (List Pt))(x:List Pt)(t:List UInt8),good x t->JF a t ->
    JF (Di a x).1 (Aj x t)/\good (Di a x).2 (Eo a t)/\Aj (Di a x).2 (Eo a t)=Eo (Di a x).1 (Aj x t)
 | [],x,t,hx,_=>⟨trivial,hx,rfl⟩
 | m :: a,x,t,hx,h=>by
  obtain⟨b,c⟩:=h;have d:=(OI false b hx).1;have f:=(OI true hx b).1;have e:=jt true hx b;obtain⟨g,i,j⟩:=OM a _ _ f c;have e:Aj (Aq (Bv false m x)) (Aj x t)=Aj (Aq (Bv true x m)) (Aj m t):=e;refine⟨⟨d,?_⟩,i,?_⟩
  . rw[e];exact g
  . show _=Eo (Di a (Aq (Bv true x m))).1 (Aj (Aq (Bv false m x)) (Aj x t))
    rw[e];exact j
theorem ON(B:Nat):∀(a:List (List Pt))(x:List Pt)(t:List UInt8),good x t->JF a t->(∀m∈a,Al m<=B)->t.length+Al x+a.length*B<900000->B<=100000 ->
    (∀m∈(Di a x).1,Al m<=B)/\Al (Di a x).2=Al x
 | [],x,t,_,_,_,_,_=>⟨(λm h=>by cases h),rfl⟩
 | m :: a,x,t,hx,h,hp,hb,hB=>by
  obtain⟨c,e⟩:=h;have d:=hp m (by simp);have j:(m :: a).length*B=a.length*B+B:=by rw[AJ,Nat.succ_mul]
  rw[j]at hb;have g:t.length+Al m<1000000:=by omega
  have i:t.length+Al x<1000000:=by omega
  have l:=(OI true hx c).1;have k:=(UL false c hx g i).1;have f:=(UL true hx c i g).1;have p:=Qk c;obtain⟨n,o⟩:=ON B a _ _ l e (λy b=>hp y (by simp[b])) (by rw[f];omega) hB;refine⟨λy b=>?_,o.trans f⟩
  rcases List.mem_cons.1 b with rfl|b
  . rw[k];exact d
  . exact n y b
theorem Vs:∀(a:List (List Pt))(t:List UInt8),V t->JF a t->V (Eo a t)
 | [],_,h,_=>h
 | m :: a,t,h,hg=>Vs a _ (N8 hg.1.al) hg.2
theorem Rr(B:Nat):∀(a:List (List Pt))(t:List UInt8),JF a t->(∀m∈a,Al m<=B)->(Eo a t).length<=t.length+a.length*B
 | [],_,_,_=>by simp[Eo]
 | m :: a,t,hg,hp=>by
  have i:=Rr B a _ hg.2 λy b=>hp y (by simp[b]);have:=Qk hg.1;have:=hp m (by simp);rw[AJ,Nat.succ_mul];have e:Eo (m :: a) t=Eo a (Aj m t):=rfl;rw[e];omega
structure okK (B:Nat) (S:Cl):Prop where
 text:V S.seen
 all:JF S.mine S.seen
 doc:S.doc=Eo S.mine S.seen
 two:S.mine.length<=2
 puts:∀m∈S.mine,Al m<=B
theorem okK.V{B:Nat}{S:Cl}(h:okK B S):Go.Proofs.YtkcpjanmemdjlaaGreatDoor.V S.doc:=by rw[h.doc];exact Vs _ _ h.text h.all
theorem okK.len{B:Nat}{S:Cl}(h:okK B S):S.doc.length<=S.seen.length+2*B:=by
 rw[h.doc];have a:=Rr B _ _ h.all h.puts;have b:=Nat.mul_le_mul_right B h.two;omega
def Dx (o:List Pt):List (List Pt)->List (List Pt)
 | []=>[o]
 | [m]=>[m,o]
 | m :: m2 :: _=>[m,Aq (Ha m2 o)]
def Hc (p:Pt):Bool:=decide (200<p.put.length)
def edO (u:Int) (S:Cl) (q:List Pt):List Pt:=KL (Ch S.doc) u 1 q
def edE (u:Int) (S:Cl) (q:List Pt):Int :=
 if 60<q.length\/q.any Hc=true then 4 else if tzE (Ch S.doc) u 1 q≠0 then tzE (Ch S.doc) u 1 q
 else if 2000<(Aj (edO u S q) S.doc).length then 12 else 0
def Fj (u:Int) (S:Cl) (q:List Pt):Cl:=if edE u S q=0 then { S with doc:=Aj (edO u S q) S.doc,mine:=Dx (edO u S q) S.mine,id:=if S.mine=[] then S.id+1 else S.id } else S
theorem aZ(o:List Pt):∀(a:List (List Pt))(t:List UInt8),a.length<=2->JF a t->good o (Eo a t)->JF (Dx o a) t/\Eo (Dx o a) t=Aj o (Eo a t)/\(Dx o a).length<=2
 | [],t,_,_,ho=>⟨⟨ho,trivial⟩,rfl,by simp[Dx]⟩
 | [m],t,_,h,ho=>⟨⟨h.1,ho,trivial⟩,rfl,by simp[Dx]⟩
 | [m,m2],t,_,h,ho=>by
  obtain⟨b,c⟩:=dL h.2.1 ho;exact⟨⟨h.1,b,trivial⟩,c,by simp[Dx]⟩
 | _ :: _ :: _ :: _,_,h,_,_=>by simp at h
theorem Rg(c:Ck u){S:Cl}(h:okK 2000 S){q:List Pt}(e:tzE (Ch S.doc) u 1 q=0):good (edO u S q) S.doc/\F4 u (Ch S.doc) q=true/\chkE q (by_ u (Ch S.doc))=0/\edO u S q=GW u 1 (Ch S.doc) q:=by
 have i:encs (Ch S.doc)=S.doc:=MP (N4 h.V);obtain⟨a,_,_,_,_,f,b,g⟩:=KQ c (λr d=>NV d) e;rw[i]at a;exact⟨a,b,f,g⟩
theorem Pz{S:Cl}{q:List Pt}(h:edE u S q=0):¬(60<q.length\/q.any Hc=true)/\tzE (Ch S.doc) u 1 q=0/\(Aj (edO u S q) S.doc).length<=2000:=by
 unfold edE at h
 split at h
 . cases h
 rename_i h1
 split at h
 . rename_i h2;exact absurd h h2
 rename_i h2
 split at h
 . cases h
 exact⟨h1,by simpa using h2,by omega⟩
theorem bB(n:Ck u){S:Cl}(h:okK 2000 S)(q:List Pt):okK 2000 (Fj u S q):=by
 unfold Fj
 by_cases j:edE u S q=0
 . rw [if_pos j]
   obtain⟨v,o,r⟩:=Pz j;obtain⟨i,_⟩:=Rg n h o;rw[h.doc]at i;obtain⟨f,d,p⟩:=aZ (edO u S q) S.mine S.seen h.two h.all i;have l:Al (edO u S q)<=2000:=by
    have:=Tu i;rw[←h.doc]at this;omega
   refine⟨h.text,f,by rw[d,←h.doc],p,?_⟩;show ∀m∈Dx (edO u S q) S.mine,Al m<=2000;have hal:=h.all;have a:=h.puts;have c:=h.two;have k:=h.doc;have d:Eo (Dx (edO u S q) S.mine) S.seen=Aj (edO u S q) S.doc:=by rw[d,←h.doc]
   rcases hm:S.mine with _|⟨m,_|⟨m2,_|⟨m3,s⟩⟩⟩
   . intro y b;simp only[Dx,DM]at b;rw[b];exact l
   . intro y b
     rw[hm]at a;simp only[Dx,DR,DL,or_false]at b
     rcases b with rfl|rfl
     . exact a _ (by simp)
     . exact l
   . rw [hm]at a hal f d
     intro y b;simp only[Dx,DR,DL,or_false]at b
     rcases b with rfl|rfl
     . exact a _ (by simp)
     . have g:=f.2.1
       have:=Tu g;have e:Aj (Aq (Ha m2 (edO u S q))) (Aj m S.seen)=Aj (edO u S q) S.doc:=d;rw[e]at this;omega
   . rw[hm]at c;simp at c
 . rw[if_neg j];exact h
/-! Take -/
abbrev Mv (who:Int) (S:Cl) (c i:Int):Prop:=S.mine≠[]/\c=who/\i=S.id
def Eb (S:Cl):List Pt:=S.mine.headD []
def Ga (who:Int) (S:Cl) (rev c i:Int) (x:List Pt):Int :=
 if rev≠S.rev then 0 else if ordE x S.seen≠0 then 15 else if Mv who S c i/\Aj (Eb S) S.seen≠Aj x S.seen then 15 else 0
def Fm (who:Int) (S:Cl) (rev c i:Int) (x:List Pt):Cl :=
 if rev≠S.rev\/Ga who S rev c i x≠0 then S
 else if Mv who S c i then { S with seen:=Aj x S.seen,rev:=S.rev+1,mine:=S.mine.tail,id:=if S.mine.tail≠[] then S.id+1 else S.id }
 else { S with seen:=Aj x S.seen,rev:=S.rev+1,mine:=(Di S.mine x).1,doc:=Aj (Di S.mine x).2 S.doc }
theorem Mp{S:Cl}{rev c i:Int}{x:List Pt}(h:¬(rev≠S.rev\/Ga who S rev c i x≠0)):rev=S.rev/\ordE x S.seen=0/\(Mv who S c i->Aj (Eb S) S.seen=Aj x S.seen):=by
 have b:rev=S.rev:=by
  by_cases e:rev=S.rev
  . exact e
  . exact absurd (.inl e) h
 have a:Ga who S rev c i x=0:=by
  by_cases e:Ga who S rev c i x=0
  . exact e
  . exact absurd (.inr e) h
 unfold Ga at a;rw[if_neg (by simpa using b)]at a
 split at a
 . cases a
 rename_i h3
 split at a
 . cases a
 rename_i h4
 refine⟨b,by simpa using h3,λd=>?_⟩
 by_cases e:Aj (Eb S) S.seen=Aj x S.seen
 . exact e
 . exact absurd ⟨d,e⟩ h4
theorem bC{S:Cl}(h:okK 2000 S)(rev c i:Int)(x:List Pt)(w:S.seen.length+Al x<=500000):okK 2000 (Fm who S rev c i x):=by
 unfold Fm
 by_cases j:rev≠S.rev\/Ga who S rev c i x≠0
 . rw[if_pos j];exact h
 rw[if_neg j];obtain⟨z,r,a⟩:=Mp j;have f:=JS h.text r
 by_cases e:Mv who S c i
 . rw [if_pos e]
   have a:=a e;have hal:=h.all;have d:=h.puts;have b:=h.two;have k:=h.doc;have o:=e.1;unfold Eb at a
   rcases hm':S.mine with _|⟨m,g⟩
   . exact absurd hm' o
   . rw [hm']at hal d b a k
     have a:Aj m S.seen=Aj x S.seen:=a;refine⟨N8 f.al,?_,?_,?_,λy q=>d y (DS _ q)⟩
     . show JF g (Aj x S.seen)
       rw[←a];exact hal.2
     . show S.doc=Eo g (Aj x S.seen)
       rw[←a];exact k
     . show g.length<=2
       simp at b;omega
 . rw [if_neg e]
   obtain⟨l,s,p⟩:=OM S.mine x S.seen f h.all;obtain⟨n,v⟩:=ON 2000 S.mine x S.seen f h.all h.puts (by have:=Nat.mul_le_mul_right 2000 h.two;omega) (by omega);refine⟨N8 f.al,l,?_,?_,n⟩
   . show Aj (Di S.mine x).2 S.doc=_
     rw[h.doc];exact p
   . show(Di S.mine x).1.length<=2
     rw[Ss];exact h.two
/-! Refused -/
def Fh (S:Cl) (i:Int):Cl:=if S.mine≠[]/\i=S.id then { S with mine:=[],doc:=S.seen,drops:=S.drops+1 } else S
theorem gd{S:Cl}(h:okK 2000 S)(i:Int):okK 2000 (Fh S i):=by
 unfold Fh
 split
 . exact⟨h.text,trivial,rfl,by simp,λm a=>by cases a⟩
 . exact h
theorem NM{S:Cl}(h:okK 2000 S)(b:S.mine≠[]):good (Eb S) S.seen/\Al (Eb S)<=2000:=by
 unfold Eb;have hal:=h.all;have a:=h.puts
 rcases hm':S.mine with _|⟨m,c⟩
 . exact absurd hm' b
 . rw[hm']at hal a
   exact⟨hal.1,a m (by simp)⟩
end
section
variable {w w' : World}{B lo e base n bm : Nat}{v v1 : Value}{ps : List Pt}
structure sameBut (w w':World) (S:Nat->Prop):Prop where
 size:w.heap.size<=w'.heap.size
 block:∀k,k<w.heap.size->¬S k->w'.heap[k]?=w.heap[k]?
 os:w'.os=w.os
 tape:w'.tape=w.tape
 output:w'.output=w.output
theorem Cf(h:Bw w w')(S:Nat->Prop):sameBut w w' S:=⟨h.size,λk a _=>h.block k a,h.os,h.tape,h.output⟩
theorem OT(w:World)(S:Nat->Prop):sameBut w w S:=⟨Ai _,λ_ _ _=>rfl,rfl,rfl,rfl⟩
theorem sameBut.trans{w w' b:World}{S:Nat->Prop}(h:sameBut w w' S)(a:sameBut w' b S):sameBut w b S :=
 ⟨AF h.1 a.1,λk d c=>(a.2 k (AK d h.1) c).trans (h.2 k d c),a.os.trans h.os,a.tape.trans h.tape,a.output.trans h.output⟩
theorem sameBut.mono{w w':World}{S S':Nat->Prop}(h:sameBut w w' S)(b:∀k,k<w.heap.size->S k->S' k):sameBut w w' S' :=
 ⟨h.1,λk a c=>h.2 k a λe=>c (b k a e),h.os,h.tape,h.output⟩
theorem B6{w:World}{b o:Nat}{v:Value}{S:Nat->Prop}(a:S b):sameBut w (w.setCell (Ad b o) v) S :=
 ⟨by simp,λk d c=>BF w (Ad b o) v k (λe=>c (e ▸ a)),rfl,rfl,rfl⟩
theorem IU{w w':World}{a:Option Nat}{S:Nat->Prop}(h:w.grownBy w' a)(b:∀k,a=some k->S k):sameBut w w' S :=
 ⟨h.size,λk d c=>h.block k d λe=>c (b k e.symm),h.os,h.tape,h.output⟩
theorem NK{w w':World}{S:Nat->Prop}(h:sameBut w w' S){b o:Nat}{v:Value}(c:w.cell? (Ad b o)=some v)(d:¬S b):w'.cell? (Ad b o)=some v :=
 (AE (w:=w) (a:=(Ad b o)) (h.2 b (Ca w _ c) d)).trans c
def Ar (lo:Nat) (w:World) (v:Value) (ps:List Pt):Prop:=Ae w v ps/\(ps≠[]->∀k,v.ownBlock=some k->k<lo\/∃cs fz,w.heap[k]?=some (.cells cs 87 fz))
def F7 (w:World) (k:Nat):Prop:=∀cs fz,w.heap[k]?≠some (.cells cs 87 fz)
theorem Ev(h:opN B w v ps):Ar lo w v ps:=⟨h.1,λ_ k a=>.inr (h.2 k a).2⟩
theorem Wb(h:w.ownsRow B 87 3 v ps.length (Cw ps)):Ar lo w v ps:=Ev (J6 (Ai B) h)
theorem P6{lo:Nat}{w w':World}{v:Value}{ps:List Pt}{S:Nat->Prop}(h:Ar lo w v ps)(d:sameBut w w' S)(s:∀k,S k->lo<=k/\F7 w k):Ar lo w' v ps:=by
 obtain⟨⟨p,c,rfl,z,C,H⟩,r⟩:=h;have m:ps≠[]->∀b o,p=some (Ad b o)->¬S b:=λa b o e j=>by
  obtain⟨K,J⟩:=s b j
  rcases r a b (by rw[e];rfl) with h|⟨f,g,h⟩
  . omega
  . exact J f g h
 refine⟨⟨p,c,rfl,z,C,λa=>?_⟩,λa k I=>?_⟩
 . obtain⟨b,o,e,y,A⟩:=H a
   refine⟨b,o,e,AK y d.1,λi q D=>?_⟩;obtain⟨F,G,E⟩:=A i q D;exact⟨NK d F (m a b o e),NK d G (m a b o e),NK d E (m a b o e)⟩
 . rcases r a k I with h|⟨f,g,h⟩
   . exact .inl h
   . refine .inr ⟨f,g,(d.2 k (As h) λl=>(s k l).2 f g h).trans h⟩
theorem Bt(h:Ar lo w v ps)(a:Bw w w'):Ar lo w' v ps :=
 P6 (S:=λ_=>False) h (Cf a _) λ_ h=>h.elim
structure SE where
 c:Int
 i:Int
 op:List Pt
def D8 (E:List SE) (vs:List Value):List Value:=(E.zip vs).flatMap λx=>[I6 x.1.c,I6 x.1.i,x.2]
theorem WB:∀(E:List SE)(d:List Value)(i:Nat)(x:SE)(v:Value),E[i]?=some x->d[i]?=some v->(D8 E d)[i*3]?=some (I6 x.c)/\(D8 E d)[i*3+1]?=some (I6 x.i)/\(D8 E d)[i*3+2]?=some v
 | [],_,_,_,_,h,_=>by simp at h
 | _ :: _,[],_,_,_,_,h=>by simp at h
 | y :: E,u :: d,0,x,v,h,h2=>by
  obtain rfl:y=x:=by simpa using h
  obtain rfl:u=v:=by simpa using h2
  exact⟨rfl,rfl,rfl⟩
 | y :: E,u :: d,i+1,x,v,h,h2=>by
  obtain⟨a,b,c⟩:=WB E d i x v (by simpa using h) (by simpa using h2);have e:D8 (y :: E) (u :: d)=I6 y.c :: I6 y.i :: u :: D8 E d:=rfl;have f:(i+1)*3=i*3+3:=by omega
  rw[e,f];exact⟨by simpa using a,by simpa using b,by simpa using c⟩
theorem fc(E:List SE)(a:List Value)(h:a.length=E.length)(x:SE)(v:Value):D8 (E++[x]) (a++[v])=D8 E a++[I6 x.c,I6 x.i,v]:=by
 unfold D8;rw[List.zip_append h.symm,FG];rfl
def Fa (e:TypeId) (lo base:Nat) (w:World) (v1:Value) (E:List SE):Prop :=
 ∃vs,vs.length=E.length/\w.ownsRow base e 3 v1 E.length (D8 E vs)/\∀(i:Nat) (x:SE) (v:Value),E[i]?=some x->vs[i]?=some v->Ar lo w v x.op
theorem GZ{w w':World}{B e size n:Nat}{v:Value}{f:List Value}{S:Nat->Prop}(h:w.ownsRow B e size v n f)(j:sameBut w w' S)(l:∀k,v.ownBlock=some k->¬S k):w'.ownsRow B e size v n f:=by
 obtain⟨o,a⟩:=h;refine⟨o,?_⟩
 rcases a with m|⟨g,b,c,rfl,p,d,i⟩
 . exact .inl m
 . exact .inr ⟨g,b,c,rfl,p,(j.2 g (As d) (l g rfl)).trans d,i⟩
theorem Kc{e lo base:Nat}{w w':World}{v1:Value}{E:List SE}{S:Nat->Prop}(h:Fa e lo base w v1 E)(d:sameBut w w' S)(c:∀k,S k->lo<=k/\F7 w k/\∀j p,w.heap[k]?≠some (.cells j e p)):Fa e lo base w' v1 E:=by
 obtain⟨m,z,f,l⟩:=h;refine⟨m,z,GZ f d λk a b=>?_,λi x v s r=>P6 (l i x v s r) d λk a=>⟨(c k a).1,(c k a).2.1⟩⟩
 rcases f.2 with ⟨rfl,_⟩|⟨g,o,y,rfl,_,q,_⟩
 . cases a
 . obtain rfl:g=k:=Bq a
   exact(c g b).2.2 _ _ q
theorem Mb{E:List SE}(h:Fa e lo base w v1 E)(a:Bw w w'):Fa e lo base w' v1 E :=
 Kc (S:=λ_=>False) h (Cf a _) λ_ h=>h.elim
theorem Io{E:List SE}(h:Fa e lo base w v1 E):∃p c,v1=.slice p E.length c:=by
 obtain⟨b,_,a,_⟩:=h;exact Bm a
theorem Qg{p:Option Addr}{c:Nat}{E:List SE}(h:Fa e lo base w (.slice p n c) E)(r:E≠[]):∃g,p=some (Ad g 0)/\g<w.heap.size/\n=E.length/\n<=c/\c<=maxLen/\∀i x,E[i]?=some x->∃v,w.cell? (Ad g (i*3))=some (I6 x.c)/\w.cell? (Ad g (i*3+1))=some (I6 x.i)/\w.cell? (Ad g (i*3+2))=some v/\Ar lo w v x.op:=by
 obtain⟨b,N,⟨Q,k⟩,I⟩:=h
 rcases k with ⟨_,F⟩|⟨g,z,o,l,O,s,D,J,L,G⟩
 . exact absurd (BC F) r
 . injection l with hp hn f
   subst hp hn f;refine⟨g,rfl,(As s),rfl,D,J,λi x m=>?_⟩;have P:i<E.length:=(De m);have q:i<b.length:=by omega
   have l:b[i]?=some b[i]:=B7 q;obtain⟨H,K,C⟩:=WB E b i x b[i] m l
   have f:∀j u,j<E.length*3->(D8 E b)[j]?=some u->w.cell? (Ad g j)=some u:=λj u A y=>by
    have d:o[j]?=some u:=by
     rw[←CE];have:=congrArg (·[j]?) G;simp only[DU,A,if_true]at this;rw[this,y]
    unfold World.cell?;simp[s,d]
   exact⟨b[i],f _ _ (by omega) H,f _ _ (by omega) K,f _ _ (by omega) C,I i x b[i] m l⟩
/-! maps of a number to two numbers -/
def N2 (a b:Int):DataW Unit:=.agg [.lit (.int .i64 a),.lit (.int .i64 b)]
def Q0 (v:Value):Option (DataW Unit×List MemPlace) :=
 match v with
 | .agg cs=>(match cs.toList with
  | [.int k a,.int k' b]=>if k=.i64/\k'=.i64 then some (N2 a b,[]) else none
  | _=>none)
 | _=>none
theorem T2(a b:Int):Q0 (.agg #[I6 a,I6 b])=some (N2 a b,[]):=rfl
theorem Xt{a b:Int}{ps:List MemPlace}(h:Q0 v=some (N2 a b,ps)):v=.agg #[I6 a,I6 b]:=by
 unfold Q0 at h
 split at h
 . rename_i cs
   split at h
   . rename_i k x k' y e
     split at h
     . rename_i hk
       simp only[Option.some.injEq,Prod.mk.injEq,N2,DataW.agg.injEq,List.cons.injEq,DataW.lit.injEq,Lit.int.injEq,true_and,and_true]at h;obtain⟨⟨c,d⟩,_⟩:=h;rw[hk.1,hk.2,c,d]at e;have:cs=#[I6 a,I6 b]:=by
        apply Array.toList_inj.1;rw[e]
       rw[this]
     . cases h
   . cases h
 . cases h
def IW (c:Int):Prop:=-9223372036854775808<=c/\c<9223372036854775808
theorem Td{c:Int}(h:IW c):(Lit.int .i64 c).wf=true:=by
 unfold IW at h;simp[Lit.wf,IntKind.min,IntKind.max,IntKind.signed,IntKind.bits];omega
abbrev Cd:=Int->Option (Int×Int)
def Ew (M:Cd) (c:Int):Int×Int:=(M c).getD (0,0)
def Je (M:Cd) (c:Int) (x:Int×Int):Cd:=λk=>if k=c then some x else M k
def Jl (n:Nat) (w:World) (bm:Nat) (M:Cd):Prop :=
 ∃D,w.ownsMap prog 3 Q0 bm n D/\∀c,IW c->D.atKey (.int .i64 c) (N2 0 0)=N2 (Ew M c).1 (Ew M c).2/\Maps.has D (.int .i64 c)=(M c).isSome
theorem Tg:Keyed prog 3:=int_keyed underlying3
theorem Zv(w:World):Jl 0 (w.alloc (.map #[] 0)) w.heap.size λ_=>none :=
 ⟨.map [],World.ownsMap_made w _ _ _,λc _=>⟨rfl,rfl⟩⟩
theorem J9{n:Nat}{w w':World}{bm:Nat}{M:Cd}{S:Nat->Prop}(h:Jl n w bm M)(g:sameBut w w' S)(l:¬S bm):Jl n w' bm M:=by
 obtain⟨D,c,k⟩:=h;refine⟨D,?_,k⟩;have b:=c.lt;obtain⟨i,a,d,F,j,f⟩:=c;exact⟨i,a,(g.2 bm b l).trans d,F,j,f⟩
theorem ZU{M:Cd}(h:Jl n w bm M){t e:TypeId}(g:prog.underlying t=some (.map 3 e))(f:(zeroValue e).run prog w=.ok (.agg #[.int .i64 0,.int .i64 0]) w){c:Int}(d:IW c) :
    (Instr.lookup t (.map (some bm)) (.int .i64 c) false).run prog w=.ok (.agg #[.int .i64 (Ew M c).1,.int .i64 (Ew M c).2]) w:=by
 obtain⟨D,i,j⟩:=h;obtain⟨v,ps,a,b⟩:=i.lookup Tg g f (T2 0 0) (keyOf_int_mk underlying3 (Td d));rw[(j c d).1]at b;rw[a,Xt b]
theorem aC{M:Cd}(h:Jl n w bm M){t e:TypeId}(i:prog.underlying t=some (.map 3 e))(g:(zeroValue e).run prog w=.ok (.agg #[.int .i64 0,.int .i64 0]) w){c:Int}(b:IW c) :
    (Instr.lookup t (.map (some bm)) (.int .i64 c) true).run prog w=.ok (.tuple #[.agg #[.int .i64 (Ew M c).1,.int .i64 (Ew M c).2],.bool (M c).isSome]) w:=by
 obtain⟨D,j,f⟩:=h;obtain⟨v,ps,a,d⟩:=j.look_ok Tg i g (T2 0 0) (keyOf_int_mk underlying3 (Td b));rw[(f c b).1]at d;rw[a,Xt d,(f c b).2]
theorem Zc{M:Cd}(h:Jl n w bm M)(A:n<1000000000){t e:TypeId}(s:prog.underlying t=some (.map 3 e)){c:Int}(z:IW c)(a b:Int) :
    ∃w',(Instr.mapUpdate t (.map (some bm)) (I6 c) (.agg #[I6 a,I6 b])).run prog w=.ok () w'/\Jl (n+1) w' bm (Je M c (a,b))/\w.mapTurned w' bm:=by
 obtain⟨D,q,r⟩:=h;obtain⟨w',f,y,m⟩:=q.store Tg s (by unfold maxLen;omega) (keyOf_int_mk underlying3 (Td z)) (T2 a b);have o:=q.isMap;refine⟨w',f,⟨_,y,λk p=>?_⟩,m⟩
 by_cases d:k=c
 . subst d
   have g:WideAt.IsKeyLit (Lit.int .i64 k):=by trivial
   have j:Ew (Je M k (a,b)) k=(a,b):=by simp[Ew,Je]
   have l:(Je M k (a,b) k).isSome=true:=by simp[Je]
   rw[j,l];exact⟨atKey_put_same o g _ _,has_put_same o g _⟩
 . have i:(Lit.int .i64 k)≠(Lit.int .i64 c):=λe=>by injection e with _ e2;exact d e2
   have j:Ew (Je M c (a,b)) k=Ew M k:=by simp[Ew,Je,d]
   have l:(Je M c (a,b) k).isSome=(M k).isSome:=by simp[Je,d]
   rw[j,l];exact⟨(atKey_put_other i _ _).trans (r k p).1,(has_put_other i _).trans (r k p).2⟩
theorem av(h:w.mapTurned w' bm){S:Nat->Prop}(a:S bm):sameBut w w' S:=IU h.grown λk e=>by
 obtain rfl:=Bq e;exact a
end
section
attribute [local go_sem] Oper.semAt_some
theorem Sd(u:List UInt8)(d:u.length<=10000000)(w:World):Cg 63 #[Sx u] w (Rt w (Sx u)):=by
 have c:=stringslite_Clone ⟨u.toArray⟩ w (by simp[ByteArray.size];omega);have C:=Aa c;clear c
 go_enter func63,ntmps63
 go_wp2_with (go_at_call 98;refine AC C.out ?_;rintro e b ⟨rfl,a⟩)
 go_ret;exact⟨rfl,a⟩
theorem ke(l:List Pt)(q:Pt):Cw (l++[q])=Cw l++Ed q:=by simp[Cw]
theorem Me(w:World)(n:Nat)(a:w.heap.size=n)(l:List Value)(t:TypeId):∀j u,l[j]?=some u->(w.alloc (Oc l.toArray t)).cell? (((Ad n 0):Addr).add j)=some u:=by
 subst a;intro j u b;rw[DG,DC];have h:=heap_alloc_new w (Oc l.toArray t);unfold World.cell?;rw[h];simpa using b
theorem T1{w:World}{B e size n b o:Nat}{v:Value}{a:List Value}(h:w.ownsRow B e size v n a)(c:∀j,v.ownBlock=some j->j<b)(u:Value):(w.setCell (Ad b o) u).ownsRow B e size v n a :=
 GZ (S:=λk=>k=b) h (B6 rfl) λk d e=>by have:=c k d;omega
theorem Ts(v:Value)(ps:List Pt)(w:World)(hr:Ae w v ps)(H:∀q∈ps,q.put.length<=10000000)(hl:ps.length<=10000000) :
    Cg 161 #[v] w λe w'=>∃v',e=.returned v'/\w'.ownsRow w.heap.size 87 3 v' ps.length (Cw ps)/\Bw w w':=by
 have Z:Hid (Ae w v ps):=hr;have HPL:Hid (∀q∈ps,q.put.length<=10000000):=H;obtain⟨p,c,rfl,r1,r2,_⟩:=hr;unfold maxLen at r2;obtain⟨n,hn⟩:∃n,ps.length=n:=⟨_,rfl⟩;have HN:Hid (ps.length=n):=hn;rw[hn]at r1 hl ⊢;obtain⟨i0,hi,S,Y,hz2⟩:=info_parts Ho;clear H hn
 go_enter func161,ntmps161
 go_wp2
 go_loopw [3,8] (λv3 i wr=>∃k:Nat,i=.int .i64 k/\k<=n/\wr.ownsRow w.heap.size 87 3 v3 k (Cw (ps.take k))/\Bw w wr) (λ_ i _=>n - (intOf i).toNat)
 case atStart=>exact⟨0,rfl,AV _,BL _ _ _ _,A9 _ _⟩
 case round =>
  obtain⟨k,rfl,hk,f,s⟩:=hrel;obtain⟨pv,cv,rfl⟩:=Bm f;have C:Hid (wr.ownsRow w.heap.size 87 3 (.slice pv k cv) k (Cw (ps.take k))):=f;have m:=Aa s;have W:=s.size;have y:Hid (w.heap.size<=wr.heap.size):=W
  by_cases hlt:k<n
  . have l:k<ps.length:=by rw[HN.out];exact hlt
    have J:ps≠[]:=by intro e;rw[e]at l;exact absurd l (AP _)
    obtain⟨p0,c0,L,_,_,a⟩:=Z.out;obtain⟨O,o,rfl,A,a⟩:=a J;obtain⟨f0,f1,f2⟩:=a k ps[k] (B7 l);have g0:=(zC m.out O (o+k*3) A).trans f0;have g1:=(zC m.out O (o+k*3+1) A).trans f1;have g2:=(zC m.out O (o+k*3+2) A).trans f2;obtain rfl:p=some (Ad O o):=by injection L
    have z:=HPL.out _ (BE l);have E:Hid (Cw (ps.take (k+1))=Cw (ps.take k)++Ed ps[k]):=show _=_ by rw[AD l,ke]
    have hki:(k:Int)<(n:Int):=by omega
    clear a L f0 f1 f2 J f s;generalize ps[k]=q at *;obtain⟨K,D,U⟩:=q;simp only at g0 g1 g2 z;have CL:=Aa λwx=>Sd U z wx;obtain⟨r,X⟩:∃r,wr.heap.size=r:=⟨_,rfl⟩;have g:Hid (wr.heap.size=r):=X
    go_wp2_with (first
     | (go_at_call 63;refine(CL.out _).mono ?_;rintro e G ⟨rfl,h⟩;have b:G.heap[r]?=some (Oc #[I6 K,I6 D,Sx U] 87):=(h.block r (by rw[Bb,g.out];omega)).trans (by have:=heap_alloc_new wr (Oc #[I6 K,I6 D,Sx U] 87);rwa[g.out]at this);have x0:=cQ b 0 rfl;have x1:=cQ b 1 rfl;have x2:=cQ b 2 rfl;have xf:G.frozen? (Ad r 2)=false:=by unfold World.frozen?;simp[b]
        have F:Hid (Bw w G):=(m.out.alloc y.out _).trans (h.mono (by rw[Bb];have:=y.out;omega));have I:Hid (G.ownsRow w.heap.size 87 3 (.slice pv k cv) k (Cw (ps.take k))):=Fe (C.out.alloc _) h;have Q:r+1<=G.heap.size:=by have:=h.size;rw[Bb,g.out]at this;exact this
        have HS2:Hid (r+1<=G.heap.size):=Q;have R:Hid (∀j,(Value.slice pv k cv).ownBlock=some j->j<r):=λj hj=>g.out ▸ (C.out.lt j hj).2
        clear h b)
     | (at_builtin;refine wpList_append_own _ rfl _ _ 37 rfl w.heap.size 87 i0 (.agg #[I6 0,I6 0,.string ⟨#[]⟩]) 3 32 underlying37 hi S Y hz2 rfl (by decide) _ _ _ rfl ((T1 I.out R.out _).alloc _) (Ad G.heap.size 0) 1 1 (Ed ⟨K,D,U⟩) rfl rfl (Me _ _ (by first | rfl | simp) _ _) (Gx _) (by unfold maxLen;omega) (by omega) (by have:=y.out;have:=HS2.out;have:=g.out;simp;omega) ?_))
    intro v' w3 d N _;obtain⟨p',c',rfl⟩:=Bm d;have HO3:Hid (w3.ownsRow w.heap.size 87 3 (.slice p' (k+1) c') (k+1) (Cw (ps.take k)++Ed ⟨K,D,U⟩)):=d;have P:Hid (Bw w w3):=((F.out.setCell (p:=(Ad r 2)) (by show w.heap.size<=r;have:=y.out;have:=g.out;omega) _).alloc (by rw[EJ];exact F.out.size) _).grown N (by simp;have:=F.out.size;omega) λj hj=>(I.out.lt j hj).1;clear d N x0 x1 x2 xf g0 g1 g2;go_wp2;refine⟨⟨k+1,by go_num,by omega,?_,P.out⟩,by simp[intOf];omega⟩;rw[E.out];exact HO3.out
  . obtain rfl:k=n:=by omega
    have hki:¬((k:Int)<(k:Int)):=by omega
    have E:Hid (ps.take k=ps):=show _=_ by rw[←HN.out];exact BV
    clear f s;go_wp2;go_ret;have:=C.out;rw[E.out]at this;exact⟨_,rfl,this,m.out⟩
variable {ps : List Pt}{len : Int}{lo n c : Nat}{w : World}{p : Option Addr}{E : List SE}
structure okOp (ps:List Pt) (len:Int):Prop where
 one:∀p∈ps,Am p
 put:∀p∈ps,V p.put
 long:Ak ps=len
theorem Rj:∀(ps:List Pt),Bj ps=Ak ps+Al ps
 | []=>by simp[Bj,Ak,Al]
 | p :: ps=>by
  have ih:=Rj ps;have b:Bj (p :: ps)=Ee p+Bj ps:=by simp[Bj]
  have a:Al (p :: ps)=p.put.length+Al ps:=by simp[Al]
  rw[b,a,Im,ih];unfold Ee Ab;omega
theorem TV:∀(ps:List Pt),(∀p∈ps,Am p)->(ps.length:Int)<=Bj ps
 | [],_=>by simp[Bj]
 | p :: ps,h=>by
  have ih:=TV ps λq a=>h q (by simp[a]);have b:Bj (p :: ps)=Ee p+Bj ps:=by simp[Bj]
  have d:=Gm (h p (by simp));have f:Ba p=Ee p:=rfl;rw[b,AJ];omega
theorem Gh(p:Pt):∀(a:List Pt),p∈a->p.put.length<=Al a
 | [],h=>by cases h
 | q :: a,h=>by
  have e:Al (q :: a)=q.put.length+Al a:=by simp[Al]
  rw[e]
  rcases List.mem_cons.1 h with rfl|h
  . omega
  . have:=Gh p a h;omega
theorem okOp.fine(h:okOp ps len)(d:len+Al ps<1000000):Bs ps:=by
 have a:=Rj ps;have f:=TV ps h.one;have b:=h.long;exact⟨h.one,by omega,by omega⟩
theorem okOp.chk(h:okOp ps len):chkE ps len=0:=Vy h.one h.put h.long
theorem okOp.wf(h:okOp ps len)(g:len+Al ps<1000000):∀p∈ps,Cp p:=λp b=>by
 have i:=Rw (h.one p b);have j:=Gh p ps b
 have f:Ab p<=Ak ps:=by
  have:=h.one;clear g j i;revert b this;generalize h.long=hl;clear hl;intro b a;clear h
  induction ps with
  | nil=>cases b
  | cons q ps ih =>
   rw[Im];have m:=P0 (a q (by simp));have l:=Qh (ps:=ps) λx d=>a x (by simp[d])
   rcases List.mem_cons.1 b with rfl|b
   . omega
   . have:=ih b (λx d=>a x (by simp[d]));omega
 have k:=h.long;unfold Ab at f;exact⟨by omega,by omega,by omega,by omega,by omega⟩
theorem okOp.lens(h:okOp ps len)(i:len+Al ps<1000000):(Be ps).1=len:=by
 have a:=Da h.one;have f:=(Mg ps a (by have:=Rj ps;have:=h.long;omega)).1;have g:=JL ps a;rw[f,JE];have b:=h.long;have d:((C5 [] ps).1.length:Int)=Hb ps:=rfl;rw[d,g,b]
theorem okOp.turn{a b:List Pt}(ha:okOp a len)(d:okOp b len)(f:len+Al a<1000000)(g:len+Al b<1000000):Dy a b=0/\JI a b=0:=by
 have h:Dy a b=0:=by
  unfold Dy;rw[ha.lens f,d.lens g,if_pos ha.chk,d.chk]
 refine⟨h,?_⟩;unfold JI;rw[if_pos h,if_pos (by rw[ha.lens f,d.lens g])]
theorem okOp.trans{a b:List Pt}{len:Int}(ha:okOp a len)(d:okOp b len)(j:len+Al a<1000000)(k:len+Al b<1000000):okOp (Aq (Bv false a b)) ((b.map Dm).sum)/\Al (Aq (Bv false a b))=Al a:=by
 obtain⟨g,i,h,f⟩:=gh false (ha.fine j) (d.fine k) ha.put (ha.long.trans d.long.symm);exact⟨⟨g,i,h⟩,f⟩
theorem QL(h:chkE ps len=0):okOp ps len:=by
 obtain⟨b,d,f⟩:=YV h;exact⟨λp a=>V9 (b p a).1,λp a=>RZ (b p a).2,d⟩
def Jv:Int->List SE->Prop
 | _,[]=>True
 | len,x :: E=>okOp x.op len/\Al x.op<=40000/\0<=(x.op.map Dm).sum/\(x.op.map Dm).sum<=3000/\Jv ((x.op.map Dm).sum) E
def endE:Int->List SE->Int
 | len,[]=>len
 | _,x :: E=>endE ((x.op.map Dm).sum) E
def Bh (ps:List Pt) (E:List SE):List Pt:=E.foldl (λa x=>Aq (Bv false a x.op)) ps
theorem RC:∀(E:List SE)(ps:List Pt)(len:Int),okOp ps len->Al ps<=40000->len<=3000->Jv len E->okOp (Bh ps E) (endE len E)/\Al (Bh ps E)=Al ps
 | [],ps,len,h,_,_,_=>⟨h,rfl⟩
 | x :: E,ps,len,h,hp,hl,hc=>by
  obtain⟨i,l,k,b,j⟩:=hc;obtain⟨a,d⟩:=h.trans i (by omega) (by omega);obtain⟨f,g⟩:=RC E _ _ a (by omega) b j;exact⟨f,g.trans d⟩
theorem YL(ps:List Pt)(E:List SE)(k:Nat)(a:k<E.length):Bh ps (E.take (k+1))=Aq (Bv false (Bh ps (E.take k)) E[k].op):=by
 unfold Bh;rw[AD a,BJ];rfl
theorem Ql:∀(E:List SE)(len:Int)(k:Nat)(hk:k<E.length),Jv len E->len<=3000->Jv len (E.take k)/\okOp E[k].op (endE len (E.take k))/\Al E[k].op<=40000/\endE len (E.take k)<=3000/\((0<=len)->0<=endE len (E.take k))
 | [],_,k,hk,_,_=>by simp at hk
 | x :: E,len,0,_,h,hl=>⟨trivial,h.1,h.2.1,hl,λh=>h⟩
 | x :: E,len,k+1,hk,h,hl=>by
  obtain⟨l,g,a,b,m⟩:=h;obtain⟨i,j,o,f,d⟩:=Ql E _ k (by simpa using hk) m b;exact⟨⟨l,g,a,b,i⟩,j,o,f,λ_=>d a⟩
def LT (lo:Nat) (w:World) (p:Option Addr) (n c:Nat) (E:List SE):Prop :=
 n=E.length/\n<=c/\c<=maxLen/\(E≠[]->∃g o,p=some (Ad g o)/\g<w.heap.size/\∀(i:Nat) (x:SE),E[i]?=some x->∃v,w.cell? (Ad g (o+i*3))=some (I6 x.c)/\w.cell? (Ad g (o+i*3+1))=some (I6 x.i)/\w.cell? (Ad g (o+i*3+2))=some v/\Ar lo w v x.op)
theorem Of{e base:Nat}(h:Fa e lo base w (.slice p n c) E):LT lo w p n c E:=by
 by_cases d:E=[]
 . subst d
   obtain⟨F,_,⟨_,b⟩,_⟩:=h
   rcases b with ⟨j,_⟩|⟨g,q,C,j,_,_,l,m,_⟩
   . injection j with k f a
     subst f a;exact⟨rfl,Ai _,AV _,λh=>absurd rfl h⟩
   . injection j with k f a
     subst f a;exact⟨rfl,l,m,λh=>absurd rfl h⟩
 . obtain ⟨g,k,f,a,o,D,l⟩:=Qg h d
   exact ⟨a,o,D,λ_=>⟨g,0,k,f,λi x z=>by
    obtain⟨v,r,s,A,y⟩:=l i x z;rw[DC];exact⟨v,r,s,A,y⟩⟩⟩
theorem jB{w':World}(h:LT lo w p n c E)(a:Bw w w'):LT lo w' p n c E:=by
 obtain⟨z,y,f,j⟩:=h;refine⟨z,y,f,λd=>?_⟩;obtain⟨g,o,k,b,l⟩:=j d;refine⟨g,o,k,AK b a.size,λi x r=>?_⟩;obtain⟨v,m,q,A,s⟩:=l i x r;exact⟨v,(zC a g (o+i*3) b).trans m,(zC a g (o+i*3+1) b).trans q,(zC a g (o+i*3+2) b).trans A,Bt s a⟩
theorem T7{m:Nat}(h:LT lo w p n c E)(z:m<=n):LT lo w (if c=m then p else Option.map (λx=>x.add (m*3)) p) (n - m) (c - m) (E.drop m):=by
 obtain⟨rfl,A,y,f⟩:=h;refine⟨by rw[AM],by omega,by omega,λb=>?_⟩;have a:m<E.length:=by
  rcases CQ m E.length with h|h
  . exact h
  . exact absurd (DT h) b
 obtain⟨g,o,rfl,q,j⟩:=f (λe=>by subst e;simp at a);rw[if_neg (by omega)];refine⟨g,o+m*3,by simp[DG],q,λi x d=>?_⟩;rw[List.getElem?_drop]at d;obtain⟨v,k,l,s,r⟩:=j (m+i) x d;have e:o+m*3+i*3=o+(m+i)*3:=by omega
 rw[e];exact⟨v,k,l,s,r⟩
theorem iJ(lo:Nat)(v:Value)(ps:List Pt)(p:Option Addr)(n c:Nat)(E:List SE)(len:Int)(w:World)(hT:Lib.Utf8Tabs 1 2 w)(hr:Ae w v ps)(hE:LT lo w p n c E)(f:okOp ps len)(I:Al ps<=40000)(J:0<=len)(hl:len<=3000)(A:Jv len E)(hn:n<=1000) :
    Cg 160 #[v,.slice p n c] w λe w'=>∃O,e=.returned (.tuple #[O,.nilIface])/\opN w.heap.size w' O (Bh ps E)/\Bw w w':=by
 have z:ps.length<=100000:=by have:=Rj ps;have:=TV ps f.one;have:=f.long;omega
 have CO:Hid _:=Ts v ps w hr (λq hq=>by have:=Gh q ps hq;omega) (by omega);have HE:Hid (LT lo w p n c E):=hE;have HT:=Aa hT;have HCH:Hid (okOp ps len/\Al ps<=40000/\0<=len/\len<=3000/\Jv len E):=⟨f,I,J,hl,A⟩;obtain⟨h1,h2,h3,_⟩:=hE;have HN:Hid (n=E.length):=h1;unfold maxLen at h3;obtain⟨pv,cv,rfl,_⟩:=hr;have hni:(n:Int)<=1000:=by omega
 clear hT f I J hl A h1 z
 go_enter func160,ntmps160
 go_wp2_with (go_at_call 161;refine AC CO.out ?_;rintro e w1 ⟨v1,rfl,G,N⟩;have HO1:Hid (opN w.heap.size w1 v1 ps):=J6 (Ai _) G;have HB1:=Aa N;clear G N)
 go_loopw [0,14] (λv0 i wr=>∃k:Nat,i=.int .i64 k/\k<=n/\opN w.heap.size wr v0 (Bh ps (E.take k))/\Bw w wr) (λ_ i _=>n - (intOf i).toNat)
 case atStart=>exact⟨0,rfl,AV _,HO1.out,HB1.out⟩
 case round =>
  obtain⟨k,rfl,hk,h,r⟩:=hrel;obtain⟨L0,s⟩:∃L,(Bh ps (E.take k)).length=L:=⟨_,rfl⟩;have m:=h;obtain⟨⟨p0,c0,rfl,_⟩,_⟩:=h;have j:Hid (opN w.heap.size wr (.slice p0 (Bh ps (E.take k)).length c0) (Bh ps (E.take k))):=m;have a:=Aa r;rw[s]
  by_cases X:k<n
  . have d:k<E.length:=by rw[←HN.out];exact X
    have D:E≠[]:=by intro e;rw[e]at d;exact absurd d (AP _)
    have b:=HE.out.2.2.2;obtain⟨g,o,rfl,Z,b⟩:=b D;obtain⟨P,f0,H,F,f3⟩:=b k E[k] (B7 d);have g0:=(zC a.out g (o+k*3) Z).trans f0;have g1:=(zC a.out g (o+k*3+1) Z).trans H;have g2:=(zC a.out g (o+k*3+2) Z).trans F;have HX:Hid (Ae wr P E[k].op):=Ec f3.1 a.out (Ai _);have hki:(k:Int)<(n:Int):=by omega
    obtain⟨c1,c2,c3,c4,c5⟩:=HCH.out;obtain⟨t1,U,t3,t4,t5⟩:=Ql E len k d c5 c4;obtain⟨S,s2⟩:=RC (E.take k) ps len c1 c2 c4 t1;have R:endE len (E.take k)+Al (Bh ps (E.take k))<1000000:=by omega
    have Q:endE len (E.take k)+Al E[k].op<1000000:=by omega
    obtain⟨e1,e2⟩:=S.turn U R Q;have l:Hid (Bh ps (E.take (k+1))=Aq (Bv false (Bh ps (E.take k)) E[k].op)):=YL ps E k d;have CT:Hid (∀y,Bw wr y->Cg 163 #[.slice p0 (Bh ps (E.take k)).length c0,P,.bool false] y λe w'=>∃O,e=.returned (.tuple #[O,.nilIface])/\opN y.heap.size w' O (Bh ps (E.take (k+1)))/\Bw y w'):=λy W=>by
     have H:=S.fine R;have F:=U.fine Q;have:=YH _ P false (Bh ps (E.take k)) E[k].op y (Go.Proofs.Utf8Tabs_below HT.out (a.out.trans (W.mono a.out.size))) (Ec j.out.1 W (Ai _)) (Ec HX.out W (Ai _)) (S.wf R) (U.wf Q) H.len F.len λ_=>⟨H,F⟩;rw[e2,if_pos rfl]at this;rw[l.out];exact this
    have hsh:∃p c,P=.slice p E[k].op.length c:=by obtain⟨p,c,e,_⟩:=HX.out;exact⟨p,c,e⟩
    obtain⟨pe,ce,rfl⟩:=hsh;rw[s]at CT j;generalize E[k].op.length=L1 at *;generalize E[k]=x at *;obtain⟨xc,xi,xo⟩:=x;simp only at g0 g1;clear b f0 H F f3 D c1 c2 c3 c4 c5 t1 U t3 t4 t5 S s2 R Q e1 e2 m r
    go_wp2_with (go_at_call 163;refine(CT.out _ (zA _ _)).mono ?_;rintro e w3 ⟨v3,rfl,K,C⟩;have Y:Hid (Bw w w3):=(a.out.alloc a.out.size _).trans (C.mono (by rw[Bb];have:=a.out.size;omega));have HO3:Hid (opN w.heap.size w3 v3 (Bh ps (E.take (k+1)))):=K.mono (by rw[Bb];have:=a.out.size;omega);clear C K)
    exact⟨⟨k+1,by go_num,by omega,HO3.out,Y.out⟩,by simp[intOf];omega⟩
  . obtain rfl:k=n:=by omega
    have hki:¬((k:Int)<(k:Int)):=by omega
    have l:Hid (E.take k=E):=show _=_ by rw[HN.out];exact BV
    clear m r;go_wp2
    go_ret2
    have:=j.out;rw[s,l.out]at this;exact⟨_,rfl,this,a.out⟩
end
section
variable {w w' : World}{n bm e lo base b : Nat}{M : Cd}{v1 : Value}{E : List SE}{t : List UInt8}{l0 : Int}
theorem sameBut.comp{w w' d:World}{S S':Nat->Prop}(h:sameBut w w' S)(a:sameBut w' d S')(i:∀k,k<w.heap.size->S' k->S k):sameBut w d S :=
 ⟨AF h.1 a.1,λk f g=>(a.2 k (AK f h.1) λe=>g (i k f e)).trans (h.2 k f g),a.os.trans h.os,a.tape.trans h.tape,a.output.trans h.output⟩
theorem C6{w:World}{k:Nat}{d:Array Value}{T:TypeId}{g:Nat×Nat}(h:w.heap[k]?=some (.cells d T g))(f:T≠87):F7 w k:=λi a e=>by
 rw[h]at e;injection e with e;injection e with _ e2;exact f e2
theorem F9{k:Nat}(h:Jl n w k M):∀d T f,w.heap[k]?≠some (.cells d T f):=λd T f e=>by
 obtain⟨D,⟨i,a,g,_⟩,_⟩:=h;rw[g]at e;injection e with e
 cases e
theorem T6(h:Jl n w bm M):bm<w.heap.size:=by
 obtain⟨D,a,_⟩:=h;exact a.lt
theorem J5(h:Fa e lo base w v1 E){k:Nat}(d:v1.ownBlock=some k):base<=k/\k<w.heap.size/\∃i,w.heap[k]?=some (Oc i e):=by
 obtain⟨o,_,m,_⟩:=h
 rcases m.2 with ⟨rfl,_⟩|⟨g,j,l,rfl,f,a,_⟩
 . cases d
 . obtain rfl:g=k:=Bq d
   exact⟨f,(As a),_,a⟩
theorem RP(e lo base:Nat)(w:World):Fa e lo base w (.slice none 0 0) []:=⟨[],rfl,BL _ _ _ _,λi x v a=>by simp at a⟩
theorem Eu{lo:Nat}{w w':World}{v:Value}{ps:List Pt}{S:Nat->Prop}(h:Ar lo w v ps)(a:sameBut w w' S)(f:∀k,k<w.heap.size->S k->lo<=k/\F7 w k):Ar lo w' v ps :=
 P6 (S:=λk=>k<w.heap.size/\S k) h ⟨a.1,λk d g=>a.2 k d λe=>g ⟨d,e⟩,a.os,a.tape,a.output⟩ λk e=>f k e.1 e.2
theorem UF{s vx:Value}{x:SE}(F:e≠87)(r:lo<=base){f:List Value}(l:f.length=E.length)(I:w.ownsRow base e 3 v1 E.length (D8 E f))
    (C:∀(i:Nat) (y:SE) (v:Value),E[i]?=some y->f[i]?=some v->Ar lo w v y.op) (H:Ar lo w vx x.op) (D:w.grownBy w' v1.ownBlock) (g:w'.ownsRow base e 3 s (E.length+1) (D8 E f++[I6 x.c,I6 x.i,vx])):Fa e lo base w' s (E++[x]):=by
 have J:=λk=>J5 (k:=k) ⟨f,l,I,C⟩;have z:sameBut w w' λk=>v1.ownBlock=some k:=IU D λk e=>e;have A:∀k,k<w.heap.size->v1.ownBlock=some k->lo<=k/\F7 w k:=λk _ q=>by
  obtain⟨a,b,K,c⟩:=J k q;exact⟨AF r a,C6 c F⟩
 refine⟨f++[vx],by simp[l],?_,λi y v d m=>?_⟩
 . rw[fc E f l,AA]
   exact g
 . rcases CQ i E.length with o | o
   . rw[AX o]at d
     rw[AX (by omega)]at m;exact Eu (C i y v d m) z A
   . have : i=E.length:=by
       rcases CQ E.length i with h|h
       . rw[AL o]at d
         obtain⟨j,G⟩:∃j,i - E.length=j+1:=⟨i - E.length - 1,by omega⟩;rw[G]at d;simp at d
       . omega
     subst this;rw[AL (Ai _),BP]at d;rw[AL (by omega),l,BP]at m;obtain rfl:x=y:=by simpa using d
     obtain rfl:vx=v:=by simpa using m
     exact Eu H z A
def Ex (lo n:Nat) (w:World) (b bm:Nat) (t:List UInt8) (E:List SE) (M:Cd):Prop :=
 lo<=b/\lo<=bm/\(∃v1,w.heap[b]?=some (Oc #[Sx t,v1,.map (some bm)] 125)/\Fa 109 lo lo w v1 E)/\Jl n w bm M
def IK (lo:Nat) (w:World) (bm k:Nat):Prop:=lo<=k/\(k=bm\/∃cs T,w.heap[k]?=some (Oc cs T)/\(T=125\/T=109))
def Jg (D:List (List UInt8)):List Value:=D.map λd=>Sx d
def Fq (lo n:Nat) (w:World) (b bm:Nat) (D:List (List UInt8)) (E:List SE) (M:Cd):Prop :=
 lo<=b/\lo<=bm/\(∃v0 v1,w.heap[b]?=some (Oc #[v0,v1,.map (some bm)] 67)/\w.ownsRow lo 9 1 v0 D.length (Jg D)/\Fa 58 lo lo w v1 E)/\Jl n w bm M
def Jw (lo:Nat) (w:World) (bm k:Nat):Prop:=lo<=k/\(k=bm\/∃cs T,w.heap[k]?=some (Oc cs T)/\(T=67\/T=58\/T=9))
theorem Cx{w:World}{k:Nat}{i d:Array Value}{T g:TypeId}{j a:Nat×Nat}(h:w.heap[k]?=some (.cells i T j))(f:w.heap[k]?=some (.cells d g a)):T=g:=by
 rw[h]at f;injection f with e;injection e with _ e2
theorem MT(h:Ex lo n w b bm t E M)(a:Bw w w'):Ex lo n w' b bm t E M:=by
 obtain⟨g,i,⟨v1,d,f⟩,j⟩:=h;exact⟨g,i,⟨v1,(a.block b (As d)).trans d,Mb f a⟩,J9 (S:=λ_=>False) j (Cf a _) id⟩
theorem QJ{D:List (List UInt8)}(h:Fq lo n w b bm D E M)(a:Bw w w'):Fq lo n w' b bm D E M:=by
 obtain⟨i,j,⟨l,v1,f,d,g⟩,k⟩:=h;exact⟨i,j,⟨l,v1,(a.block b (As f)).trans f,Fe d a,Mb g a⟩,J9 (S:=λ_=>False) k (Cf a _) id⟩
/-! what is done -/
def D4 (l0:Int) (t:List UInt8) (E:List SE) (rev:Int) (ps:List Pt):Int :=
 if rev<0\/(E.length:Int)<rev then 2 else if 300<=E.length then 4
 else if chkE ps (endE l0 (E.take rev.toNat))≠0 then chkE ps (endE l0 (E.take rev.toNat))
 else if ordE (Bh ps (E.drop rev.toNat)) t≠0 then ordE (Bh ps (E.drop rev.toNat)) t
 else if 2000<(Aj (Bh ps (E.drop rev.toNat)) t).length then 12 else 0
structure Gz (l0:Int) (t:List UInt8) (E:List SE):Prop where
 text:V t
 room:t.length<=2000
 pos:0<=l0
 top:l0<=3000
 chain:Jv l0 E
 last:endE l0 E=t.length
theorem YT:∀(E:List SE)(l0:Int)(x:SE),Jv l0 E->okOp x.op (endE l0 E)->Al x.op<=40000->0<=(x.op.map Dm).sum->(x.op.map Dm).sum<=3000->Jv l0 (E++[x])/\endE l0 (E++[x])=(x.op.map Dm).sum
 | [],l0,x,_,h1,h2,h3,h4=>⟨⟨h1,h2,h3,h4,trivial⟩,rfl⟩
 | y :: E,l0,x,h,h1,h2,h3,h4=>by
  obtain⟨j,d,a,g,k⟩:=h;obtain⟨f,i⟩:=YT E _ x k h1 h2 h3 h4;exact⟨⟨j,d,a,g,f⟩,i⟩
theorem OA:∀(E:List SE)(l0:Int)(k:Nat),Jv l0 E->Jv (endE l0 (E.take k)) (E.drop k)/\endE (endE l0 (E.take k)) (E.drop k)=endE l0 E
 | E,l0,0,h=>⟨h,rfl⟩
 | [],l0,k+1,_=>⟨trivial,rfl⟩
 | y :: E,l0,k+1,h=>OA E _ k h.2.2.2.2
theorem Kw:∀(E:List SE)(l0:Int)(k:Nat),Jv l0 E->0<=l0->l0<=3000->0<=endE l0 (E.take k)/\endE l0 (E.take k)<=3000
 | E,l0,0,_,h,h'=>⟨h,h'⟩
 | [],l0,k+1,_,h,h'=>⟨h,h'⟩
 | y :: E,l0,k+1,h,_,_=>Kw E _ k h.2.2.2.2 h.2.2.1 h.2.2.2.1
theorem Qx(h:Gz l0 t E){ps:List Pt}{k:Nat}(l:Al ps<=40000)(i:chkE ps (endE l0 (E.take k))=0):okOp (Bh ps (E.drop k)) t.length/\Al (Bh ps (E.drop k))=Al ps:=by
 obtain⟨j,f⟩:=OA E l0 k h.chain;obtain⟨m,d⟩:=Kw E l0 k h.chain h.pos h.top;obtain⟨a,g⟩:=RC (E.drop k) ps _ (QL i) l d j;rw[f,h.last]at a;exact⟨a,g⟩
theorem Lr(h:Gz l0 t E){ps:List Pt}{c i rev:Int}(k:Al ps<=40000)(d:D4 l0 t E rev ps=0) :
    Gz l0 (Aj (Bh ps (E.drop rev.toNat)) t) (E++[⟨c,i,Bh ps (E.drop rev.toNat)⟩]):=by
 unfold D4 at d
 split at d
 . cases d
 split at d
 . cases d
 split at d
 . rename_i h1;exact absurd d h1
 rename_i g
 split at d
 . rename_i h1;exact absurd d h1
 rename_i f
 split at d
 . cases d
 rename_i hl
 have g:chkE ps (endE l0 (E.take rev.toNat))=0:=by simpa using g
 have f:ordE (Bh ps (E.drop rev.toNat)) t=0:=by simpa using f
 obtain⟨l,o⟩:=Qx h k g;have j:=JS h.text f;have a:=Uk _ t j.left;obtain⟨m,q⟩:=YT E l0 ⟨c,i,Bh ps (E.drop rev.toNat)⟩ h.chain (by rw[h.last];exact l) (by rw[o];exact k) (by rw[←a];omega) (by rw[←a];omega);exact⟨N8 j.al,by omega,h.pos,h.top,m,by rw[q,a]⟩
end
section
attribute [local go_sem] Oper.semAt_some
theorem ak(lo n:Nat)(w:World)(b bm:Nat)(t:List UInt8)(E:List SE)(M:Cd)(h:Ex lo n w b bm t E M) :
    Cg 93 #[Pd b 0] w λe w'=>w'=w/\∃v1,e=.returned v1/\w.cell? (Ad b 1)=some v1/\Fa 109 lo lo w v1 E:=by
 obtain⟨_,_,⟨v1,d,a⟩,_⟩:=h;obtain⟨p,c,rfl⟩:=Io a;have f:=cQ d 1 rfl;have g:=Aa a;clear d a
 go_enter func93,ntmps93
 go_wp2;go_ret;exact⟨rfl,_,rfl,f,g.out⟩
theorem YA(lo n:Nat)(w:World)(b bm:Nat)(t:List UInt8)(E:List SE)(M:Cd)(h:Ex lo n w b bm t E M) :
    Cg 60 #[Pd b 0] w λe w'=>w'=w/\e=.returned (I6 E.length):=by
 have C:Hid _:=ak lo n w b bm t E M h;clear h
 go_enter func60,ntmps60
 go_wp2_with (go_at_call 93;refine AC C.out ?_;rintro e g ⟨d,v1,rfl,f,a⟩;obtain rfl:=d.symm;obtain⟨p,c,rfl⟩:=Io a;clear f a)
 go_ret;exact⟨rfl,rfl⟩
theorem js(lo n:Nat)(w:World)(b bm:Nat)(t:List UInt8)(E:List SE)(M:Cd)(h:Ex lo n w b bm t E M) :
    Cg 59 #[Pd b 0] w λe w'=>w'=w/\e=.returned (Sx t):=by
 obtain⟨_,_,⟨v1,a,d⟩,_⟩:=h;have f:=cQ a 0 rfl;clear a d
 go_enter func59,ntmps59
 go_wp2;go_ret;exact⟨rfl,rfl⟩
theorem M4{P:Program}{w:World}{t:TypeId}{i:TypeInfo}(h:P.info? t=some i):(typeInfo t).run P w=.ok i w:=by simp[typeInfo,h]
theorem bR{P:Program}{w:World}{t:TypeId}{i:TypeInfo}{z:Value}(h:P.info? t=some i)(a:i.zero=some z):(zeroValue t).run P w=.ok z w:=by
 simp[zeroValue,FU,M4 h,a]
theorem Ns{t:TypeId}{z:Value}(h:(prog.info? t).map (·.zero)=some (some z))(w:World):(zeroValue t).run prog w=.ok z w:=by
 obtain⟨i,d,a⟩:=Option.map_eq_some_iff.1 h;exact bR d a
theorem eV:(prog.info? 208).map (·.zero)=some (some (.agg #[I6 0,I6 0])):=by kernel_rfl
theorem W6(w:World):(zeroValue 208).run prog w=.ok (.agg #[I6 0,I6 0]) w:=Ns eV w
theorem an(lo n:Nat)(w:World)(b bm:Nat)(t:List UInt8)(E:List SE)(M:Cd)(h:Ex lo n w b bm t E M){l0:Int}(j:Gz l0 t E)(k:Nat)(z:k<=E.length)(Z:E.length<=1000) :
    Cg 159 #[Pd b 0,I6 k] w (Rt w (I6 (endE l0 (E.take k)))):=by
 obtain⟨_,_,⟨v1,m,l⟩,_⟩:=h;obtain⟨p,c,rfl⟩:=Io l;have Y:=cQ m 0 rfl;have W:=cQ m 1 rfl
 by_cases A:k=E.length
 . have S:(ByteArray.mk t.toArray).size=t.length:=by simp[ByteArray.size]
   have C:endE l0 (E.take k)=t.length:=by rw[A,BV];exact j.last
   rw[C];subst A;clear m l j C z
   go_enter func159,ntmps159
   go_wp2;go_ret;exact⟨rfl,A9 _ _⟩
 . have f:k<E.length:=by omega
   have i:E≠[]:=by intro e;rw[e]at f;exact absurd f (AP _)
   obtain⟨g,rfl,O,_,_,_,d⟩:=Qg l i;obtain⟨D,_,_,X,y⟩:=d k E[k] (B7 f);obtain⟨I,s,L,N,G⟩:=Ql E l0 k f j.chain j.top;have a:endE l0 (E.take k)+Al E[k].op<1000000:=by omega
   have o:=(s.fine a).len;have H:Hid _:=Jr D E[k].op w y.1 o;have K:Hid ((Be E[k].op).1=endE l0 (E.take k)):=s.lens a;have q:∃p c,D=.slice p E[k].op.length c:=by obtain⟨p,c,e,_⟩:=y.1;exact⟨p,c,e⟩
   obtain⟨U,Q,rfl⟩:=q;have J:((k:Int)==(E.length:Int))=false:=by simp;omega
   have F:(k:Int)<(E.length:Int):=by omega
   generalize endE l0 (E.take k)=R at *;generalize E[k]=x at *;generalize E.length=n at *;clear m l j d I s L N G a y i
   go_enter func159,ntmps159
   go_wp2_with (go_at_call 43;refine AC H.out ?_;rintro e P ⟨rfl,a⟩;have r:=Aa a;clear a)
   go_ret;refine⟨?_,r.out⟩;have:=K.out
   first | rfl | (simp;done) | (rw[←this];rfl) | (subst this;rfl)
variable {lo n b bm : Nat}{w : World}{t : List UInt8}{E : List SE}{M : Cd}{l0 : Int}
theorem ZS:(prog.info? 109).map (λi=>(i.zero,i.size,i.bytes))=some (some (.agg #[I6 0,I6 0,.slice none 0 0]),3,40):=by kernel_rfl
theorem Qc{n:Int}(h:n≠0):Ao n=.iface 30 (I6 n):=if_neg h
def doT (l0:Int) (t:List UInt8) (E:List SE) (rev:Int) (ps:List Pt):List UInt8:=if D4 l0 t E rev ps=0 then Aj (Bh ps (E.drop rev.toNat)) t else t
def doL (l0:Int) (t:List UInt8) (E:List SE) (c i rev:Int) (ps:List Pt):List SE:=if D4 l0 t E rev ps=0 then E++[⟨c,i,Bh ps (E.drop rev.toNat)⟩] else E
theorem Qb{w':World}{c i rev:Int}{ps:List Pt}(h:Ex lo n w b bm t E M)(a:Bw w w')(d:D4 l0 t E rev ps≠0) :
    Ex lo n w' b bm (doT l0 t E rev ps) (doL l0 t E c i rev ps) M/\sameBut w w' (IK lo w bm):=by
 unfold doT doL;rw[if_neg d,if_neg d];exact⟨MT h a,Cf a _⟩
theorem jo(h:Ex lo n w b bm t E M)(c i rev:Int)(v:Value)(f:rev<0\/(E.length:Int)<rev) :
    Cg 122 #[Pd b 0,I6 c,I6 i,I6 rev,v] w (Rt w (Ao 2)):=by
 obtain⟨_,_,⟨v1,a,d⟩,_⟩:=h;obtain⟨p,k,rfl⟩:=Io d;have j:=cQ a 1 rfl;have g:Ao 2=.iface 30 (I6 2):=rfl;rw[g];clear a d g
 by_cases l:rev<0
 . clear f
   go_enter func122,ntmps122
   go_wp2;go_ret;exact⟨rfl,A9 _ _⟩
 . have m:(E.length:Int)<rev:=by omega
   clear f
   go_enter func122,ntmps122
   go_wp2;go_ret;exact⟨rfl,A9 _ _⟩
theorem jn(h:Ex lo n w b bm t E M){l0:Int}(l:Gz l0 t E)(c i:Int)(k:Nat)(v:Value)(ps:List Pt)(C:Lib.Utf8Tabs 1 2 w)(z:Ae w v ps)(j:∀p∈ps,Cp p)(O:ps.length<=1000000)(q:k<=E.length)(P:E.length<300)(A:chkE ps (endE l0 (E.take k))≠0) :
    Cg 122 #[Pd b 0,I6 c,I6 i,I6 (k:Int),v] w (Rt w (Ao (chkE ps (endE l0 (E.take k))))):=by
 have F:Hid _:=an lo n w b bm t E M h l k q (by omega);have m:=Kw E l0 k l.chain l.pos l.top;have s:Hid (∀f,Bw w f->Cg 68 #[v,I6 (endE l0 (E.take k))] f (Rt f (Ao (chkE ps (endE l0 (E.take k)))))):=λf r =>
  L3 v ps _ f (Go.Proofs.Utf8Tabs_below C r) (Ec z r (Ai _)) j (by omega) (by omega)
 obtain⟨_,_,⟨v1,D,y⟩,_⟩:=h;obtain⟨p,N,rfl⟩:=Io y;have L:=cQ D 1 rfl;rw[Qc A]at s ⊢;have H:¬(k:Int)<0:=by omega
 have G:¬(E.length:Int)<(k:Int):=by omega
 have I:¬(300:Int)<=(E.length:Int):=by omega
 obtain⟨K,Q,rfl,_⟩:=z;generalize chkE ps (endE l0 (E.take k))=X at *;generalize endE l0 (E.take k)=R at *;clear D y l C j m A
 go_enter func122,ntmps122
 go_wp2_with (first
  | (go_at_call 159;refine AC F.out ?_;rintro e J ⟨rfl,d⟩;have a:=Aa d;clear d)
  | (go_at_call 68;refine(s.out _ a.out).mono ?_;rintro e S ⟨rfl,g⟩;have o:=Aa (a.out.trans (g.mono a.out.size));clear g))
 go_ret;exact⟨rfl,o.out⟩
theorem eF(h:Ex lo n w b bm t E M)(c i:Int)(k:Nat)(v:Value)(m:k<=E.length)(r:300<=E.length)(j:E.length<=1000) :
    Cg 122 #[Pd b 0,I6 c,I6 i,I6 (k:Int),v] w (Rt w (Ao 4)):=by
 obtain⟨_,_,⟨v1,a,d⟩,_⟩:=h;obtain⟨p,q,rfl⟩:=Io d;have s:=cQ a 1 rfl;have f:Ao 4=.iface 30 (I6 4):=rfl;rw[f];have g:¬(k:Int)<0:=by omega
 have l:¬(E.length:Int)<(k:Int):=by omega
 have o:(300:Int)<=(E.length:Int):=by omega
 clear a d f
 go_enter func122,ntmps122
 go_wp2;go_ret;exact⟨rfl,A9 _ _⟩
def NZ (w:World) (l0:Int) (E:List SE) (k:Nat) (p:Option Addr) (c1:Nat) (v:Value) (ps:List Pt):Prop:=∀wx,Bw w wx->Cg 160 #[v,.slice (if c1=k then p else Option.map (λx=>x.add (k*3)) p) (E.length - k) (c1 - k)] wx λe w'=>∃p' c',e=.returned (.tuple #[.slice p' (Bh ps (E.drop k)).length c',.nilIface])/\opN wx.heap.size w' (.slice p' (Bh ps (E.drop k)).length c') (Bh ps (E.drop k))/\Bw wx w'
def N3 (w:World) (t:List UInt8) (q:List Pt):Prop:=∀wx v',Bw w wx->Ae wx v' q->Cg 44 #[v',Sx t] wx (Rt wx (.tuple #[Sx (if ordE q t=0 then Aj q t else []),Ao (ordE q t)]))
theorem SU(a:Gz l0 t E)(k:Nat){p:Option Addr}{A:Nat}(j:LT lo w p E.length A E){v:Value}{ps:List Pt}(s:Lib.Utf8Tabs 1 2 w)(C:Ae w v ps)(i:Al ps<=40000)(q:k<=E.length)(I:E.length<300)(r:chkE ps (endE l0 (E.take k))=0):NZ w l0 E k p A v ps/\N3 w t (Bh ps (E.drop k)):=by
 have d:=Kw E l0 k a.chain a.pos a.top;obtain⟨z,H⟩:=Qx a i r;have D:=a.room;have g:(t.length:Int)+Al (Bh ps (E.drop k))<1000000:=by omega
 have h:=(z.fine g).len;refine⟨λo f=>?_,λo y f l=>Ug y _ t o (Go.Proofs.Utf8Tabs_below s f) l (z.wf g) (by omega) h (by omega)⟩;refine(iJ lo v ps _ _ _ (E.drop k) (endE l0 (E.take k)) o (Go.Proofs.Utf8Tabs_below s f) (Ec C f (Ai _)) (T7 (jB j f) q) (QL r) i d.1 d.2 (OA E l0 k a.chain).1 (by omega)).mono ?_;rintro e w' ⟨y,rfl,l,m⟩;obtain⟨G,F,rfl,_⟩:=l.1;exact⟨G,F,rfl,l,m⟩
structure GU (lo n:Nat) (w:World) (b bm:Nat) (t:List UInt8) (E:List SE) (M:Cd) (l0:Int) (k:Nat) (v:Value) (ps:List Pt) (p:Option Addr) (c1:Nat):Prop where
 size:Cg 159 #[Pd b 0,I6 k] w (Rt w (I6 (endE l0 (E.take k))))
 check:∀wx,Bw w wx->Cg 68 #[v,I6 (endE l0 (E.take k))] wx (Rt wx .nilIface)
 turn:NZ w l0 E k p c1 v ps
 apply:N3 w t (Bh ps (E.drop k))
 block:w.heap[b]?=some (Oc #[Sx t,.slice p E.length c1,.map (some bm)] 125)
theorem ci(h:Ex lo n w b bm t E M){l0:Int}(a:Gz l0 t E)(k:Nat)(v:Value)(ps:List Pt)(m:Lib.Utf8Tabs 1 2 w)(o:Ae w v ps)(j:∀p∈ps,Cp p)(F:ps.length<=1000000)(i:Al ps<=40000)(d:k<=E.length)(D:E.length<300)(q:chkE ps (endE l0 (E.take k))=0) :
    ∃p f,GU lo n w b bm t E M l0 k v ps p f/\Fa 109 lo lo w (.slice p E.length f) E:=by
 have r:=an lo n w b bm t E M h a k d (by omega);have s:=Kw E l0 k a.chain a.pos a.top;obtain⟨_,_,⟨v1,y,g⟩,_⟩:=h;obtain⟨p,f,rfl⟩:=Io g;obtain⟨A,C⟩:=SU a k (Of g) m o i d D q;refine⟨p,f,⟨r,λz l=>?_,A,C,y⟩,g⟩;have:=L3 v ps (endE l0 (E.take k)) z (Go.Proofs.Utf8Tabs_below m l) (Ec o l (Ai _)) j (by omega) (by omega);rw[q]at this;exact this
theorem jm(c i:Int)(k:Nat)(v:Value)(ps:List Pt){p:Option Addr}{o:Nat}(Y:Ae w v ps)(hkl:k<=E.length)(hn:E.length<300)(U:E.length<=o)(S:GU lo n w b bm t E M l0 k v ps p o)(A:ordE (Bh ps (E.drop k)) t≠0) :
    Cg 122 #[Pd b 0,I6 c,I6 i,I6 (k:Int),v] w (Rt w (Ao (ordE (Bh ps (E.drop k)) t))):=by
 obtain⟨L,O,N,K,z⟩:=S;have W:=Aa L;have Q:Hid (∀D,Bw w D->Cg 68 #[v,I6 (endE l0 (E.take k))] D (Rt D .nilIface)):=O;have F:Hid (NZ w l0 E k p o v ps):=N;have y:Hid (N3 w t (Bh ps (E.drop k))):=K;have s:=(As z);have x0:=cQ z 0 rfl;have x1:=cQ z 1 rfl;have P:Hid (b<w.heap.size):=s;have X0:Hid (w.cell? (Ad b 0)=some (.string ⟨t.toArray⟩)):=x0;have X1:Hid (w.cell? (Ad b 1)=some (.slice p E.length o)):=x1;unfold NZ at F;unfold N3 at y;rw[if_neg A,Qc A]at y;rw[Qc A];have hk0:¬(k:Int)<0:=by omega
 have hk1:¬(E.length:Int)<(k:Int):=by omega
 have hk2:¬(300:Int)<=(E.length:Int):=by omega
 have Z:(k:Int)<=(E.length:Int):=by omega
 obtain⟨pv,cv,rfl,_⟩:=Y;generalize ordE (Bh ps (E.drop k)) t=X at *;generalize endE l0 (E.take k)=R at *;generalize Bh ps (E.drop k)=q at *;obtain⟨qn,G⟩:∃m,q.length=m:=⟨_,rfl⟩;rw[G]at F;have J:Sx []=.string ⟨#[]⟩:=rfl;rw[J]at y;clear z L O N K A s J
 go_enter func122,ntmps122
 go_wp2_with (first
  | (go_at_call 159;refine AC W.out ?_;rintro e w1 ⟨rfl,g⟩;have f:=Aa g;clear g)
  | (go_at_call 68;refine(Q.out _ f.out).mono ?_;rintro e w2 ⟨rfl,j⟩;have d:=Aa (f.out.trans (j.mono f.out.size));have y1:w2.cell? (Ad b 1)=some (.slice p E.length o):=(zC d.out b 1 P.out).trans X1.out;clear j)
  | (go_at_call 160;refine(F.out _ d.out).mono ?_;rintro e I ⟨p',c',rfl,r,h⟩;have H:Hid (Ae I (.slice p' qn c') q):=r.1;have a:=Aa (d.out.trans (h.mono d.out.size));have y0:I.cell? (Ad b 0)=some (.string ⟨t.toArray⟩):=(zC a.out b 0 P.out).trans X0.out;clear h r)
  | (go_at_call 44;refine(y.out _ _ a.out H.out).mono ?_;rintro e w4 ⟨rfl,l⟩;have C:=Aa (a.out.trans (l.mono a.out.size));clear l))
 all_goals
  go_ret;exact⟨rfl,C.out⟩
end
section
variable {w : World}{e TS lo b : Nat}{x0 m v1 : Value}{E : List SE}
theorem Gf{w:World}{b o:Nat}{a:Array Value}{T:TypeId}(h:w.heap[b]?=some (Oc a T)):w.frozen? (Ad b o)=false:=by unfold World.frozen?;simp[h]
theorem Ft{k:Nat}{o o':Obj}(h:w.heap[k]?=some o):(w.alloc o').heap[k]?=some o :=
 (((A9 w.heap.size w).alloc (Ai _) o').block k (As h)).trans h
theorem WC{vx:Value}{x:SE}(H:e≠87)(z:TS≠87)(i:TS≠e)(A:lo<=b)(q:w.heap[b]?=some (Oc #[x0,v1,m] TS))(F:Fa e lo lo w v1 E)(I:Ar lo w vx x.op) :
    ∃ o,o.length=E.length/\(w.alloc (Oc #[I6 x.c,I6 x.i,vx] e)).ownsRow lo e 3 v1 E.length (D8 E o)/\∀d f,d.ownsRow lo e 3 f (E.length+1) (D8 E o++[I6 x.c,I6 x.i,vx])->(w.alloc (Oc #[I6 x.c,I6 x.i,vx] e)).grownBy d v1.ownBlock ->
     d.cell? (Ad b 1)=some v1/\d.frozen? (Ad b 1)=false/\(d.setCell (Ad b 1) f).heap[b]?=some (Oc #[x0,f,m] TS)/\Fa e lo lo (d.setCell (Ad b 1) f) f (E++[x])/\sameBut w (d.setCell (Ad b 1) f) (λk=>k=b\/v1.ownBlock=some k):=by
 have g:Bw w (w.alloc (Oc #[I6 x.c,I6 x.i,vx] e)):=zA _ _;obtain⟨o,C,D,K⟩:=Mb F g;have j:=λk=>J5 (k:=k) F;refine⟨o,C,D,λd f l r=>?_⟩;have J:=UF (x:=x) H (Ai _) C D K (Bt I g) r l;have s:some b≠v1.ownBlock:=λe=>by
  obtain⟨_,_,G,y⟩:=j b e.symm;exact i (Cx q y)
 have a:d.heap[b]?=some (Oc #[x0,v1,m] TS):=(r.block b (Array.getElem?_eq_some_iff.1 (Ft q)).1 s).trans (Ft q);refine⟨Az a 1,Gf a,heap_setCell_same d b 1 _ TS f a,Kc (S:=λk=>k=b) J (B6 rfl) λk L=>?_,?_⟩
 . obtain rfl:=L
   exact⟨A,C6 a z,λG N y=>i (Cx a y)⟩
 . exact((Cf g _).comp (IU (S:=λk=>k=b\/v1.ownBlock=some k) r λk e=>.inr e) λk _ h=>h).comp (B6 (S:=λk=>k=b\/v1.ownBlock=some k) (.inl rfl)) λk _ h=>h
theorem dA{a:Value}{D:List (List UInt8)}{d:List UInt8}(he:e≠87)(J:TS≠87)(L:TS≠e)(Q:TS≠9)(K:e≠9)(N:lo<=b)(r:w.heap[b]?=some (Oc #[a,v1,m] TS))(P:w.ownsRow lo 9 1 a D.length (Jg D))(hl:Fa e lo lo w v1 E) :
    (w.alloc (Oc #[Sx d] 9)).ownsRow lo 9 1 a D.length (Jg D)/\∀f i,f.ownsRow lo 9 1 i (D.length+1) (Jg D++[Sx d])->(w.alloc (Oc #[Sx d] 9)).grownBy f a.ownBlock ->
      f.cell? (Ad b 0)=some a/\f.frozen? (Ad b 0)=false/\(f.setCell (Ad b 0) i).heap[b]?=some (Oc #[i,v1,m] TS)/\(f.setCell (Ad b 0) i).ownsRow lo 9 1 i (D++[d]).length (Jg (D++[d]))/\Fa e lo lo (f.setCell (Ad b 0) i) v1 E/\sameBut w (f.setCell (Ad b 0) i) (λk=>k=b\/a.ownBlock=some k):=by
 have s:Bw w (w.alloc (Oc #[Sx d] 9)):=zA _ _;have W:=Fe P s
 have y:∀k,a.ownBlock=some k->lo<=k/\∃z,w.heap[k]?=some (Oc z 9):=λk l=>by
  rcases P.2 with ⟨rfl,_⟩|⟨g,F,I,rfl,U,C,_⟩
  . cases l
  . obtain rfl:g=k:=Bq l
    exact⟨U,_,C⟩
 refine⟨W,λf i o O=>?_⟩;have H:some b≠a.ownBlock:=λe=>by
  obtain⟨_,z,q⟩:=y b e.symm;exact Q (Cx r q)
 have j:f.heap[b]?=some (Oc #[a,v1,m] TS):=(O.block b (Array.getElem?_eq_some_iff.1 (Ft r)).1 H).trans (Ft r);have R:sameBut w (f.setCell (Ad b 0) i) (λk=>k=b\/a.ownBlock=some k):=((Cf s _).comp (IU (S:=λk=>k=b\/a.ownBlock=some k) O λk e=>.inr e) λk _ h=>h).comp (B6 (S:=λk=>k=b\/a.ownBlock=some k) (.inl rfl)) λk _ h=>h;refine⟨Az j 0,Gf j,heap_setCell_same f b 0 _ TS i j,?_,Kc hl R λk l=>?_,R⟩
 . have Z:Jg (D++[d])=Jg D++[Sx d]:=by simp[Jg]
   rw[Z,AA];refine GZ (S:=λk=>k=b) o (B6 rfl) λk l A=>?_;obtain rfl:=A
   rcases o.2 with ⟨_,Y⟩|⟨g,F,I,e,U,C,_⟩
   . exact absurd Y (Nat.succ_ne_zero _)
   . subst e
     obtain rfl:g=k:=Bq l;exact Q (Cx j C)
 . rcases l with rfl | l
   . exact⟨N,C6 r J,λz X q=>L (Cx r q)⟩
   . obtain⟨k1,z,q⟩:=y k l
     exact⟨k1,C6 q (by decide),λcs' X G=>K (Cx q G).symm⟩
theorem dM(g:TS≠87)(d:TS≠e)(f:lo<=b)(a:w.heap[b]?=some (Oc #[x0,v1,m] TS))(i:Fa e lo lo w v1 E)(u:Value) :
    w.frozen? (Ad b 0)=false/\(w.setCell (Ad b 0) u).heap[b]?=some (Oc #[u,v1,m] TS)/\Fa e lo lo (w.setCell (Ad b 0) u) v1 E :=
 ⟨Gf a,heap_setCell_same w b 0 _ TS u a,Kc (S:=λk=>k=b) i (B6 rfl) λk h=>by
  obtain rfl:=h;exact⟨f,C6 a g,λl o j=>d (Cx a j)⟩⟩
end
section
attribute [local go_sem] Oper.semAt_some
variable {lo n b bm : Nat}{w : World}{t : List UInt8}{E : List SE}{M : Cd}{l0 : Int}
theorem Qz(a b:Int)(p:Option Addr)(n c:Nat):∀u∈[I6 a,I6 b,.slice p n c],u.oneCell'=true:=λu d=>by
 simp only[DR,List.mem_nil_iff,or_false]at d
 rcases d with rfl|rfl|rfl<;>rfl
theorem iF(c i:Int)(k:Nat)(v:Value)(ps:List Pt){p:Option Addr}{D:Nat}(X:Ae w v ps)(hkl:k<=E.length)(hn:E.length<300)(Q:E.length<=D)(S:GU lo n w b bm t E M l0 k v ps p D)(G:ordE (Bh ps (E.drop k)) t=0)(hz:2000<(Aj (Bh ps (E.drop k)) t).length) :
    Cg 122 #[Pd b 0,I6 c,I6 i,I6 (k:Int),v] w (Rt w (Ao 12)):=by
 obtain⟨J,L,K,I,s⟩:=S;have U:=Aa J;have P:=Aa L;have z:=Aa K;have F:=Aa I;have r:=(As s);have x0:=cQ s 0 rfl;have x1:=cQ s 1 rfl;have N:=Aa r;have Z:=Aa x0;have X1:=Aa x1;unfold NZ at z;unfold N3 at F;rw[if_pos G,G,show Ao 0=.nilIface from rfl]at F;have H:Ao 12=.iface 30 (I6 12):=rfl;rw[H];have hk0:¬(k:Int)<0:=by omega
 have hk1:¬(E.length:Int)<(k:Int):=by omega
 have hk2:¬(300:Int)<=(E.length:Int):=by omega
 have Y:(k:Int)<=(E.length:Int):=by omega
 obtain⟨pv,cv,rfl,_⟩:=X;generalize endE l0 (E.take k)=R at *;generalize Bh ps (E.drop k)=q at *;generalize Aj q t=s' at *;have W:(ByteArray.mk s'.toArray).size=s'.length:=by simp[ByteArray.size]
 have hz2:(2000:Int)<(s'.length:Int):=by omega
 obtain⟨qn,A⟩:∃m,q.length=m:=⟨_,rfl⟩;rw[A]at z;clear s J L K I G r H hz
 go_enter func122,ntmps122
 go_wp2_with (first
  | (go_at_call 159;refine AC U.out ?_;rintro e w1 ⟨rfl,g⟩;have f:=Aa g;clear g)
  | (go_at_call 68;refine(P.out _ f.out).mono ?_;rintro e w2 ⟨rfl,j⟩;have d:=Aa (f.out.trans (j.mono f.out.size));have y1:w2.cell? (Ad b 1)=some (.slice p E.length D):=(zC d.out b 1 N.out).trans X1.out;clear j)
  | (go_at_call 160;refine(z.out _ d.out).mono ?_;rintro e O ⟨p',c',rfl,o,h⟩;have C:=Aa o.1;have a:=Aa (d.out.trans (h.mono d.out.size));have y0:O.cell? (Ad b 0)=some (Sx t):=(zC a.out b 0 N.out).trans Z.out;clear h o)
  | (go_at_call 44;refine(F.out _ _ a.out C.out).mono ?_;rintro e w4 ⟨rfl,l⟩;have y:=Aa (a.out.trans (l.mono a.out.size));clear l))
 all_goals
  go_ret;exact⟨rfl,y.out⟩
theorem bU(c i:Int)(k:Nat)(v:Value)(ps:List Pt){p:Option Addr}{g:Nat}(hr:Ae w v ps)(hkl:k<=E.length)(hn:E.length<300)(hc1:E.length<=g)(S:GU lo n w b bm t E M l0 k v ps p g)(ho:ordE (Bh ps (E.drop k)) t=0)(hz:(Aj (Bh ps (E.drop k)) t).length<=2000)(hs:Ex lo n w b bm t E M)(I:Fa 109 lo lo w (.slice p E.length g) E) :
    Cg 122 #[Pd b 0,I6 c,I6 i,I6 (k:Int),v] w λe w'=>e=.returned .nilIface/\Ex lo n w' b bm (Aj (Bh ps (E.drop k)) t) (E++[⟨c,i,Bh ps (E.drop k)⟩]) M/\sameBut w w' (IK lo w bm):=by
 obtain⟨s1,s2,s3,s4,J⟩:=S;have CS:=Aa s1;have CC:=Aa s2;have CT:=Aa s3;have CA:=Aa s4;have C:=(As J);have x0:=cQ J 0 rfl;have x1:=cQ J 1 rfl;have HB:=Aa C;have X0:=Aa x0;have X1:=Aa x1;unfold NZ at CT;unfold N3 at CA;rw[if_pos ho,ho,show Ao 0=.nilIface from rfl]at CA;have hk0:¬(k:Int)<0:=by omega
 have hk1:¬(E.length:Int)<(k:Int):=by omega
 have hk2:¬(300:Int)<=(E.length:Int):=by omega
 have hk3:(k:Int)<=(E.length:Int):=by omega
 obtain⟨i0,hi,hq0,hq1,hq2⟩:=info_parts ZS
 have Q:Hid (∀(q:List Pt) (l:List UInt8) j L,Bw w j->Ar lo j L q->j.frozen? (Ad b 0)=false/\(j.setCell (Ad b 0) (Sx l)).cell? (Ad b 1)=some (.slice p E.length g)/\∃K,K.length=E.length/\((j.setCell (Ad b 0) (Sx l)).alloc (Oc #[I6 c,I6 i,L] 109)).ownsRow lo 109 3 (.slice p E.length g) E.length (D8 E K)/\∀o y,o.ownsRow lo 109 3 y (E.length+1) (D8 E K++[I6 c,I6 i,L])->((j.setCell (Ad b 0) (Sx l)).alloc (Oc #[I6 c,I6 i,L] 109)).grownBy o (Value.slice p E.length g).ownBlock ->
     o.cell? (Ad b 1)=some (.slice p E.length g)/\o.frozen? (Ad b 1)=false/\Ex lo n (o.setCell (Ad b 1) y) b bm l (E++[⟨c,i,q⟩]) M/\sameBut w (o.setCell (Ad b 1) y) (IK lo w bm)):=λq l j L a hx=>by
  obtain⟨U,g2,_,g4⟩:=hs;have A:j.heap[b]?=some (Oc #[Sx t,.slice p E.length g,.map (some bm)] 125):=(a.block b C).trans J;obtain⟨t1,t2,t3⟩:=dM (e:=109) (by decide) (by decide) U A (Mb I a) (Sx l);obtain⟨K,u1,u2,u3⟩:=WC (x:=⟨c,i,q⟩) (vx:=L) (by decide) (by decide) (by decide) U t2 t3 (Eu hx (B6 (S:=λk=>k=b) rfl) λk _ r=>by obtain rfl:=r;exact⟨U,C6 A (by decide)⟩);refine⟨t1,Az t2 1,K,u1,u2,λo y hn6 hg6=>?_⟩;obtain⟨y1,y2,X,Y,y5⟩:=u3 o y hn6 hg6;have hS:sameBut w (o.setCell (Ad b 1) y) (λk=>k=b\/(Value.slice p E.length g).ownBlock=some k):=((Cf a _).comp (B6 (S:=λk=>k=b\/(Value.slice p E.length g).ownBlock=some k) (.inl rfl)) λk _ h=>h).comp y5 λk _ h=>h
  have d:∀k,(k=b\/(Value.slice p E.length g).ownBlock=some k)->lo<=k/\∃Z T,w.heap[k]?=some (Oc Z T)/\(T=125\/T=109):=λk r=>by
   rcases r with rfl|r
   . exact⟨U,_,_,J,.inl rfl⟩
   . obtain⟨a1,_,Z,a2⟩:=J5 I r
     exact⟨a1,Z,_,a2,.inr rfl⟩
  refine⟨y1,y2,⟨U,g2,⟨y,X,Y⟩,J9 g4 hS λr=>?_⟩,hS.mono λk _ r=>⟨(d k r).1,.inr (d k r).2⟩⟩;obtain⟨_,Z,T,hc,_⟩:=d bm r;exact F9 g4 _ _ _ hc
 obtain⟨pv,cv,rfl,_⟩:=hr;generalize endE l0 (E.take k)=R at *;generalize Bh ps (E.drop k)=q at *;generalize Aj q t=l at *;have hz1:(ByteArray.mk l.toArray).size=l.length:=by simp[ByteArray.size]
 have hz2:¬(2000:Int)<(l.length:Int):=by omega
 obtain⟨qn,hqn⟩:∃m,q.length=m:=⟨_,rfl⟩;rw[hqn]at CT;have HLO:Hid (lo<=b):=hs.1;clear J s1 s2 s3 s4 ho C hz hs I
 go_enter func122,ntmps122
 go_wp2_with (first
  | (go_at_call 159;refine AC CS.out ?_;rintro e w1 ⟨rfl,W⟩;have H:=Aa W;clear W)
  | (go_at_call 68;refine(CC.out _ H.out).mono ?_;rintro e w2 ⟨rfl,P⟩;have z:=Aa (H.out.trans (P.mono H.out.size));have y1:w2.cell? (Ad b 1)=some (.slice p E.length g):=(zC z.out b 1 HB.out).trans X1.out;clear P)
  | (go_at_call 160;refine(CT.out _ z.out).mono ?_;rintro e w3 ⟨p',c',rfl,D,N⟩;have HO3:=Aa D.1;have HX3:Hid (Ar lo w3 (.slice p' qn c') q):=Ev D;have s:=Aa (z.out.trans (N.mono z.out.size));have y0:w3.cell? (Ad b 0)=some (Sx t):=(zC s.out b 0 HB.out).trans X0.out;clear N D)
  | (go_at_call 44;refine(CA.out _ _ s.out HO3.out).mono ?_;rintro e j ⟨rfl,a⟩;have G:=Aa (s.out.trans (a.mono s.out.size));obtain⟨zf,z1,K,z2,z3,z4⟩:=Q.out q l j _ G.out (Bt HX3.out a);have Z3:=Aa z3;have Z4:=Aa z4;have z0:j.cell? (Ad b 0)=some (Sx t):=(zC G.out b 0 HB.out).trans X0.out;have HLS:Hid (lo<=b/\b<j.heap.size):=⟨HLO.out,AK HB.out G.out.size⟩;clear a z3 z4)
  | (at_builtin;refine wpList_append_own _ rfl _ _ 123 rfl lo 109 i0 (.agg #[I6 0,I6 0,.slice none 0 0]) 3 40 underlying123 hi hq0 hq1 hq2 rfl (by decide) _ _ _ rfl Z3.out (Ad j.heap.size 0) 1 1 [I6 c,I6 i,.slice p' qn c'] rfl rfl (Me _ _ (by first | rfl | simp) _ _) (Qz _ _ _ _ _) (by unfold maxLen;omega) (by omega) (by have:=HLS.out;simp;omega) ?_))
 all_goals
  intro y o f F _
  have O:((j.setCell (Ad b 0) (Sx l)).alloc (Oc #[I6 c,I6 i,.slice p' qn c'] 109)).grownBy o (Value.slice p E.length g).ownBlock:=by
   first
    | exact F
    | (have e:g=k:=by assumption
       rw[e];exact F)
  obtain⟨y1,y2,X,Y⟩:=Z4.out o y f O;have Y3:=Aa X;have Y4:=Aa Y;obtain⟨p6,c6,rfl⟩:=Bm f;clear f F O X Y;go_wp2;go_ret;exact⟨rfl,Y3.out,Y4.out⟩
end
section
attribute [local go_sem] Oper.semAt_some
variable {lo n b bm : Nat}{w : World}{t : List UInt8}{E : List SE}{M : Cd}
theorem eE(h:Ex lo n w b bm t E M){l0:Int}(H:Gz l0 t E)(c i rev:Int)(v:Value)(ps:List Pt)(G:Lib.Utf8Tabs 1 2 w)(s:Ae w v ps)(y:∀p∈ps,Cp p)(I:ps.length<=1000000)(D:Al ps<=40000)(r:E.length<=300) :
    Cg 122 #[Pd b 0,I6 c,I6 i,I6 rev,v] w λe w'=>e=.returned (Ao (D4 l0 t E rev ps))/\Ex lo n w' b bm (doT l0 t E rev ps) (doL l0 t E c i rev ps) M/\sameBut w w' (IK lo w bm):=by
 by_cases l:rev<0\/(E.length:Int)<rev
 . have a:D4 l0 t E rev ps=2:=if_pos l
   refine(jo h c i rev v l).mono ?_;rintro e w' ⟨rfl,g⟩;exact⟨by rw[a],Qb h g (by rw[a];decide)⟩
 . obtain ⟨k,rfl⟩:∃k:Nat,rev=(k:Int):=⟨rev.toNat,by omega⟩
   have f:k<=E.length:=by omega
   have C:((k:Int)).toNat=k:=rfl
   by_cases d:300<=E.length
   . have a:D4 l0 t E k ps=4:=by
       unfold D4;rw[if_neg l,if_pos d]
     refine(eF h c i k v f d (by omega)).mono ?_;rintro e w' ⟨rfl,g⟩;exact⟨by rw[a],Qb h g (by rw[a];decide)⟩
   have A:¬(300<=E.length):=d;have r:E.length<300:=by omega
   by_cases o:chkE ps (endE l0 (E.take k))=0
   . obtain ⟨p,J,S,z⟩:=ci h H k v ps G s y I D f r o
     have j:E.length<=J:=(Of z).2.1
     by_cases q:ordE (Bh ps (E.drop k)) t=0
     . by_cases F:2000<(Aj (Bh ps (E.drop k)) t).length
       . have a:D4 l0 t E k ps=12:=by
           unfold D4;rw[if_neg l,if_neg A,C,if_neg (by rw[o];decide),if_neg (by rw[q];decide),if_pos F]
         refine(iF c i k v ps s f r j S q F).mono ?_;rintro e w' ⟨rfl,g⟩;exact⟨by rw[a],Qb h g (by rw[a];decide)⟩
       . have a:D4 l0 t E k ps=0:=by
           unfold D4;rw[if_neg l,if_neg A,C,if_neg (by rw[o];decide),if_neg (by rw[q];decide),if_neg F]
         refine(bU c i k v ps s f r j S q (by omega) h z).mono ?_;rintro e w' ⟨rfl,ha,g⟩;refine⟨by rw[a];rfl,?_,g⟩;unfold doT doL;rw[if_pos a,if_pos a];exact ha
     . have a:D4 l0 t E k ps=ordE (Bh ps (E.drop k)) t:=by
         unfold D4;rw[if_neg l,if_neg A,C,if_neg (by rw[o];decide),if_pos q]
       refine(jm c i k v ps s f r j S q).mono ?_;rintro e w' ⟨rfl,g⟩;exact⟨by rw[a],Qb h g (by rw[a];exact q)⟩
   . have a:D4 l0 t E k ps=chkE ps (endE l0 (E.take k)):=by
       unfold D4;rw[if_neg l,if_neg A,C,if_pos o]
     refine(jn h H c i k v ps G s y I f r o).mono ?_;rintro e w' ⟨rfl,g⟩;exact⟨by rw[a],Qb h g (by rw[a];exact o)⟩
theorem ao(n:Int)(w:World)(a:F6 w):Cg 66 #[Ao n] w (Rt w (I6 n)):=by
 unfold Ao
 by_cases h:n=0
 . subst h
   rw[if_pos rfl];refine(Wi w).mono ?_;rintro e w' ⟨rfl,rfl⟩;exact⟨rfl,A9 _ _⟩
 . rw[if_neg h]
   exact ZG n w a
theorem iG(bm:Nat)(w:World):(binOp .eql 122 (.map (some bm)) (.map none)).run prog w=.ok (.bool false) w:=by kernel_rfl
attribute [local go_sem] iG
theorem jr(h:Ex lo n w b bm t E M)(c i rev:Int)(s:IW c)(v:Value)(f:i<=(Ew M c).1) :
    Cg 89 #[Pd b 0,I6 c,I6 i,I6 rev,v] w (Rt w (Ao (if i<(Ew M c).1 then 8 else (Ew M c).2))):=by
 obtain⟨_,_,⟨v1,g,q⟩,o⟩:=h;have z:=cQ g 2 rfl;have L:Hid _:=ZU o (t:=122) underlying122 (W6 w) s;obtain⟨r,d⟩:∃x,Ew M c=x:=⟨_,rfl⟩;rw[d]at f L ⊢;obtain⟨j,k⟩:=r;simp only at f L ⊢;clear g q o
 by_cases l:i<j
 . rw[if_pos l,show Ao 8=.iface 30 (I6 8) from rfl]
   go_enter func89,ntmps89
   go_wp2_with (rw[L.out])
   go_ret;exact⟨rfl,zA _ _⟩
 . rw [if_neg l]
   have A:¬j<i:=by omega
   by_cases a:k=0
   . subst a
     rw[show Ao 0=.nilIface from rfl]
     go_enter func89,ntmps89
     go_wp2_with (rw[L.out])
     go_ret;exact⟨rfl,zA _ _⟩
   . rw[Qc a]
     have y:(k==0)=false:=by simpa using a
     go_enter func89,ntmps89
     go_wp2_with (rw[L.out])
     go_ret;exact⟨rfl,zA _ _⟩
theorem Sz{lo n:Nat}{w w':World}{b bm:Nat}{t:List UInt8}{E:List SE}{M:Cd}{S:Nat->Prop}(h:Ex lo n w b bm t E M)(i:sameBut w w' S)(q:∀k,k<w.heap.size->S k->lo<=k/\∃j T l,w.heap[k]?=some (.cells j T l)/\T≠87/\T≠125/\T≠109):Ex lo n w' b bm t E M:=by
 obtain⟨y,A,⟨v1,r,z⟩,s⟩:=h;have f:sameBut w w' (λk=>k<w.heap.size/\S k):=⟨i.1,λk d H=>i.2 k d λe=>H ⟨d,e⟩,i.os,i.tape,i.output⟩;refine⟨y,A,⟨v1,(f.2 b (As r) λd=>?_).trans r,Kc z f λk d=>?_⟩,J9 s f λd=>?_⟩
 . obtain⟨_,j,T,l,g,_,G,_⟩:=q b d.1 d.2
   exact G (Cx r g).symm
 . obtain⟨a,j,T,l,g,D,_,F⟩:=q k d.1 d.2
   exact⟨a,C6 g D,λI C o=>F (Cx g o)⟩
 . obtain⟨_,j,T,l,g,_⟩:=q bm d.1 d.2
   exact F9 s _ _ _ g
theorem ZL{w w':World}{S:Nat->Prop}(h:F6 w)(a:sameBut w w' S)(d:¬S 0):F6 w':=NK a h d
theorem Sq{w w':World}{S:Nat->Prop}(h:Lib.Utf8Tabs 1 2 w)(a:sameBut w w' S)(j:¬S 1)(f:¬S 2):Lib.Utf8Tabs 1 2 w' :=
 ⟨λc g=>NK a (h.1 c g) j,λi d=>⟨NK a (h.2 i d).1 f,NK a (h.2 i d).2 f⟩⟩
theorem jq(h:Ex lo n w b bm t E M){l0:Int}(f:Gz l0 t E)(c i rev:Int)(F:IW c)(v:Value)(ps:List Pt)(hg:F6 w)(hG:0<lo)(hT:Lib.Utf8Tabs 1 2 w)(hr:Ae w v ps)(O:∀p∈ps,Cp p)(hl:ps.length<=1000000)(Z:Al ps<=40000)(hn:E.length<=300)(hnn:n<1000000000)(hi:(Ew M c).1<i) :
    Cg 89 #[Pd b 0,I6 c,I6 i,I6 rev,v] w λe w'=>e=.returned (Ao (D4 l0 t E rev ps))/\Ex lo (n+1) w' b bm (doT l0 t E rev ps) (doL l0 t E c i rev ps) (Je M c (i,D4 l0 t E rev ps))/\sameBut w w' (IK lo w bm):=by
 have CD:Hid (∀Q,Bw w Q->Cg 122 #[Pd b 0,I6 c,I6 i,I6 rev,v] Q λe w'=>e=.returned (Ao (D4 l0 t E rev ps))/\Ex lo n w' b bm (doT l0 t E rev ps) (doL l0 t E c i rev ps) M/\sameBut Q w' (IK lo Q bm)):=λQ hb =>
  eE (MT h hb) f c i rev v ps (Go.Proofs.Utf8Tabs_below hT hb) (Ec hr hb (Ai _)) O hl Z hn
 have HG:Hid (F6 w/\0<lo):=⟨hg,hG⟩;have hsh:∃p c,v=.slice p ps.length c:=by obtain⟨p,c,e,_⟩:=hr;exact⟨p,c,e⟩
 obtain⟨pv,cv,rfl⟩:=hsh;obtain⟨hlo,_,⟨v1,h3,h4⟩,h5⟩:=h;have x2:=cQ h3 2 rfl;have L:Hid _:=ZU h5 (t:=122) underlying122 (W6 w) F;have HLS:Hid (lo<=w.heap.size):=CW (DV hlo (As h3));have HC:Hid (IW c):=F;obtain⟨gp,P⟩:∃x,Ew M c=x:=⟨_,rfl⟩;rw[P]at hi L;obtain⟨G,K⟩:=gp;simp only at hi L;have I:¬i<G:=by omega
 obtain⟨a,A⟩:∃a,w.heap.size=a:=⟨_,rfl⟩;have X:Hid (w.heap.size=a):=A;generalize hd:D4 l0 t E rev ps=d at *;generalize doT l0 t E rev ps=t' at *;generalize doL l0 t E c i rev ps=E' at *;have hbβ:b≠a:=λe=>Nat.lt_irrefl _ (by have:=(As h3);rw[A,←e]at this;exact this)
 have BOX:Hid (∀H q,sameBut (w.alloc (Oc #[I6 G,I6 K] 208)) H (IK lo (w.alloc (Oc #[I6 G,I6 K] 208)) bm)->Ex lo n H b bm t' E' M->Bw H q->q.heap[a]?=some (Oc #[I6 G,I6 K] 208)/\q.cell? (Ad b 2)=some (.map (some bm))/\Ex lo n q b bm t' E' M/\sameBut w q (IK lo w bm)):=λH q l hi1 g=>by
  have hal:=heap_alloc_new w (Oc #[I6 G,I6 K] 208);have C:Bw w (w.alloc (Oc #[I6 G,I6 K] 208)):=zA _ _;have I:=MT hi1 g
  have j:H.heap[a]?=some (Oc #[I6 G,I6 K] 208):=by
   rw[←A];refine(l.2 _ (by simp) λf=>?_).trans hal
   rcases f.2 with e|⟨cs,T,F,ht⟩
   . exact F9 (J9 (S:=λ_=>False) h5 (Cf C _) id) _ _ _ (e ▸ hal)
   . have:=Cx hal F
     subst this;revert ht;decide
  obtain⟨_,_,⟨v2,z,_⟩,_⟩:=id I;refine⟨(g.block a (As j)).trans j,Az z 2,I,?_⟩;refine((Cf C (IK lo w bm)).comp l λk f hS=>⟨hS.1,hS.2.imp id λ⟨cs,T,F,ht⟩=>⟨cs,T,(C.block k f).symm.trans F,ht⟩⟩).comp (Cf g (λ_=>False)) λ_ _ h=>h.elim
 clear h3 h4 h5 P f hg hG hT hr O hl Z hn F hlo
 go_enter func89,ntmps89
 go_wp2_with (first
  | (rw[L.out])
  | (go_at_call 122;refine(CD.out _ (zA _ _)).mono ?_;rintro e H ⟨rfl,l,j⟩;have HS1:=Aa l;have HB1:=Aa j;have HGW:Hid (F6 H):=ZL (OS HG.out.1 (zA _ _)) j (λf=>absurd f.1 (Nat.not_le.2 HG.out.2));clear l j)
  | (go_at_call 66;refine(ao d _ HGW.out).mono ?_;rintro e q ⟨rfl,g⟩;obtain⟨N,b2,b3,b4⟩:=BOX.out _ q HB1.out HS1.out g;have B1:=Aa N;have B3:=Aa b3;have B4:=Aa b4;have x0:=cQ N 0 rfl;have x1:=cQ N 1 rfl;have f0:=fZ N 0;have f1:=fZ N 1;clear g N b3 b4))
 obtain⟨W,hW⟩:∃W,W=(q.setCell (Ad a 0) (I6 i)).setCell (Ad a 1) (I6 d):=⟨_,rfl⟩;have J:W.heap[a]?=some (Oc #[I6 i,I6 d] 208):=by
  rw[hW];exact heap_setCell_same _ a 1 _ _ _ (heap_setCell_same _ a 0 _ _ _ B1.out)
 have D:sameBut q W (λk=>k=a):=by rw[hW];exact(B6 (S:=λk=>k=a) rfl).trans (B6 (S:=λk=>k=a) rfl)
 have y:lo<=a:=X.out ▸ HLS.out;have HW:Hid (Ex lo n W b bm t' E' M):=Sz B3.out D λk _ f=>by
  obtain rfl:=f;exact⟨y,_,_,_,B1.out,by decide,by decide,by decide⟩
 rw[←hW];have HSW:Hid (sameBut w W (IK lo w bm)):=sameBut.comp B4.out D λk f e=>by
  have:=X.out;omega
 have Y:∃v1,W.heap[b]?=some (Oc #[Sx t',v1,.map (some bm)] 125):=by
  obtain⟨_,_,⟨v1,z,_⟩,_⟩:=HW.out;exact⟨v1,z⟩
 obtain⟨v3,hY⟩:=Y;have y2:=cQ hY 2 rfl;have z0:=cQ J 0 rfl;have z1:=cQ J 1 rfl;have hLd:Jl n W.drew bm M:=HW.out.2.2.2;obtain⟨w5,s,U,ht5⟩:=Zc hLd (by omega) (t:=122) underlying122 HC.out i d;have o:sameBut W w5 (λk=>k=bm):=have h:sameBut W.drew w5 (λk=>k=bm):=av (w:=W.drew) ht5 rfl;⟨h.1,h.2,h.os,h.tape,h.output⟩;have hβm:a≠bm:=λe=>F9 HW.out.2.2.2 _ _ _ (e ▸ J);have W5:w5.heap[a]?=some (Oc #[I6 i,I6 d] 208):=(o.2 a (As J) hβm).trans J;have u1:=cQ W5 1 rfl;have R:Hid (Ex lo (n+1) w5 b bm t' E' (Je M c (i,d))/\sameBut w w5 (IK lo w bm)):=by
  obtain⟨e1,e2,⟨v4,z,e4⟩,e5⟩:=HW.out;refine⟨⟨e1,e2,⟨v4,(o.2 b (As z) λe=>F9 e5 _ _ _ (e ▸ z)).trans z,Kc e4 o λk f=>?_⟩,U⟩,sameBut.comp HSW.out o λk _ f=>by obtain rfl:=f;exact⟨e2,.inl rfl⟩⟩;obtain rfl:=f;exact⟨e2,λcs fz=>F9 e5 _ _ _,λcs fz=>F9 e5 _ _ _⟩
 have r:=Aa s;clear hW J D hLd s U ht5 o W5 hY x0 x1 f0 f1 b2
 by_cases hz:d=0
 . subst hz
   rw[show Ao 0=.nilIface from rfl]at *
   go_region_with (rw[r.out])
   all_goals
    go_wp2;go_ret;exact⟨rfl,R.out⟩
 . have hz2:(d==0)=false:=by simpa using hz
   go_region_with (rw[r.out])
   all_goals
    go_wp2;go_ret;refine⟨?_,R.out⟩
    first | rfl | (rw[Qc hz];rfl)
end
section
attribute [local go_sem] Oper.semAt_some
theorem eG{lo n:Nat}{w:World}{b bm:Nat}{t:List UInt8}{E:List SE}{M:Cd}(h:Ex lo n w b bm t E M){l0:Int}(hok:Gz l0 t E)(k:Nat)(hk:k<=E.length)(hn:E.length<=1000) :
    Cg 123 #[Pd b 0,I6 (k:Int)] w λe w'=>∃v',e=.returned (.tuple #[v',.nilIface])/\Fa 109 lo w.heap.size w' v' (E.drop k)/\Bw w w':=by
 have CR:Hid _:=YA lo n w b bm t E M h;have CD:Hid _:=ak lo n w b bm t E M h;obtain⟨hlo,_,⟨v1,h3,h4⟩,_⟩:=h;obtain⟨p,c1,rfl⟩:=Io h4;have x1:=cQ h3 1 rfl;have HX1:=Aa x1;have HE:=Aa (T7 (Of h4) hk);have HLO:Hid (lo<=w.heap.size):=CW (DV hlo (As h3));have hc1:=(Of h4).2.1;have HOK:Hid (∀x∈E.drop k,(∀q∈x.op,q.put.length<=10000000)/\x.op.length<=10000000):=λx hx=>by
  obtain⟨j,hj,rfl⟩:=List.getElem_of_mem (DJ hx);obtain⟨t1,t2,t3,t4,t5⟩:=Ql E l0 j hj hok.chain hok.top;have hb1:endE l0 (E.take j)+Al E[j].op<1000000:=by omega
  exact⟨λq hq=>by have:=Gh q _ hq;omega,CW (t2.fine hb1).len⟩
 have hdl:(E.drop k).length=E.length - k:=AM;generalize hF:E.drop k=F at *;have h0:¬(k:Int)<0:=by omega
 have h1:¬(E.length:Int)<(k:Int):=by omega
 have h2:(k:Int)<=(E.length:Int):=by omega
 have HN:=Aa hdl.symm;have HNN:Hid (F.length<=1000):=by rw[hdl];exact AF (Nat.sub_le _ _) hn
 obtain⟨i0,hi,hq0,hq1,hq2⟩:=info_parts ZS;have HI:=Aa hi;have HQ0:=Aa hq0;have HQ1:=Aa hq1;have HQ2:=Aa hq2;clear hi hq0 hq1 hq2;clear h3 h4 hok hdl hlo x1;have hFL:=HN.out;have hni:(F.length:Int)<=1000:=by have:=HNN.out;omega
 by_cases hck:c1=k
 . rw [if_pos hck, hck,BP,hFL]at HE
   rw[hck]at HX1
   go_enter func123,ntmps123
   go_wp2_with (first
    | (go_at_call 60;refine AC CR.out ?_;rintro e w1 ⟨hw,rfl⟩;obtain rfl:=hw.symm)
    | (go_at_call 93;refine AC CD.out ?_;rintro e w1 ⟨hw,v1',rfl,hcc,_⟩;obtain rfl:=hw.symm;rw[HX1.out]at hcc;obtain rfl:=(Bq hcc).symm;clear hcc))
   all_goals
    go_loopw [6,23] (λv6 i wr=>∃j:Nat,i=.int .i64 j/\j<=F.length/\Fa 109 lo w.heap.size wr v6 (F.take j)/\Bw w wr) (λ_ i _=>F.length - (intOf i).toNat)
    case atStart=>exact⟨0,rfl,AV _,RP _ _ _ _,A9 _ _⟩
    case round =>
     obtain⟨j,rfl,hj,s,Q⟩:=hrel;obtain⟨p6,c6,rfl⟩:=Io s;have S:(F.take j).length=j:=by rw[AO];omega
     rw[S];have N:Hid (Fa 109 lo w.heap.size wr (.slice p6 j c6) (F.take j)):=by
      have:=s;rw[S]at this;exact this
     have D:=Aa Q;have hws:=Q.size;have O:=Aa hws;have HJL:=Aa S;have Z:=s
     by_cases H:j<F.length
     . have hne : F≠[]:=by intro e;rw[e]at H;exact absurd H (AP _)
       have C:=HE.out.2.2.2;obtain⟨g,o,ePP,hg,I⟩:=C hne;clear C;subst ePP;obtain⟨ve,f0,f1,f2,f3⟩:=I j F[j] (B7 H);have g0:=(zC D.out g (o+j*3) hg).trans f0;have g1:=(zC D.out g (o+j*3+1) hg).trans f1;have g2:=(zC D.out g (o+j*3+2) hg).trans f2;have HX:Hid (Ae wr ve F[j].op):=Ec f3.1 D.out (Ai _);have HTK:=Aa (AD H);have HPL:Hid _:=HOK.out F[j] (BE H);have hki:(j:Int)<(F.length:Int):=by omega
       have hsh:∃p c,ve=.slice p F[j].op.length c:=by obtain⟨p,c,e,_⟩:=HX.out;exact⟨p,c,e⟩
       obtain⟨pe,ce,rfl⟩:=hsh;clear I f0 f1 f2 f3 hne s Q Z;generalize F[j]=x at *;obtain⟨L,K,xo⟩:=x;simp only at g0 g1 g2 HX HPL;obtain⟨f,hxn⟩:∃m,xo.length=m:=⟨_,rfl⟩;rw[hxn]at g2 HX;have HXN:=Aa hxn
       have CO:Hid (∀wx,Bw wr wx->Cg 161 #[.slice pe f ce] wx λe w'=>∃r l,e=.returned (.slice r f l)/\Ar lo w' (.slice r f l) xo/\Bw wx w'):=λwx hb =>
        (Ts _ xo wx (Ec HX.out hb (Ai _)) HPL.out.1 HPL.out.2).mono λe w' ⟨v',e1,ho,hb'⟩=>by
          obtain⟨r,l,rfl⟩:=Bm ho;rw[HXN.out]at e1 ho;exact⟨r,l,e1,Wb (by rw[HXN.out];exact ho),hb'⟩
       obtain⟨d,hβ⟩:∃d,wr.heap.size=d:=⟨_,rfl⟩;have G:=Aa hβ;clear hxn S hFL hck HN HOK
       go_wp2_with (first
        | (go_at_call 161;refine(CO.out _ (zA _ _)).mono ?_;rintro e z ⟨r,l,rfl,hx2,J⟩;have a:z.heap[d]?=some (.cells #[I6 L,I6 K,.slice pe f ce] 109 (0,0)):=(J.block d (by rw[Bb,G.out];omega)).trans (by have:=heap_alloc_new wr (.cells #[I6 L,I6 K,.slice pe f ce] 109);rwa[G.out]at this);have y0:=cQ a 0 rfl;have y1:=cQ a 1 rfl;have y2:=cQ a 2 rfl;have xf:=fZ a 2;have R:Hid (Bw w z):=(D.out.alloc O.out _).trans (J.mono (by rw[Bb];have:=O.out;omega));have hs2:d+1<=z.heap.size:=by have:=J.size;rw[Bb,G.out]at this;exact this
           have HS2:=Aa hs2;have HLW:Hid (lo<=d):=by have:=HLO.out;have:=O.out;have:=G.out;show lo<=d;omega
           have X:Fa 109 lo w.heap.size z (.slice p6 j c6) (F.take j):=Mb (Mb N.out (zA _ _)) J;have hnp:F7 z d:=C6 a (by decide);have U:sameBut z (z.setCell (Ad d 2) (.slice r f l)) (λk=>k=d):=B6 rfl
           have hlg3:∃vs,vs.length=(F.take j).length/\((z.setCell (Ad d 2) (.slice r f l)).alloc (.cells #[I6 L,I6 K,.slice r f l] 109)).ownsRow w.heap.size 109 3 (.slice p6 j c6) j (D8 (F.take j) vs)/\∀Y v2,Y.ownsRow w.heap.size 109 3 v2 (j+1) (D8 (F.take j) vs++[I6 L,I6 K,.slice r f l])->((z.setCell (Ad d 2) (.slice r f l)).alloc (.cells #[I6 L,I6 K,.slice r f l] 109)).grownBy Y (Value.slice p6 j c6).ownBlock->Fa 109 lo w.heap.size Y v2 (F.take j++[⟨L,K,xo⟩]):=by
            obtain⟨vs,q1,q2,q3⟩:=X;have W:Below (z.setCell (Ad d 2) (.slice r f l)).heap.size (z.setCell (Ad d 2) (.slice r f l)) ((z.setCell (Ad d 2) (.slice r f l)).alloc (.cells #[I6 L,I6 K,.slice r f l] 109)):=zA _ _;have hmv:∀{v q},Ar lo z v q->Ar lo ((z.setCell (Ad d 2) (.slice r f l)).alloc (.cells #[I6 L,I6 K,.slice r f l] 109)) v q:=λhx=>Bt (P6 hx U λk hk=>by obtain rfl:=hk;exact⟨HLW.out,hnp⟩) W;have hnb:∀k,(Value.slice p6 j c6).ownBlock=some k->k<d:=λk hk=>by
             have:=(J5 N.out hk).2.1;have:=G.out;omega
            have q2':=Fe (T1 q2 hnb (.slice r f l)) W;rw[HJL.out]at q2';refine⟨vs,q1,q2',λY v2 hn6 hg6=>?_⟩;refine UF (x:=⟨L,K,xo⟩) (by decide) HLO.out q1 (by rw[HJL.out];exact q2') (λi y v hy hv=>hmv (q3 i y v hy hv)) (hmv hx2) hg6 ?_;rw[HJL.out];exact hn6
           obtain⟨vs,m1,m2,m3⟩:=hlg3;have M2:=Aa m2;have M3:=Aa m3
           clear J a X hnp U m2 m3 hx2)
        | (at_builtin;refine wpList_append_own _ rfl _ _ 123 rfl w.heap.size 109 i0 (.agg #[I6 0,I6 0,.slice none 0 0]) 3 40 underlying123 HI.out HQ0.out HQ1.out HQ2.out rfl (by decide) _ _ _ rfl M2.out (Ad z.heap.size 0) 1 1 [I6 L,I6 K,.slice r f l] rfl rfl (Me _ _ (by first | rfl | simp) _ _) (Qz _ _ _ _ _) (by have:=HNN.out;unfold maxLen;omega) (by have:=HNN.out;omega) (by have:=R.out.size;simp;omega) ?_))
       all_goals
        intro v2 Y A hg' _;obtain⟨p7,c7,rfl⟩:=Bm A;have HO3:Hid (Fa 109 lo w.heap.size Y (.slice p7 (j+1) c7) (F.take (j+1))):=by
         rw[HTK.out];exact M3.out Y _ A hg'
        have HB3:Hid (Bw w Y):=((R.out.setCell (p:=(Ad d 2)) (by show w.heap.size<=d;have:=O.out;have:=G.out;omega) _).alloc (by rw[EJ];exact R.out.size) _).grown hg' (by simp;have:=R.out.size;omega) λk hk=>(J5 N.out hk).1;clear A hg' y0 y1 y2 xf g0 g1 g2;go_wp2;exact⟨⟨j+1,by go_num,by omega,HO3.out,HB3.out⟩,by simp[intOf];omega⟩
     . obtain rfl:j=F.length:=by omega
       have hki:¬((F.length:Int)<(F.length:Int)):=by omega
       have HTK:Hid (F.take F.length=F):=BV;clear s Q Z;go_wp2
       go_ret2
       have:=N.out;rw[HTK.out]at this;exact⟨_,rfl,this,D.out⟩
 . rw [if_neg hck, hFL]at HE
   go_enter func123,ntmps123
   go_wp2_with (first
    | (go_at_call 60;refine AC CR.out ?_;rintro e w1 ⟨hw,rfl⟩;obtain rfl:=hw.symm)
    | (go_at_call 93;refine AC CD.out ?_;rintro e w1 ⟨hw,v1',rfl,hcc,_⟩;obtain rfl:=hw.symm;rw[HX1.out]at hcc;obtain rfl:=(Bq hcc).symm;clear hcc))
   all_goals
    generalize Option.map (λx=>x.add (k*3)) p=P at *
    go_loopw [6,23] (λv6 i wr=>∃j:Nat,i=.int .i64 j/\j<=F.length/\Fa 109 lo w.heap.size wr v6 (F.take j)/\Bw w wr) (λ_ i _=>F.length - (intOf i).toNat)
    case atStart=>exact⟨0,rfl,AV _,RP _ _ _ _,A9 _ _⟩
    case round =>
     obtain⟨j,rfl,hj,s,Q⟩:=hrel;obtain⟨p6,c6,rfl⟩:=Io s;have S:(F.take j).length=j:=by rw[AO];omega
     rw[S];have N:Hid (Fa 109 lo w.heap.size wr (.slice p6 j c6) (F.take j)):=by
      have:=s;rw[S]at this;exact this
     have D:=Aa Q;have hws:=Q.size;have O:=Aa hws;have HJL:=Aa S;have Z:=s
     by_cases H:j<F.length
     . have hne : F≠[]:=by intro e;rw[e]at H;exact absurd H (AP _)
       have C:=HE.out.2.2.2;obtain⟨g,o,ePP,hg,I⟩:=C hne;clear C;subst ePP;obtain⟨ve,f0,f1,f2,f3⟩:=I j F[j] (B7 H);have g0:=(zC D.out g (o+j*3) hg).trans f0;have g1:=(zC D.out g (o+j*3+1) hg).trans f1;have g2:=(zC D.out g (o+j*3+2) hg).trans f2;have HX:Hid (Ae wr ve F[j].op):=Ec f3.1 D.out (Ai _);have HTK:=Aa (AD H);have HPL:Hid _:=HOK.out F[j] (BE H);have hki:(j:Int)<(F.length:Int):=by omega
       have hsh:∃p c,ve=.slice p F[j].op.length c:=by obtain⟨p,c,e,_⟩:=HX.out;exact⟨p,c,e⟩
       obtain⟨pe,ce,rfl⟩:=hsh;clear I f0 f1 f2 f3 hne s Q Z;generalize F[j]=x at *;obtain⟨L,K,xo⟩:=x;simp only at g0 g1 g2 HX HPL;obtain⟨f,hxn⟩:∃m,xo.length=m:=⟨_,rfl⟩;rw[hxn]at g2 HX;have HXN:=Aa hxn
       have CO:Hid (∀wx,Bw wr wx->Cg 161 #[.slice pe f ce] wx λe w'=>∃r l,e=.returned (.slice r f l)/\Ar lo w' (.slice r f l) xo/\Bw wx w'):=λwx hb =>
        (Ts _ xo wx (Ec HX.out hb (Ai _)) HPL.out.1 HPL.out.2).mono λe w' ⟨v',e1,ho,hb'⟩=>by
          obtain⟨r,l,rfl⟩:=Bm ho;rw[HXN.out]at e1 ho;exact⟨r,l,e1,Wb (by rw[HXN.out];exact ho),hb'⟩
       obtain⟨d,hβ⟩:∃d,wr.heap.size=d:=⟨_,rfl⟩;have G:=Aa hβ;clear hxn S hFL hck HN HOK
       go_wp2_with (first
        | (go_at_call 161;refine(CO.out _ (zA _ _)).mono ?_;rintro e z ⟨r,l,rfl,hx2,J⟩;have a:z.heap[d]?=some (.cells #[I6 L,I6 K,.slice pe f ce] 109 (0,0)):=(J.block d (by rw[Bb,G.out];omega)).trans (by have:=heap_alloc_new wr (.cells #[I6 L,I6 K,.slice pe f ce] 109);rwa[G.out]at this);have y0:=cQ a 0 rfl;have y1:=cQ a 1 rfl;have y2:=cQ a 2 rfl;have xf:=fZ a 2;have R:Hid (Bw w z):=(D.out.alloc O.out _).trans (J.mono (by rw[Bb];have:=O.out;omega));have hs2:d+1<=z.heap.size:=by have:=J.size;rw[Bb,G.out]at this;exact this
           have HS2:=Aa hs2;have HLW:Hid (lo<=d):=by have:=HLO.out;have:=O.out;have:=G.out;show lo<=d;omega
           have X:Fa 109 lo w.heap.size z (.slice p6 j c6) (F.take j):=Mb (Mb N.out (zA _ _)) J;have hnp:F7 z d:=C6 a (by decide);have U:sameBut z (z.setCell (Ad d 2) (.slice r f l)) (λk=>k=d):=B6 rfl
           have hlg3:∃vs,vs.length=(F.take j).length/\((z.setCell (Ad d 2) (.slice r f l)).alloc (.cells #[I6 L,I6 K,.slice r f l] 109)).ownsRow w.heap.size 109 3 (.slice p6 j c6) j (D8 (F.take j) vs)/\∀Y v2,Y.ownsRow w.heap.size 109 3 v2 (j+1) (D8 (F.take j) vs++[I6 L,I6 K,.slice r f l])->((z.setCell (Ad d 2) (.slice r f l)).alloc (.cells #[I6 L,I6 K,.slice r f l] 109)).grownBy Y (Value.slice p6 j c6).ownBlock->Fa 109 lo w.heap.size Y v2 (F.take j++[⟨L,K,xo⟩]):=by
            obtain⟨vs,q1,q2,q3⟩:=X;have W:Below (z.setCell (Ad d 2) (.slice r f l)).heap.size (z.setCell (Ad d 2) (.slice r f l)) ((z.setCell (Ad d 2) (.slice r f l)).alloc (.cells #[I6 L,I6 K,.slice r f l] 109)):=zA _ _;have hmv:∀{v q},Ar lo z v q->Ar lo ((z.setCell (Ad d 2) (.slice r f l)).alloc (.cells #[I6 L,I6 K,.slice r f l] 109)) v q:=λhx=>Bt (P6 hx U λk hk=>by obtain rfl:=hk;exact⟨HLW.out,hnp⟩) W;have hnb:∀k,(Value.slice p6 j c6).ownBlock=some k->k<d:=λk hk=>by
             have:=(J5 N.out hk).2.1;have:=G.out;omega
            have q2':=Fe (T1 q2 hnb (.slice r f l)) W;rw[HJL.out]at q2';refine⟨vs,q1,q2',λY v2 hn6 hg6=>?_⟩;refine UF (x:=⟨L,K,xo⟩) (by decide) HLO.out q1 (by rw[HJL.out];exact q2') (λi y v hy hv=>hmv (q3 i y v hy hv)) (hmv hx2) hg6 ?_;rw[HJL.out];exact hn6
           obtain⟨vs,m1,m2,m3⟩:=hlg3;have M2:=Aa m2;have M3:=Aa m3
           clear J a X hnp U m2 m3 hx2)
        | (at_builtin;refine wpList_append_own _ rfl _ _ 123 rfl w.heap.size 109 i0 (.agg #[I6 0,I6 0,.slice none 0 0]) 3 40 underlying123 HI.out HQ0.out HQ1.out HQ2.out rfl (by decide) _ _ _ rfl M2.out (Ad z.heap.size 0) 1 1 [I6 L,I6 K,.slice r f l] rfl rfl (Me _ _ (by first | rfl | simp) _ _) (Qz _ _ _ _ _) (by have:=HNN.out;unfold maxLen;omega) (by have:=HNN.out;omega) (by have:=R.out.size;simp;omega) ?_))
       all_goals
        intro v2 Y A hg' _;obtain⟨p7,c7,rfl⟩:=Bm A;have HO3:Hid (Fa 109 lo w.heap.size Y (.slice p7 (j+1) c7) (F.take (j+1))):=by
         rw[HTK.out];exact M3.out Y _ A hg'
        have HB3:Hid (Bw w Y):=((R.out.setCell (p:=(Ad d 2)) (by show w.heap.size<=d;have:=O.out;have:=G.out;omega) _).alloc (by rw[EJ];exact R.out.size) _).grown hg' (by simp;have:=R.out.size;omega) λk hk=>(J5 N.out hk).1;clear A hg' y0 y1 y2 xf g0 g1 g2;go_wp2;exact⟨⟨j+1,by go_num,by omega,HO3.out,HB3.out⟩,by simp[intOf];omega⟩
     . obtain rfl:j=F.length:=by omega
       have hki:¬((F.length:Int)<(F.length:Int)):=by omega
       have HTK:Hid (F.take F.length=F):=BV;clear s Q Z;go_wp2
       go_ret2
       have:=N.out;rw[HTK.out]at this;exact⟨_,rfl,this,D.out⟩
variable {lo n b bm : Nat}{w : World}{D : List (List UInt8)}{E : List SE}{M : Cd}
theorem Tj{p:Option Addr}{c:Nat}(h:w.ownsRow lo 9 1 (.slice p n c) D.length (Jg D)){i:Nat}{d:List UInt8}(o:D[i]?=some d) :
    ∃g,p=some (Ad g 0)/\n=D.length/\n<=c/\c<=maxLen/\g<w.heap.size/\w.cell? (Ad g i)=some (Sx d):=by
 have C:i<D.length:=(De o);obtain⟨H,f⟩:=h
 rcases f with ⟨_,A⟩|⟨g,s,k,z,F,l,y,r,G,q⟩
 . omega
 . injection z with hp hn hc
   subst hp hn hc;refine⟨g,rfl,rfl,y,r,(As l),?_⟩;have j:(Jg D)[i]?=some (Sx d):=by unfold Jg;rw[BD,o];rfl
   have a:k[i]?=some (Sx d):=by
    rw[←CE];have:=congrArg (·[i]?) q;simp only[DU,show i<D.length*1 by omega,if_true]at this;rw[this,j]
   unfold World.cell?;simp[l,a]
structure Hx (l0:Int) (t:List UInt8) (E:List SE) (D:List (List UInt8)):Prop where
 len:D.length=E.length+1
 at_:∀k,k<=E.length->∃d,D[k]?=some d/\(d.length:Int)=endE l0 (E.take k)
 last:D[E.length]?=some t
theorem UX(h:Fq lo n w b bm D E M){l0:Int}{t:List UInt8}(f:Hx l0 t E D)(q:E.length<=1000) :
    Cg 8 #[Pd b 0] w (Rt w (Sx t)):=by
 obtain⟨_,_,⟨r,v1,k,a,l⟩,_⟩:=h;obtain⟨p,c,rfl⟩:=Bm a;obtain⟨g,rfl,_,i,j,_,d⟩:=Tj a f.last;have x0:=cQ k 0 rfl;rw[f.len]at x0;have o:(E.length:Int)<=1000:=by omega
 generalize E.length=m at *;clear k a l f i j
 go_enter func8,ntmps8
 go_wp2
 go_region
 all_goals
  go_wp2;go_ret;exact⟨rfl,by first | exact(A9 _ _).drew | exact A9 _ _⟩
theorem kY(h:Fq lo n w b bm D E M)(c i rev:Int)(v:Value)(j:rev<0\/(E.length:Int)<rev) :
    Cg 87 #[Pd b 0,I6 c,I6 i,I6 rev,v] w (Rt w (I6 2)):=by
 obtain⟨_,_,⟨s,v1,f,d,g⟩,_⟩:=h;obtain⟨p,r,rfl⟩:=Io g;have q:=cQ f 1 rfl;have a:Hq rev 0 E.length=false:=by unfold Hq;simp;omega
 have k:Hid (Cg 36 #[I6 rev,I6 0,I6 E.length] w λe w'=>e=.returned (.bool false)/\w'=w):=by
  have:=Jk rev 0 E.length w;rw[a]at this;exact this
 clear f d g j a
 go_enter func87,ntmps87
 go_wp2_with (go_at_call 36;refine AC k.out ?_;rintro e o ⟨rfl,l⟩;obtain rfl:=l.symm)
 go_ret;exact⟨rfl,A9 _ _⟩
theorem jM(h:Fq lo n w b bm D E M)(c i:Int)(k:Nat)(v:Value)(r:k<=E.length)(y:300<=E.length)(o:E.length<=1000) :
    Cg 87 #[Pd b 0,I6 c,I6 i,I6 (k:Int),v] w (Rt w (I6 4)):=by
 obtain⟨_,_,⟨C,v1,f,d,g⟩,_⟩:=h;obtain⟨p,A,rfl⟩:=Io g;have z:=cQ f 1 rfl;have a:Hq (k:Int) 0 E.length=true:=by unfold Hq;simp;omega
 have j:Hid (Cg 36 #[I6 (k:Int),I6 0,I6 E.length] w λe w'=>e=.returned (.bool true)/\w'=w):=by
  have:=Jk (k:Int) 0 E.length w;rw[a]at this;exact this
 have q:(300:Int)<=(E.length:Int):=by omega
 clear f d g a
 go_enter func87,ntmps87
 go_wp2_with (go_at_call 36;refine AC j.out ?_;rintro e s ⟨rfl,l⟩;obtain rfl:=l.symm)
 go_ret;exact⟨rfl,A9 _ _⟩
theorem kX(h:Fq lo n w b bm D E M){l0:Int}{t:List UInt8}(s:Gz l0 t E)(H:Hx l0 t E D)(c i:Int)(k:Nat)(v:Value)(ps:List Pt)(N:Ae w v ps)(o:∀p∈ps,Cp p)(F:∀p∈ps,p.put.length<=40000)(hl:ps.length<=1000000)(J:k<=E.length)(hn:E.length<300)(C:chkE ps (endE l0 (E.take k))≠0) :
    Cg 87 #[Pd b 0,I6 c,I6 i,I6 (k:Int),v] w (Rt w (I6 (chkE ps (endE l0 (E.take k))))):=by
 obtain⟨_,_,⟨v0,v1,G,a,L⟩,_⟩:=h;obtain⟨p,c1,rfl⟩:=Io L;obtain⟨Z,c0,rfl⟩:=Bm a;obtain⟨d,K,j⟩:=H.at_ k J;obtain⟨g,rfl,_,z,A,_,y⟩:=Tj a K;have x0:=cQ G 0 rfl;have x1:=cQ G 1 rfl;rw[H.len]at x0;have f:=Kw E l0 k s.chain s.pos s.top;have r:Hq (k:Int) 0 E.length=true:=by unfold Hq;simp;omega
 have R:Hid (Cg 36 #[I6 (k:Int),I6 0,I6 E.length] w λe w'=>e=.returned (.bool true)/\w'=w):=by
  have:=Jk (k:Int) 0 E.length w;rw[r]at this;exact this
 rw[←j]at f C ⊢;have O:Hid _:=MR v ps (d.length:Int) w N o (λq U=>by have:=F q U;omega) (by omega) (by omega);have hz:(ByteArray.mk d.toArray).size=d.length:=by simp[ByteArray.size]
 have P:¬(300:Int)<=(E.length:Int):=by omega
 have Q:(k:Int)<(E.length:Int)+1:=by omega
 have W:(E.length:Int)<=1000:=by omega
 have hx:(chkE ps (d.length:Int) != 0)=true:=by simpa using C
 obtain⟨pv,cv,rfl,_⟩:=N;generalize chkE ps (d.length:Int)=X at *;clear G a L s H o f C r z A j K
 go_enter func87,ntmps87
 go_wp2_with (first
  | (go_at_call 36;refine AC R.out ?_;rintro e Y ⟨rfl,S⟩;obtain rfl:=S.symm)
  | (go_at_call 78;refine AC O.out ?_;rintro e w2 ⟨rfl,l⟩;have I:=Aa l;clear l))
 go_ret;exact⟨rfl,I.out⟩
end
section
attribute [local go_sem] Oper.semAt_some
theorem jx:(prog.info? 58).map (λi=>(i.zero,i.size,i.bytes))=some (some (.agg #[I6 0,I6 0,.slice none 0 0]),3,40):=by kernel_rfl
theorem jy:(prog.info? 9).map (λi=>(i.zero,i.size,i.bytes))=some (some (.string ⟨#[]⟩),1,16):=by kernel_rfl
theorem YB(d:ByteArray):∀u∈[Value.string d],u.oneCell'=true:=λu a=>by
 simp only[DR,List.mem_nil_iff,or_false]at a;obtain rfl:=a;rfl
structure Fx (lo n:Nat) (w:World) (b bm:Nat) (t:List UInt8) (D:List (List UInt8)) (E:List SE) (k:Nat) (v:Value) (ps:List Pt) (g c0:Nat) (p:Option Addr) (c1:Nat) (d:List UInt8):Prop where
 isIn:Cg 36 #[I6 (k:Int),I6 0,I6 E.length] w λe w'=>e=.returned (.bool true)/\w'=w
 check:Cg 78 #[v,I6 (d.length:Int)] w (Rt w (I6 0))
 x0:w.cell? (Ad b 0)=some (Sl g (E.length+1) c0)
 x1:w.cell? (Ad b 1)=some (.slice p E.length c1)
 xd:w.cell? (Ad g k)=some (Sx d)
 bl:b<w.heap.size
 gl:g<w.heap.size
 cut:LT lo w (if c1=k then p else Option.map (λx=>x.add (k*3)) p) (E.length - k) (c1 - k) (E.drop k)
theorem Ut{l0:Int}{E:List SE}{ps:List Pt}{len:Int}{F:List SE}(f:okOp ps len)(h:Al ps<=40000)(g:0<=len)(H:len<=3000)(a:Jv len F)(j:Nat)(A:j<F.length)(d l:Value)(w:World)(K:Ae w d (Bh ps (F.take j)))(L:Ae w l F[j].op) :
    Cg 86 #[d,l,.bool false] w λe w'=>∃C,e=.returned (.tuple #[C,I6 0])/\opN w.heap.size w' C (Bh ps (F.take (j+1)))/\Bw w w':=by
 obtain⟨N,o,O,Q,I⟩:=Ql F len j A a H;obtain⟨k,R⟩:=RC (F.take j) ps len f h H N;have i:endE len (F.take j)+Al (Bh ps (F.take j))<1000000:=by omega
 have r:endE len (F.take j)+Al F[j].op<1000000:=by omega
 obtain⟨P,J⟩:=k.turn o i r;have z:=k.fine i;have G:=o.fine r;have y:=I g;have:=aM d l false (Bh ps (F.take j)) F[j].op w K L (k.wf i) (o.wf r) (λq s=>by have:=Gh q _ s;omega) (λq s=>by have:=Gh q _ s;omega) z.len G.len λ_=>⟨z,G⟩;rw[J,if_pos rfl]at this;rw[YL ps F j A];exact this
theorem kW{lo n:Nat}{w:World}{b bm:Nat}{t:List UInt8}{D:List (List UInt8)}{E:List SE}{M:Cd}{l0:Int}(hk:Gz l0 t E)(c i:Int)(k:Nat)(v:Value)(ps:List Pt){g c0:Nat}{p:Option Addr}{c1:Nat}{d:List UInt8}(hr:Ar lo w v ps)(hpu:Al ps<=40000)(hkl:k<=E.length)(hn:E.length<300)(hc1:E.length<=c1)(hc0:E.length+1<=c0)(hcm:c1<=maxLen)(hc:chkE ps (endE l0 (E.take k))=0)(S:Fx lo n w b bm t D E k v ps g c0 p c1 d)(CT:∀A,Bw w A->Cg 8 #[Pd b 0] A (Rt A (.string ⟨t.toArray⟩)))(ho:ordE (Bh ps (E.drop k)) t≠0) :
    Cg 87 #[Pd b 0,I6 c,I6 i,I6 (k:Int),v] w (Rt w (I6 (ordE (Bh ps (E.drop k)) t))):=by
 obtain⟨s1,s2,x0,x1,xd,hbl,hgl,hcut⟩:=S;have CI:=Aa s1;have CC:=Aa s2;have CX:=Aa CT;obtain⟨q1,q2⟩:=Qx hk hpu hc;have hrm:=hk.room;have hb1:(t.length:Int)+Al (Bh ps (E.drop k))<1000000:=by omega
 have hlen:=(q1.fine hb1).len;have CA:Hid (∀A v',Ae A v' (Bh ps (E.drop k))->Cg 47 #[v',.string ⟨t.toArray⟩] A (Rt A (.tuple #[.string ⟨(if ordE (Bh ps (E.drop k)) t=0 then Aj (Bh ps (E.drop k)) t else []).toArray⟩,I6 (ordE (Bh ps (E.drop k)) t)]))):=λA v' ho =>
  IR v' _ t A ho (q1.wf hb1) (λq hq=>by have:=Gh q _ hq;omega) (by omega) hlen (by omega)
 have hle:=Kw E l0 k hk.chain hk.pos hk.top;have hch:=(OA E l0 k hk.chain).1;have HT:Hid (∀(j:Nat) (hj:j<(E.drop k).length) (v0 I:Value) (w:World),Ae w v0 (Bh ps ((E.drop k).take j))->Ae w I (E.drop k)[j].op->Cg 86 #[v0,I,.bool false] w λe w'=>∃v',e=.returned (.tuple #[v',I6 0])/\opN w.heap.size w' v' (Bh ps ((E.drop k).take (j+1)))/\Bw w w'):=λj hj v0 I w h1 h2=>Ut (l0:=l0) (E:=E) (QL hc) hpu hle.1 hle.2 hch j hj v0 I w h1 h2;have hz:(ByteArray.mk d.toArray).size=d.length:=by simp[ByteArray.size]
 have hk1:¬(300:Int)<=(E.length:Int):=by omega
 have hk2:(k:Int)<(E.length:Int)+1:=by omega
 have hk3:(k:Int)<=(E.length:Int):=by omega
 have hni:(E.length:Int)<=1000:=by omega
 have HR:=Aa hr;have HB:=Aa hbl;have hx:(ordE (Bh ps (E.drop k)) t != 0)=true:=by simpa using ho
 have en:(ByteArray.mk [].toArray)=⟨#[]⟩:=rfl;rw[if_neg ho,en]at CA;clear ho en;have W:∃p c,v=.slice p ps.length c:=by obtain⟨⟨p,c,e,_⟩,_⟩:=hr;exact⟨p,c,e⟩
 obtain⟨pv,cv,rfl⟩:=W;have hdl:(E.drop k).length=E.length - k:=AM;generalize hF:E.drop k=F at *;generalize ordE (Bh ps F) t=X at *;have HN:=Aa hdl.symm;have hnf:(F.length:Int)<=1000:=by omega
 have Z:=Aa hcut;rw[←hdl]at Z;have hFL:=HN.out;clear s1 s2 hr hpu hbl hgl hcut q1 q2 hrm hb1 hlen hle hch hdl hc0 hcm hk CT hc
 by_cases Y:c1=k
 . rw [if_pos Y,Y,BP]at Z
   rw[Y]at x1;have hck':True:=trivial;clear hc1
   go_enter func87,ntmps87
   go_wp2_with (first
    | (go_at_call 36;refine AC CI.out ?_;rintro e w1 ⟨rfl,hw⟩;obtain rfl:=hw.symm)
    | (go_at_call 78;refine AC CC.out ?_;rintro e w2 ⟨rfl,C⟩;have U:=Aa C;have y1:w2.cell? (Ad b 1)=some (.slice p E.length k):=(zC C b 1 HB.out).trans x1;clear C))
   all_goals
    go_loopw [4,50] (λv4 i wr=>∃j:Nat,i=.int .i64 j/\j<=F.length/\Ar lo wr v4 (Bh ps (F.take j))/\Bw w wr) (λ_ i _=>F.length - (intOf i).toNat)
    case atStart=>exact⟨0,rfl,AV _,Bt HR.out U.out,U.out⟩
    case round =>
     obtain⟨j,rfl,hj,y,H⟩:=hrel;obtain⟨L0,h⟩:∃L,(Bh ps (F.take j)).length=L:=⟨_,rfl⟩;have G:=y;obtain⟨⟨p4,c4,rfl,_⟩,_⟩:=y;have l:=Aa G;have a:=Aa H;rw[h]
     by_cases s:j<F.length
     . have K:F≠[]:=by intro e;rw[e]at s;exact absurd s (AP _)
       have f:=Z.out.2.2.2;obtain⟨g',o,ePP,hg,r⟩:=f K;clear f;subst ePP;obtain⟨I,f0,f1,f2,f3⟩:=r j F[j] (B7 s);have g0:=(zC a.out g' (o+j*3) hg).trans f0;have g1:=(zC a.out g' (o+j*3+1) hg).trans f1;have g2:=(zC a.out g' (o+j*3+2) hg).trans f2;have HX:Hid (Ae wr I F[j].op):=Ec f3.1 a.out (Ai _);have hki:(j:Int)<(F.length:Int):=by omega
       have CT:=Aa λA (hb:Bw wr A)=>HT.out j s _ I A (Ec l.out.1 hb (Ai _)) (Ec HX.out hb (Ai _));have W:∃p c,I=.slice p F[j].op.length c:=by obtain⟨p,c,e,_⟩:=HX.out;exact⟨p,c,e⟩
       obtain⟨pe,ce,rfl⟩:=W;rw[h]at CT l;generalize F[j].op.length=L1 at *;generalize F[j]=x at *;obtain⟨xc,xi,xo⟩:=x;simp only at g0 g1;clear r f0 f1 f2 f3 K G H h HN HT Z
       go_wp2_with (go_at_call 86;refine(CT.out _ (zA _ _)).mono ?_;rintro e w3 ⟨v3,rfl,Q,J⟩;have HB3:Hid (Bw w w3):=(a.out.alloc a.out.size _).trans (J.mono (by rw[Bb];have:=a.out.size;omega));have HO3:Hid (Ar lo w3 v3 (Bh ps (F.take (j+1)))):=Ev Q;clear J Q)
       exact⟨⟨j+1,by go_num,by omega,HO3.out,HB3.out⟩,by simp[intOf];omega⟩
     . obtain rfl:j=F.length:=by omega
       have hki:¬((F.length:Int)<(F.length:Int)):=by omega
       have O:F.take F.length=F:=BV;rw[O]at l h;have HOQ:Hid (Ar lo wr (.slice p4 L0 c4) (Bh ps F)):=by have:=l.out;rw[h]at this;exact this
       clear G H l h HN HT O Z
       go_wp2_with (first
        | (go_at_call 8;refine(CX.out _ a.out).mono ?_;rintro e w5 ⟨rfl,z⟩;have N:=Aa (a.out.trans (z.mono a.out.size));have HO5:=Aa ((Bt HOQ.out z).1);clear z)
        | (go_at_call 47;refine(CA.out _ _ HO5.out).mono ?_;rintro e w6 ⟨rfl,R⟩;have HB6:=Aa (N.out.trans (R.mono N.out.size));clear R))
       go_ret;exact⟨rfl,HB6.out⟩
 . rw [if_neg Y]at Z
   go_enter func87,ntmps87
   go_wp2_with (first
    | (go_at_call 36;refine AC CI.out ?_;rintro e w1 ⟨rfl,hw⟩;obtain rfl:=hw.symm)
    | (go_at_call 78;refine AC CC.out ?_;rintro e w2 ⟨rfl,C⟩;have U:=Aa C;have y1:w2.cell? (Ad b 1)=some (.slice p E.length c1):=(zC C b 1 HB.out).trans x1;clear C))
   all_goals
    generalize Option.map (λx=>x.add (k*3)) p=P at *
    go_loopw [4,50] (λv4 i wr=>∃j:Nat,i=.int .i64 j/\j<=F.length/\Ar lo wr v4 (Bh ps (F.take j))/\Bw w wr) (λ_ i _=>F.length - (intOf i).toNat)
    case atStart=>exact⟨0,rfl,AV _,Bt HR.out U.out,U.out⟩
    case round =>
     obtain⟨j,rfl,hj,y,H⟩:=hrel;obtain⟨L0,h⟩:∃L,(Bh ps (F.take j)).length=L:=⟨_,rfl⟩;have G:=y;obtain⟨⟨p4,c4,rfl,_⟩,_⟩:=y;have l:=Aa G;have a:=Aa H;rw[h]
     by_cases s:j<F.length
     . have K:F≠[]:=by intro e;rw[e]at s;exact absurd s (AP _)
       have f:=Z.out.2.2.2;obtain⟨g',o,ePP,hg,r⟩:=f K;clear f;subst ePP;obtain⟨I,f0,f1,f2,f3⟩:=r j F[j] (B7 s);have g0:=(zC a.out g' (o+j*3) hg).trans f0;have g1:=(zC a.out g' (o+j*3+1) hg).trans f1;have g2:=(zC a.out g' (o+j*3+2) hg).trans f2;have HX:Hid (Ae wr I F[j].op):=Ec f3.1 a.out (Ai _);have hki:(j:Int)<(F.length:Int):=by omega
       have CT:=Aa λA (hb:Bw wr A)=>HT.out j s _ I A (Ec l.out.1 hb (Ai _)) (Ec HX.out hb (Ai _));have W:∃p c,I=.slice p F[j].op.length c:=by obtain⟨p,c,e,_⟩:=HX.out;exact⟨p,c,e⟩
       obtain⟨pe,ce,rfl⟩:=W;rw[h]at CT l;generalize F[j].op.length=L1 at *;generalize F[j]=x at *;obtain⟨xc,xi,xo⟩:=x;simp only at g0 g1;clear r f0 f1 f2 f3 K G H h HN HT Z
       go_wp2_with (go_at_call 86;refine(CT.out _ (zA _ _)).mono ?_;rintro e w3 ⟨v3,rfl,Q,J⟩;have HB3:Hid (Bw w w3):=(a.out.alloc a.out.size _).trans (J.mono (by rw[Bb];have:=a.out.size;omega));have HO3:Hid (Ar lo w3 v3 (Bh ps (F.take (j+1)))):=Ev Q;clear J Q)
       exact⟨⟨j+1,by go_num,by omega,HO3.out,HB3.out⟩,by simp[intOf];omega⟩
     . obtain rfl:j=F.length:=by omega
       have hki:¬((F.length:Int)<(F.length:Int)):=by omega
       have O:F.take F.length=F:=BV;rw[O]at l h;have HOQ:Hid (Ar lo wr (.slice p4 L0 c4) (Bh ps F)):=by have:=l.out;rw[h]at this;exact this
       clear G H l h HN HT O Z
       go_wp2_with (first
        | (go_at_call 8;refine(CX.out _ a.out).mono ?_;rintro e w5 ⟨rfl,z⟩;have N:=Aa (a.out.trans (z.mono a.out.size));have HO5:=Aa ((Bt HOQ.out z).1);clear z)
        | (go_at_call 47;refine(CA.out _ _ HO5.out).mono ?_;rintro e w6 ⟨rfl,R⟩;have HB6:=Aa (N.out.trans (R.mono N.out.size));clear R))
       go_ret;exact⟨rfl,HB6.out⟩
end
end Go.Proofs.YtkcpjanmemdjlaaGreatDoor
