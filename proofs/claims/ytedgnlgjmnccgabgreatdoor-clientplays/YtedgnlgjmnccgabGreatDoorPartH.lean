/-
  A part of the texts that the proof uses.
-/
import Derived.Test.YtedgnlgjmnccgabGreatDoorPartG
import Derived.Test.YtedgnlgjmnccgabGreatDoorPartF
import Derived.Test.YtedgnlgjmnccgabGreatDoorPartD
import Derived.Maps.OwnSet
import Derived.Maps.Views
import Derived.Test.YtedgnlgjmnccgabGreatDoorPartC
import Derived.Test.YtedgnlgjmnccgabGreatDoorPartA
import Derived.Laws.OwnMore
import Derived.Lib.SliceRun
set_option maxRecDepth 100000
set_option maxHeartbeats 40000000
set_option linter.unusedVariables false
namespace Go.Proofs.YtedgnlgjmnccgabGreatDoor
section
variable {ps : List Pt}
theorem Jiy:∀(ps:List Pt)(t:List UInt8),Left ps t->((Jaa ps t).length:Int)=(ps.map isP).sum
 | [],t,_=>rfl
 | p :: ps,t,h=>by
  obtain⟨hl,_,_,hlen⟩:=JbK h;have ih:=Jiy ps _ hl;rw[List.map_cons,List.sum_cons,←ih]
  rcases Jbi (h.one p (by simp)) with ⟨u,hu,rfl⟩|⟨d,m,rfl⟩
  . rw[Jc2,List.length_append];simp[isP,lenP]
  . rw [Jb4]at hlen ⊢
    have e2:((m+1:Nat):Int).toNat=m+1:=by omega
    rw[e2]at hlen ⊢;rw[JcD,List.length_append]
    cases d with
    | true=>simp[isP,Jat]
    | false =>
     rw[if_neg (by decide),List.length_take];simp only[isP,Jat,List.length_nil,Bool.false_eq_true,if_false];omega
theorem good.left{t:List UInt8}(h:good ps t):Left ps t:=⟨h.one,h.long,h.al⟩
def JaV:List Pt->List Bool
 | []=>[]
 | p :: ps=>List.replicate p.drop.toNat true++(List.replicate p.keep.toNat false++JaV ps)
theorem Jeg:∀(a b:List Pt),JaV (a++b)=JaV a++JaV b
 | [],b=>rfl
 | p :: a,b=>by rw[List.cons_append,JaV,JaV,Jeg a b];simp
def actF (x:List Bool) (p:Pt):List Bool:=x++(List.replicate p.drop.toNat true++List.replicate p.keep.toNat false)
theorem actF_ok:ActP actF:=by
 constructor
 . intro x;simp[actF]
 . intro x u v;simp[actF]
 . intro x a b ha hb
   simp only[actF,Int.toNat_zero,List.replicate_zero,List.append_nil,List.append_assoc];rw[show(a+b).toNat=a.toNat+b.toNat by omega,←List.replicate_append_replicate]
 . intro x a b ha hb
   simp only[actF,Int.toNat_zero,List.replicate_zero,List.nil_append,List.append_assoc];rw[show(a+b).toNat=a.toNat+b.toNat by omega,←List.replicate_append_replicate]
 . intro x k d u;simp[actF]
 . intro x d u;simp[actF]
theorem JgW:∀(ps:List Pt)(x:List Bool),ps.foldl actF x=x++JaV ps
 | [],x=>by simp[JaV]
 | p :: ps,x=>by rw[List.foldl_cons,JgW ps,actF,JaV];simp
theorem Jjj(h:∀p∈ps,0<=p.keep/\0<=p.drop):JaV (Jac ps)=JaV ps:=by
 have e:=JeQ actF_ok ps h [];rw[JgW,JgW]at e;simpa using e
theorem Jgb(h:∀p∈ps,0<=p.keep/\0<=p.drop):Jal (Jac ps)=Jal ps:=by
 have ok:ActP (fun (x:Nat) (p:Pt)=>x+p.put.length):=by
  constructor
  . intro x;simp
  . intro x u v;simp;omega
  . intro x a b _ _;simp
  . intro x a b _ _;simp
  . intro x k d u;simp
  . intro x d u;simp
 have key:∀(l:List Pt) (x:Nat),l.foldl (fun x p=>x+p.put.length) x=x+Jal l:=by
  intro l
  induction l with
  | nil=>intro x;simp[Jal]
  | cons p l ih=>intro x;rw[List.foldl_cons,ih];simp[Jal];omega
 have e:=JeQ ok ps h 0;rw[key,key]at e;omega
theorem Jd9(d:Bool)(n:Nat)(ps:List Pt):JaV (Jat d n :: ps)=List.replicate n d++JaV ps:=by
 cases d<;>simp[JaV,Jat]
theorem JeY(u:List UInt8)(ps:List Pt):JaV (⟨0,0,u⟩ :: ps)=JaV ps:=by simp[JaV]
theorem Jdd(p:Pt)(ps:List Pt):Jal (p :: ps)=p.put.length+Jal ps:=by simp[Jal]
theorem JdM(a b:List Pt):Jal (a++b)=Jal a+Jal b:=by simp[Jal]
theorem JgT:∀(ps:List Pt)(t:List UInt8),Left ps t->(Jaa ps t).length=Jal ps+(JaV ps).count false
 | [],t,_=>rfl
 | p :: ps,t,h=>by
  obtain⟨hl,_,_,hlen⟩:=JbK h;have ih:=JgT ps _ hl
  rcases Jbi (h.one p (by simp)) with ⟨u,hu,rfl⟩|⟨d,m,rfl⟩
  . have e0:(lenP (⟨0,0,u⟩:Pt)).toNat=0:=rfl
    rw[e0,List.drop_zero]at ih;rw[Jc2,JeY,Jdd,List.length_append,ih];show u.length+_=u.length+_+_;omega
  . rw [Jb4]at hlen ih
    have e2:((m+1:Nat):Int).toNat=m+1:=by omega
    rw[e2]at hlen ih;rw[JcD,Jd9,Jdd,JeC,List.length_append,List.count_append,ih]
    cases d with
    | true=>simp[List.count_replicate]
    | false =>
     rw[if_neg (by decide),List.length_take,List.count_replicate];simp;omega
def dflC (F:List Bool) (x:Cel):Bool:=if x.1<0 then false else F[x.1.toNat]?.getD false
theorem Jri(F:List Bool)(u:List UInt8):(putC u).map (dflC F)=List.replicate u.length false:=by
 unfold putC;rw[List.map_map]
 induction u with
 | nil=>rfl
 | cons c u ih=>rw[List.map_cons,ih];rfl
theorem Jkl(F:List Bool)(d:Bool)(rest:List Bool):∀(k i:Nat),F.drop i=List.replicate k d++rest->(Jb5 i k).map (dflC F)=List.replicate k d
 | 0,i,_=>rfl
 | k + 1,i,h=>by
  have h1:F[i]?=some d:=by
   have:(F.drop i)[0]?=some d:=by rw[h];simp[List.replicate_succ]
   rw[List.getElem?_drop,Nat.add_zero]at this;exact this
  have h2:F.drop (i+1)=List.replicate k d++rest:=by
   have:=congrArg (List.drop 1) h;rw[List.drop_drop,List.replicate_succ,List.cons_append,List.drop_succ_cons,List.drop_zero]at this;exact this
  have e:dflC F ((i:Int),0)=d:=by unfold dflC;rw[if_neg (by show ¬(i:Int)<0;omega)];simp[h1]
  have ih:=Jkl F d rest k (i+1) h2;rw[Jb5,List.map_cons,e,List.replicate_succ]
  congr 1
theorem JkC(d:Bool)(m j:Nat)(hj:j<=m)(ps:List Pt)(i:Int) :
    JaV (Jat d (m+1) :: ps)=List.replicate (j+1) d++JaV ((cutP (Jat d (m+1)) ((j:Int)+1)).2++ps)/\Jal ((cutP (Jat d (m+1)) ((j:Int)+1)).2++ps)=Jal ps /\
    midP i (Jat d (m+1) :: ps)=(if d then [] else Jb5 i (j+1))++midP (i+(j+1:Nat)) ((cutP (Jat d (m+1)) ((j:Int)+1)).2++ps):=by
 have hmu:∀(d:Bool) (n:Nat) (i:Int) (ps:List Pt),midP i (Jat d n :: ps)=(if d then [] else Jb5 i n)++midP (i+n) ps:=by
  intro d n i ps
  cases d
  . simp[midP,Jat,putC]
  . simp[midP,Jat,putC,Jb5]
 rcases JlN d m j hj with ⟨rfl,e⟩|⟨k,rfl,e⟩
 . rw[e,List.nil_append,Jd9,hmu]
   exact⟨rfl,rfl,rfl⟩
 . rw [e]
   have e1:j+k+1+1=(j+1)+(k+1):=by omega
   refine⟨?_,?_,?_⟩
   . show _=_++JaV (Jat d (k+1) :: ps)
     rw[Jd9,Jd9,←List.append_assoc,e1,List.replicate_append_replicate]
   . show Jal (Jat d (k+1) :: ps)=_
     rw[Jdd,JeC];simp
   . show _=_++midP _ (Jat d (k+1) :: ps)
     rw[hmu,hmu,e1]
     cases d with
     | true=>simp only[if_true,List.nil_append];congr 1;push_cast;omega
     | false =>
      simp only[Bool.false_eq_true,if_false];rw[Jdj,List.append_assoc]
      congr 3
      push_cast;omega
theorem Jh8(F:Bool):∀(f:Nat)(A B:List Pt)(r:List UInt8)(FO:List Bool)(pos:Nat),Left A r->Left B r->Jao A+Jao B<=f->FO.drop pos=JaV (if F then A else B) ->
    JaV ((Ja5 Jaf Jaf f A B).flatMap (tF F))=(midP pos (if F then B else A)).map (dflC FO)/\Jal ((Ja5 Jaf Jaf f A B).flatMap (tF F))=Jal (if F then A else B):=by
 have nil_of:∀{l:List Pt} {r:List UInt8},Left l r->Jao l=0->l=[]:=by
  intro l r h hw
  cases l with
  | nil=>rfl
  | cons p l=>have:=Jcv (h.one p (by simp)) l;omega
 have base:∀(FO:List Bool) (pos g:Nat),JaV ((Ja5 Jaf Jaf g [] []).flatMap (tF F))=(midP pos (if F then [] else [])).map (dflC FO)/\Jal ((Ja5 Jaf Jaf g [] []).flatMap (tF F))=Jal (if F then [] else []):=by
  intro FO pos g;have e:Ja5 Jaf Jaf g [] []=[]:=by cases g<;>rfl
  rw[e]
  cases F<;>exact⟨rfl,rfl⟩
 have midput:∀(u:List UInt8) (i:Int) (ps:List Pt),midP i (⟨0,0,u⟩ :: ps)=putC u++midP i ps:=by
  intro u i ps;simp[midP,Jb5]
 have flkeep:∀(n:Nat) (l:List Pt),JaV (⟨(n:Int),0,[]⟩ :: l)=List.replicate n false++JaV l:=by
  intro n l;simp[JaV]
 intro f
 induction f with
 | zero =>
  intro A B r FO pos hA hB hw h;obtain rfl:=nil_of hA (by omega);obtain rfl:=nil_of hB (by omega);exact base FO pos 0
 | succ f ih =>
  intro A B r FO pos hA hB hw h
  have stepB:∀(v:List UInt8) (B':List Pt),v≠[]->B=⟨0,0,v⟩ :: B'->Ja5 Jaf Jaf (f+1) A B=(noP,⟨0,0,v⟩) :: Ja5 Jaf Jaf f A B' ->
      JaV ((Ja5 Jaf Jaf (f+1) A B).flatMap (tF F))=(midP pos (if F then B else A)).map (dflC FO)/\Jal ((Ja5 Jaf Jaf (f+1) A B).flatMap (tF F))=Jal (if F then A else B):=by
   intro v B' hv e es;subst e;obtain⟨hB',hV⟩:=JeJ hB;have hw':=Jcv (hB.one ⟨0,0,v⟩ (by simp)) B';have h':FO.drop pos=JaV (if F then A else B'):=by
    rw[h]
    cases F with
    | true=>rfl
    | false=>exact JeY v B'
   obtain⟨i1,i2⟩:=ih A B' r FO pos hA hB' (by omega) h';rw[es,List.flatMap_cons,Jeg,JdM,i1,i2]
   cases F with
   | true =>
    have e:=Jhy true v hv;rw[if_pos rfl]at e;rw[e,if_pos rfl,if_pos rfl,if_pos rfl,midput,List.map_append,Jri,flkeep];exact⟨by simp[JaV],by simp[Jal]⟩
   | false =>
    have e:=Jn3 false v hv;rw[if_neg (by decide)]at e;rw[e,if_neg (by decide),if_neg (by decide),if_neg (by decide),Jdd,JeY];exact⟨rfl,by simp[Jal]⟩
  cases A with
  | nil =>
   obtain rfl:=Jdv hA
   cases B with
   | nil=>exact base FO pos (f+1)
   | cons q B' =>
    rcases Jbi (hB.one q (by simp)) with ⟨v,hv,rfl⟩|⟨e,k,rfl⟩
    . exact stepB v B' hv rfl (by
        have h2:=Jcd hv
        simp only[Ja5,h2,if_true])
    . exact absurd hB Jdf
  | cons p A' =>
   rcases Jbi (hA.one p (by simp)) with ⟨u,hu,rfl⟩|⟨d,m,rfl⟩
   . obtain ⟨hA',hV⟩:=JeJ hA
     have hw':=Jcv (hA.one ⟨0,0,u⟩ (by simp)) A';have es:Ja5 Jaf Jaf (f+1) (⟨0,0,u⟩ :: A') B=(⟨0,0,u⟩,noP) :: Ja5 Jaf Jaf f A' B:=by
      have h1:=Jcd hu
      cases B<;>simp only[Ja5,h1,if_true]
     have h':FO.drop pos=JaV (if F then A' else B):=by
      rw[h]
      cases F with
      | true=>exact JeY u A'
      | false=>rfl
     obtain⟨i1,i2⟩:=ih A' B r FO pos hA' hB (by omega) h';rw[es,List.flatMap_cons,Jeg,JdM,i1,i2]
     cases F with
     | true =>
      have e:=Jn3 true u hu;rw[if_pos rfl]at e;rw[e,if_pos rfl,if_pos rfl,if_pos rfl,Jdd,JeY];exact⟨rfl,by simp[Jal]⟩
     | false =>
      have e:=Jhy false u hu;rw[if_neg (by decide)]at e;rw[e,if_neg (by decide),if_neg (by decide),if_neg (by decide),midput,List.map_append,Jri,flkeep];exact⟨by simp[JaV],by simp[Jal]⟩
   . cases B with
     | nil =>
      obtain rfl:=Jdv hB;exact absurd hA Jdf
     | cons q B' =>
      rcases Jbi (hB.one q (by simp)) with ⟨v,hv,rfl⟩|⟨e,k,rfl⟩
      . exact stepB v B' hv rfl (by
          have h1:=Jbk d (m+1);have h2:=Jcd hv
          simp only[Ja5,h1,h2,Bool.false_eq_true,if_false,if_true])
      . have hmin:min (Jad (Jat d (m+1))) (Jad (Jat e (k+1)))=((min m k:Nat):Int)+1:=by rw[JbF,JbF];omega
        obtain⟨j,hj⟩:∃j,min m k=j:=⟨_,rfl⟩;rw[hj]at hmin;have hj1:j<=m:=by omega
        have hj2:j<=k:=by omega
        have es:Ja5 Jaf Jaf (f+1) (Jat d (m+1) :: A') (Jat e (k+1) :: B')=(Jat d (j+1),Jat e (j+1)) :: Ja5 Jaf Jaf f ((cutP (Jat d (m+1)) ((j:Int)+1)).2++A') ((cutP (Jat e (k+1)) ((j:Int)+1)).2++B'):=by
         rw[Ja5,if_neg (by rw[Jbk];decide),if_neg (by rw[Jbk];decide),hmin,(Jdy d m j hj1).1,(Jdy e k j hj2).1]
        have hv:V (r.take (j+1)):=by
         have v1:=(JbK hA).2.2.1;have v2:=(JbK hB).2.2.1;rw[Jb4]at v1 v2
         by_cases hc:m<=k
         . obtain rfl:m=j:=by omega
           exact v1
         . obtain rfl:k=j:=by omega
           exact v2
        obtain⟨lA,_,_⟩:=Je5 d m j hj1 A' r hA hv;obtain⟨lB,_,_⟩:=Je5 e k j hj2 B' r hB hv;obtain⟨fA,pA,mA⟩:=JkC d m j hj1 A' pos;obtain⟨fB,pB,mB⟩:=JkC e k j hj2 B' pos;have wA:=Jcy d m j hj1;have wB:=Jcy e k j hj2;have hw2:Jao ((cutP (Jat d (m+1)) ((j:Int)+1)).2++A')+Jao ((cutP (Jat e (k+1)) ((j:Int)+1)).2++B')<=f:=by
         rw[Jba,Jba,wA,wB];rw[Jay,Jay,JbF,JbF]at hw;omega
        have hcast:(pos:Int)+((j+1:Nat):Int)=((pos+(j+1):Nat):Int):=by push_cast;rfl
        rw[hcast]at mA mB;have dropR:∀(b:Bool) (l:List Bool),FO.drop pos=List.replicate (j+1) b++l->FO.drop (pos+(j+1))=l:=by
         intro b l hl;have:=congrArg (List.drop (j+1)) hl;rw[List.drop_drop,List.drop_left' (by simp)]at this;exact this
        rw[es,List.flatMap_cons,Jeg,JdM,Jn2]
        cases F with
        | true =>
         rw[if_pos rfl]at h ⊢;rw[if_pos rfl,if_pos rfl,if_pos rfl];rw[fA]at h;obtain⟨i1,i2⟩:=ih _ _ (r.drop (j+1)) FO (pos+(j+1)) lA lB hw2 (by rw[if_pos rfl];exact dropR d _ h);rw[if_pos rfl]at i1 i2;rw[i1,i2,mB,Jdd,JeC,pA,List.map_append]
         cases e with
         | true=>simp[JaV,Jal]
         | false =>
          rw[if_neg (by decide),if_neg (by decide),Jkl FO d _ (j+1) pos h,Jd9];simp[JaV,Jal,JeC]
        | false =>
         simp only[Bool.false_eq_true,if_false]at h ⊢;rw[fB]at h;obtain⟨i1,i2⟩:=ih _ _ (r.drop (j+1)) FO (pos+(j+1)) lA lB hw2 (by rw[if_neg (by decide)];exact dropR e _ h);rw[if_neg (by decide)]at i1 i2;rw[i1,i2,mA,Jdd,JeC,pB,List.map_append]
         cases d with
         | true=>simp[JaV,Jal]
         | false =>
          rw[if_neg (by decide),if_neg (by decide),Jkl FO e _ (j+1) pos h,Jd9];simp[JaV,Jal,JeC]
end
section
open Go.RowKit
variable {x : List Pt}{t : List UInt8}
theorem Jti:∀(ps:List Pt),wts ps=Jag ps+Jal ps
 | []=>by simp[wts,Jag,Jal]
 | p :: ps=>by
  have ih:=Jti ps;have e1:wts (p :: ps)=wtP p+wts ps:=by simp[wts]
  rw[e1,Jbo,Jdd,ih];unfold wtP lenP
  push_cast;omega
theorem Jib:∀(ps:List Pt),(∀p∈ps,oneP p)->(ps.length:Int)<=wts ps
 | [],_=>by simp[wts]
 | p :: ps,h=>by
  have ih:=Jib ps fun q hq=>h q (by simp[hq]);have e1:wts (p :: ps)=wtP p+wts ps:=by simp[wts]
  have h1:=JaE (h p (by simp));have e2:Jad p=wtP p:=rfl;rw[e1,List.length_cons];push_cast;omega
theorem Jp8:∀(ps:List Pt),(∀p∈ps,oneP p)->∀p∈ps,wtP p<=wts ps
 | [],_,p,hp=>by cases hp
 | q :: ps,h,p,hp=>by
  have e1:wts (q :: ps)=wtP q+wts ps:=by simp[wts]
  have h0:=Jib ps fun x hx=>h x (by simp[hx]);have h1:=JaE (h q (by simp));have e2:Jad q=wtP q:=rfl
  rcases List.mem_cons.1 hp with rfl|hp
  . omega
  . have:=Jp8 ps (fun x hx=>h x (by simp[hx])) p hp
    omega
theorem good.wt(h:good x t):wts x=t.length+Jal x:=by rw[Jti,h.long]
theorem good.fine(h:good x t)(hb:t.length+Jal x<1000000):fineP x:=by
 have h1:=h.wt;have h2:=Jib x h.one;exact⟨h.one,by omega,by omega⟩
theorem good.wf(h:good x t)(hb:t.length+Jal x<1000000):∀p∈x,wfP p:=by
 intro p hp;have h1:=h.wt;have h2:=Jp8 x h.one p hp;obtain⟨k1,k2,_⟩:=Jh0 (h.one p hp);have e:wtP p=p.keep+p.drop+p.put.length:=rfl;exact⟨by omega,by omega,by omega,by omega,by omega⟩
theorem good.lens(h:good x t)(hb:t.length+Jal x<1000000):(Jar x).1=t.length/\(Jar x).2=(Jaa x t).length:=by
 have h1:=JaZ (h.fine hb);rw[h1.1,h1.2,h.long,Jiy x t h.left];exact⟨rfl,rfl⟩
theorem good.both{a b:List Pt}{t':List UInt8}(ha:good a t)(hb:good b t')(h1:t.length+Jal a<1000000)(h2:t'.length+Jal b<1000000):JbG a b=0:=by
 unfold JbG;rw[(ha.lens h1).1,(hb.lens h2).1,ha.chk,if_pos rfl,hb.chk]
theorem Jm6(h:good x t):Jal x<=(Jaa x t).length:=by
 have:=JgT x t h.left;omega
theorem JlB:∀(ps:List Pt),(∀p∈ps,0<=p.keep/\0<=p.drop)->((JaV ps).length:Int)=Jag ps
 | [],_=>by simp[JaV,Jag]
 | p :: ps,h=>by
  have ih:=JlB ps fun q hq=>h q (by simp[hq]);have h1:=h p (by simp);rw[Jbo,←ih,JaV];simp only[List.length_append,List.length_replicate];unfold lenP;push_cast;omega
theorem Jgz(h:good x t):(Jaa x t).length<=t.length+Jal x:=by
 have h1:=JgT x t h.left;have h2:=List.count_le_length (a:=false) (l:=JaV x);have h3:=JlB x (Jak h.one);have h4:=h.long;omega
theorem Jie(v:Value)(x:List Pt)(t:List UInt8)(w:World)(hT:Lib.Utf8Tabs 2 3 w)(hr:opAt w v x)(h:good x t)(hb:t.length+Jal x<1000000) :
    Calls Tryz.prog 29 #[v,.string ⟨t.toArray⟩] w fun e w'=>e=.returned (.tuple #[.string ⟨(Jaa x t).toArray⟩,.nilIface])/\Below w.heap.size w w':=by
 have hf:=h.fine hb;have:=Jmo v x t w hT hr (h.wf hb) (by omega) hf.len (by omega);rw[h.ord,if_pos rfl]at this;exact this
theorem Jg8(F:Bool){a b:List Pt}{t:List UInt8}(ha:good a t)(hb:good b t)(h1:t.length+Jal a<1000000)(h2:t.length+Jal b<1000000):Jal (Jaq (Jaw F a b))=Jal a/\JaV (Jaq (Jaw F a b))=(midP 0 b).map (dflC (JaV a)):=by
 have na:=ha.norm;have nb:=hb.norm;have la:=na.left;have lb:=nb.left;have sa:=Jak ha.one;obtain⟨n1,_,_,_⟩:=JaY (ha.fine h1);obtain⟨m1,_,_,_⟩:=JaY (hb.fine h2);have hm:Jc4 Jaf (Jac a)=Jc4 Jaf (Jac b):=by
  rw[Jee _ na.one,Jee _ nb.one,na.long,nb.long]
 have key:∀(G:Bool) (L:List (Pt×Pt)),(∀p∈L.flatMap (tF G),0<=p.keep/\0<=p.drop)->JaV (Jaq (runS (tF G) L nst0))=JaV (L.flatMap (tF G))/\Jal (Jaq (runS (tF G) L nst0))=Jal (L.flatMap (tF G)):=by
  intro G L h;rw[Jn7];exact⟨Jjj h,Jgb h⟩
 have fa:=Jjj sa;have pa:=Jgb sa;have mb:=JnM b hb.one
 cases F with
 | true =>
  obtain⟨e1,e2⟩:=Jh8 true (Jao (Jac a)+Jao (Jac b)) (Jac a) (Jac b) t (JaV a) 0 la lb (nlr _) (by rw[List.drop_zero,if_pos rfl,fa]);have hs:∀p∈(Ja5 Jaf Jaf (Jao (Jac a)+Jao (Jac b)) (Jac a) (Jac b)).flatMap (tF true),0<=p.keep/\0<=p.drop:=by
   obtain⟨_,hok,_,_⟩:=JhG Jdx Jdx (Jao (Jac a)+Jao (Jac b)) (Jac a) (Jac b) n1 m1 hm (nlr _);intro p hp;obtain⟨x,hx,hp⟩:=List.mem_flatMap.1 hp;exact((JhC x (hok x hx)).2 p hp).1
  obtain⟨k1,k2⟩:=key true _ hs;rw[if_pos rfl]at e1 e2;have e0:Jaw true a b=runS (tF true) (Ja5 Jaf Jaf (Jao (Jac a)+Jao (Jac b)) (Jac a) (Jac b)) nst0:=rfl;rw[e0,k1,k2,e1,e2,pa];refine⟨rfl,?_⟩;show(midP 0 (Jac b)).map _=_;rw[mb]
 | false =>
  obtain⟨e1,e2⟩:=Jh8 false (Jao (Jac b)+Jao (Jac a)) (Jac b) (Jac a) t (JaV a) 0 lb la (nlr _) (by rw[List.drop_zero,if_neg (by decide),fa]);have hs:∀p∈(Ja5 Jaf Jaf (Jao (Jac b)+Jao (Jac a)) (Jac b) (Jac a)).flatMap (tF false),0<=p.keep/\0<=p.drop:=by
   obtain⟨_,hok,_,_⟩:=JhG Jdx Jdx (Jao (Jac b)+Jao (Jac a)) (Jac b) (Jac a) m1 n1 hm.symm (nlr _);intro p hp;obtain⟨x,hx,hp⟩:=List.mem_flatMap.1 hp;exact((JiO x (hok x hx)).2 p hp).1
  obtain⟨k1,k2⟩:=key false _ hs;rw[if_neg (by decide)]at e1 e2;have e0:Jaw false a b=runS (tF false) (Ja5 Jaf Jaf (Jao (Jac b)+Jao (Jac a)) (Jac b) (Jac a)) nst0:=rfl;rw[e0,k1,k2,e1,e2,pa];refine⟨rfl,?_⟩;show(midP 0 (Jac b)).map _=_;rw[mb]
end
section
variable {t : List UInt8}{ps : List Pt}
theorem JiW:∀(ps:List Pt)(t:List UInt8),(∀p∈ps,0<=lenP p)->Jag ps=t.length->badO ps t=false->Jbg t=false
 | [],t,_,hl,_=>by
  have:t=[]:=List.eq_nil_of_length_eq_zero (by simp[Jag]at hl;omega);rw[this];rfl
 | p :: ps,t,h,hl,hb=>by
  have h0:=h p (by simp);rw[badO,Bool.or_eq_false_iff]at hb
  by_cases hz:lenP p=0
  . have e:(lenP p).toNat=0:=by omega
    rw[e,List.drop_zero]at hb;exact JiW ps t (fun q hq=>h q (by simp[hq])) (by rw[Jbo]at hl;omega) hb.2
  . cases t with
    | nil=>rfl
    | cons b t =>
     obtain⟨n,hn⟩:∃n,(lenP p).toNat=n+1:=⟨(lenP p).toNat - 1,by omega⟩;rw[hn]at hb;exact hb.1
theorem V_cut{n:Nat}(hV:V t)(hn:n<=t.length)(hb:Jbg (t.drop n)=false):V (t.take n):=by
 obtain⟨rs,hr,rfl⟩:=hV
 rcases Nat.lt_or_ge n (encs rs).length with h|h
 . have h1:(encs rs)[n]?=some (encs rs)[n]:=lgg h
   have h2:(encs rs).drop n=(encs rs)[n] :: (encs rs).drop (n+1):=List.drop_eq_getElem_cons h;rw[h2]at hb;have h3:JfV (encs rs)[n]=true:=by simpa[Jbg,JfU,JfV] using hb
   obtain⟨k,hk,e⟩:=Jfb hr h1 h3;have e2:encs rs=encs (rs.take k)++encs (rs.drop k):=by rw[←JbQ,List.take_append_drop]
   refine⟨rs.take k,fun r hx=>hr r (List.mem_of_mem_take hx),?_⟩
   conv=>lhs;rw[e2,e]
   rw[List.take_left'];rfl
 . rw[List.take_of_length_le h];exact⟨rs,hr,rfl⟩
theorem al_of:∀(ps:List Pt)(t:List UInt8),V t->(∀p∈ps,V p.put)->(∀p∈ps,0<=lenP p)->Jag ps=t.length->badO ps t=false->al ps t
 | [],_,_,_,_,_,_=>trivial
 | p :: ps,t,hV,hp,h,hl,hb=>by
  have h0:=h p (by simp);have h':∀q∈ps,0<=lenP q:=fun q hq=>h q (by simp[hq]);have hs:0<=Jag ps:=by
   clear hl hb hp h
   induction ps with
   | nil=>simp[Jag]
   | cons q ps ih=>rw[Jbo];have:=h' q (by simp);have:=ih (fun x hx=>h' x (by simp[hx]));omega
  rw[Jbo]at hl;rw[badO,Bool.or_eq_false_iff]at hb;have hn:(lenP p).toNat<=t.length:=by omega
  have hd:Jag ps=(t.drop (lenP p).toNat).length:=by rw[List.length_drop];omega
  have hc:=V_cut hV hn (JiW ps _ h' hd hb.2);exact⟨hp p (by simp),hc,al_of ps _ (Jt7 hV hc) (fun q hq=>hp q (by simp[hq])) h' hd hb.2⟩
theorem Jju:∀{ps:List Pt}{N:Int},(∀q∈ps,0<=lenP q)->chk2 ps N=0->Jag ps=N
 | [],N,_,h=>by
  unfold chk2 at h
  split at h
  . rename_i e;simp[Jag,e]
  . cases h
 | p :: ps,N,hl,h=>by
  unfold chk2 at h
  split at h
  . cases h
  . have:=Jju (fun q hq=>hl q (by simp[hq])) h
    rw[Jbo,this];unfold lenP;omega
theorem Jjt{N:Int}(h:chkE ps N=0):(∀p∈ps,oneB p=true/\(scan p.put).2=true)/\Jag ps=N/\∀q∈ps,0<=lenP q:=by
 unfold chkE at h
 split at h
 . rename_i h1
   have h2:=Jey h1;have h3:∀q∈ps,0<=lenP q:=fun q hq=>by
    have:=(Jce (h2 q hq).1).1;unfold Jbc at this;unfold lenP;omega
   exact⟨h2,Jju h3 h,h3⟩
 . rename_i h1;exact absurd h h1
theorem Jqx{q:Pt}(h:oneB q=true):oneP q:=by
 obtain⟨K,D,U⟩:=q;unfold oneB at h;unfold oneP;simp only at h ⊢
 split at h
 . rename_i e;exact .inl ⟨of_decide_eq_true h,e.1,e.2⟩
 . rename_i e1
   split at h
   . rename_i e;exact .inr (.inl ⟨e.1,of_decide_eq_true h,e.2⟩)
   . rename_i e2
     have h3:=of_decide_eq_true h;exact .inr (.inr ⟨h3.1,h3.2,fun e=>e2 ⟨h3.1,e⟩⟩)
theorem Jbs(hV:V t)(h:ordE ps t=0):good ps t:=by
 unfold ordE at h
 by_cases hc:chkE ps (t.length:Int)=0
 . rw [if_pos hc]at h
   have hb:badO ps t=false:=by
    cases e:badO ps t with
    | false=>rfl
    | true=>rw[e]at h;cases h
   obtain⟨h1,h2,h3⟩:=Jjt hc;exact⟨fun p hp=>Jqx (h1 p hp).1,h2,al_of ps t hV (fun p hp=>Jg2 (h1 p hp).2) h3 h2 hb⟩
 . rw[if_neg hc]at h;exact absurd h hc
/-! gaps -/
def gsum (y:List (List UInt8×Bool)) (yl:List UInt8):Int:=(y.map fun x=>(x.1.length:Int)+if x.2 then 0 else 1).sum+yl.length
def psum (y:List (List UInt8×Bool)) (yl:List UInt8):Nat:=(y.map fun x=>x.1.length).sum+yl.length
def Vg (y:List (List UInt8×Bool)) (yl:List UInt8):Prop:=(∀x∈y,V x.1)/\V yl
theorem JlK(F:Bool):∀(x:List (List UInt8×Bool))(xl:List UInt8)(y:List (List UInt8×Bool))(yl:List UInt8),x.length=y.length->Jag (docT F x xl y yl)=gsum y yl
 | [],xl,[],yl,_=>by
  cases F<;>simp[docT,gsum,Jag,lenP]
 | [],_,_ :: _,_,h=>by simp at h
 | _ :: _,_,[],_,h=>by simp at h
 | (u,d) :: x,xl,(v,e) :: y,yl,h=>by
   have ih:=JlK F x xl y yl (by simpa using h);rw[docT,Jby,Jby,ih];have hs:gsum ((v,e) :: y) yl=((v.length:Int)+if e then 0 else 1)+gsum y yl:=by simp[gsum];omega
   rw[hs];have h1:Jag (if F then [⟨0,0,u⟩,⟨(v.length:Int),0,[]⟩] else [⟨(v.length:Int),0,[]⟩,⟨0,0,u⟩])=v.length:=by cases F<;>simp[Jag,lenP]
   have h2:Jag (if e then [] else [Jf5 d])=if e then 0 else 1:=by cases e<;>cases d<;>simp[Jag,lenP,Jf5]
   rw[h1,h2]
theorem JlI(F:Bool):∀(x:List (List UInt8×Bool))(xl:List UInt8)(y:List (List UInt8×Bool))(yl:List UInt8),x.length=y.length->Jal (docT F x xl y yl)=psum x xl
 | [],xl,[],yl,_=>by
  cases F<;>simp[docT,psum,Jal]
 | [],_,_ :: _,_,h=>by simp at h
 | _ :: _,_,[],_,h=>by simp at h
 | (u,d) :: x,xl,(v,e) :: y,yl,h=>by
   have ih:=JlI F x xl y yl (by simpa using h);rw[docT,JdM,JdM,ih];have hs:psum ((u,d) :: x) xl=u.length+psum x xl:=by simp[psum];omega
   rw[hs];have h1:Jal (if F then [⟨0,0,u⟩,⟨(v.length:Int),0,[]⟩] else [⟨(v.length:Int),0,[]⟩,⟨0,0,u⟩])=u.length:=by cases F<;>simp[Jal]
   have h2:Jal (if e then [] else [Jf5 d])=0:=by cases e<;>cases d<;>simp[Jal,Jf5]
   rw[h1,h2];omega
def JhX (p:Pt):Prop:=0<=p.keep/\0<=p.drop/\(p.keep=0\/(p.drop=0/\p.put=[]))/\V p.put
theorem JlJ(F:Bool):∀(x:List (List UInt8×Bool))(xl:List UInt8)(y:List (List UInt8×Bool))(yl:List UInt8),Vg x xl->∀p∈docT F x xl y yl,JhX p
 | [],xl,y,yl,h,p,hp=>by
  have hp:p∈(if F then [⟨0,0,xl⟩,⟨(yl.length:Int),0,[]⟩] else [⟨(yl.length:Int),0,[]⟩,⟨0,0,xl⟩]:List Pt):=by cases y<;>exact hp
  have h1:JhX ⟨0,0,xl⟩:=⟨Int.le_refl _,Int.le_refl _,.inl rfl,h.2⟩;have h2:JhX ⟨(yl.length:Int),0,[]⟩:=⟨Int.natCast_nonneg _,Int.le_refl _,.inr ⟨rfl,rfl⟩,Jdz⟩
  cases F<;>simp at hp<;>rcases hp with rfl|rfl<;>assumption
 | (u,d) :: x,xl,[],yl,h,p,hp=>by
   have hp:p∈(if F then [⟨0,0,xl⟩,⟨(yl.length:Int),0,[]⟩] else [⟨(yl.length:Int),0,[]⟩,⟨0,0,xl⟩]:List Pt):=hp;have h1:JhX ⟨0,0,xl⟩:=⟨Int.le_refl _,Int.le_refl _,.inl rfl,h.2⟩;have h2:JhX ⟨(yl.length:Int),0,[]⟩:=⟨Int.natCast_nonneg _,Int.le_refl _,.inr ⟨rfl,rfl⟩,Jdz⟩
   cases F<;>simp at hp<;>rcases hp with rfl|rfl<;>assumption
 | (u, d) :: x,xl,(v,e) :: y,yl,h,p,hp=>by
   have ih:=JlJ F x xl y yl ⟨fun z hz=>h.1 z (by simp[hz]),h.2⟩;rw[docT]at hp;have h1:JhX ⟨0,0,u⟩:=⟨Int.le_refl _,Int.le_refl _,.inl rfl,h.1 (u,d) (by simp)⟩;have h2:JhX ⟨(v.length:Int),0,[]⟩:=⟨Int.natCast_nonneg _,Int.le_refl _,.inr ⟨rfl,rfl⟩,Jdz⟩;have h3:JhX (Jf5 d):=by
    cases d
    . exact⟨by decide,by decide,.inr ⟨rfl,rfl⟩,Jdz⟩
    . exact⟨by decide,by decide,.inl rfl,Jdz⟩
   rcases List.mem_append.1 hp with hp|hp
   . rcases List.mem_append.1 hp with hp | hp
     . cases F<;>simp at hp<;>rcases hp with rfl|rfl<;>assumption
     . cases e<;>simp at hp
       rw[hp];exact h3
   . exact ih p hp
theorem Jgq:∀(ps:List Pt)(acc:List UInt8),(∀p∈ps,oneP p)->gsum (JaX acc ps).1 (JaX acc ps).2=acc.length+(ps.map isP).sum/\psum (JaX acc ps).1 (JaX acc ps).2=acc.length+Jal ps
 | [],acc,_=>by simp[JaX,gsum,psum,Jal]
 | p :: ps,acc,h=>by
  have h':∀q∈ps,oneP q:=fun q hq=>h q (by simp[hq])
  rcases Jbi (h p (by simp)) with ⟨u,_,rfl⟩|⟨d,n,rfl⟩
  . obtain⟨i1,i2⟩:=Jgq ps (acc++u) h'
    rw[JeL,i1,i2];have e1:(List.map isP (⟨0,0,u⟩ :: ps)).sum=u.length+(ps.map isP).sum:=by simp[isP]
    have e2:Jal (⟨0,0,u⟩ :: ps)=u.length+Jal ps:=by simp[Jal]
    rw[e1,e2,List.length_append];exact⟨by omega,by omega⟩
  . obtain ⟨i1,i2⟩:=Jgq ps [] h'
    rw[Jc1];have e1:(List.map isP (Jat d (n+1) :: ps)).sum=(if d then 0 else ((n:Int)+1))+(ps.map isP).sum:=by cases d<;>simp[isP,Jat]
    have e2:Jal (Jat d (n+1) :: ps)=Jal ps:=by cases d<;>simp[Jal,Jat]
    have r1:∀k:Nat,((List.replicate k (([]:List UInt8),d)).map fun x=>(x.1.length:Int)+if x.2 then 0 else 1).sum=if d then 0 else (k:Int):=by
     intro k
     induction k with
     | zero=>cases d<;>simp
     | succ k ih=>rw[List.replicate_succ,List.map_cons,List.sum_cons,ih];cases d<;>simp<;>omega
    have r2:∀k:Nat,((List.replicate k (([]:List UInt8),d)).map fun x=>x.1.length).sum=0:=by
     intro k
     induction k with
     | zero=>rfl
     | succ k ih=>rw[List.replicate_succ,List.map_cons,List.sum_cons,ih];rfl
    rw[e1,e2];unfold gsum at i1 ⊢;unfold psum at i2 ⊢;simp only[List.map_append,List.sum_append,List.map_cons,List.sum_cons,List.cons_append,r1,r2,List.length_nil]at i1 i2 ⊢;constructor
    . cases d<;>simp at *<;>omega
    . omega
theorem JqQ:∀(ps:List Pt)(acc:List UInt8),(∀p∈ps,oneP p)->(∀p∈ps,V p.put)->V acc->Vg (JaX acc ps).1 (JaX acc ps).2
 | [],acc,_,_,ha=>⟨fun x hx=>(by cases hx),ha⟩
 | p :: ps,acc,h,hv,ha=>by
  have h':∀q∈ps,oneP q:=fun q hq=>h q (by simp[hq]);have hv':∀q∈ps,V q.put:=fun q hq=>hv q (by simp[hq])
  rcases Jbi (h p (by simp)) with ⟨u,_,rfl⟩|⟨d,n,rfl⟩
  . rw[JeL]
    exact JqQ ps (acc++u) h' hv' (Jd0 ha (hv ⟨0,0,u⟩ (by simp)))
  . obtain ⟨i1,i2⟩:=JqQ ps [] h' hv' Jdz
    rw[Jc1];refine⟨fun x hx=>?_,i2⟩
    rcases List.mem_append.1 hx with hx|hx
    . rcases List.mem_cons.1 hx with rfl|hx
      . exact ha
      . rw[(List.mem_replicate.1 hx).2];exact Jdz
    . exact i1 x hx
theorem JnW:∀(ps:List Pt)(s:NSt),(∀p∈ps,JhX p)->CutS (fun _=>True) s->CutS (fun _=>True) (ps.foldl addP s)
 | [],s,_,h=>h
 | p :: ps,s,hp,h=>by
  obtain⟨k1,k2,k3,k4⟩:=hp p (by simp);exact JnW ps (addP s p) (fun q hq=>hp q (by simp[hq])) (Jip h p k1 k2 k3 k4 trivial)
theorem Jtn(h:∀p∈ps,JhX p):∀p∈Jac ps,V p.put:=by
 have h0:CutS (fun _=>True) nst0:=⟨trivial,trivial,fun p hp=>(by cases hp),Jdz,⟨fun p hp=>(by cases hp),Int.le_refl _⟩⟩;exact(Jgu (JnW ps nst0 h h0)).2
theorem Jsf{p:Pt}(h:oneP p)(hv:V p.put):JhX p:=by
 obtain⟨k1,k2,k3⟩:=Jh0 h;exact⟨k1,k2,k3,hv⟩
theorem JpJ(F:Bool){a b:List Pt}(fa:fineP a)(fb:fineP b)(va:∀p∈a,V p.put)(hl:Jag a=Jag b) :
    (∀p∈Jaq (Jaw F a b),oneP p)/\(∀p∈Jaq (Jaw F a b),V p.put)/\Jag (Jaq (Jaw F a b))=(b.map isP).sum/\Jal (Jaq (Jaw F a b))=Jal a:=by
 have sa:=Jak fa.one;have sb:=Jak fb.one;have na:=JeG a sa;have nb:=JeG b sb;have hU:Jea (Jac a)=Jea (Jac b):=by
  have h1:=JbJ (Jac a) (Jak na);have h2:=JbJ (Jac b) (Jak nb);rw[JhW]at h1 h2;omega
 have key:∃x xl y yl,Jaq (Jaw F a b)=Jac (docT F x xl y yl)/\x.length=y.length/\gsum y yl=(b.map isP).sum/\psum x xl=Jal a/\Vg x xl:=by
  refine⟨(JaX [] (Jac a)).1,(JaX [] (Jac a)).2,(JaX [] (Jac b)).1,(JaX [] (Jac b)).2,?_,hU,?_,?_,?_⟩
  . unfold Jaw Jac
    cases F with
    | true=>rw[if_pos rfl];exact congrArg Jaq (JiK _ (Jac a) (Jac b) nst0 na nb hU (nlr _))
    | false=>rw[if_neg (by decide)];exact congrArg Jaq (Jh7 (Jao (Jac b)+Jao (Jac a)) (Jac a) (Jac b) nst0 na nb hU (by omega))
  . rw[(Jgq (Jac b) [] nb).1,(JaY fb).2.2.2];simp
  . rw[(Jgq (Jac a) [] na).2,Jgb sa];simp
  . exact JqQ (Jac a) [] na (Jtn fun p hp=>Jsf (fa.one p hp) (va p hp)) Jdz
 obtain⟨x,xl,y,yl,e,h1,h2,h3,h4⟩:=key;have hn:=JlJ F x xl y yl h4;have hs:∀p∈docT F x xl y yl,0<=p.keep/\0<=p.drop:=fun p hp=>⟨(hn p hp).1,(hn p hp).2.1⟩;rw[e];refine⟨JeG _ hs,Jtn hn,?_,?_⟩
 . rw[JhW,JlK F x xl y yl h1,h2]
 . rw[Jgb hs,JlI F x xl y yl h1,h3]
end
section
variable {B : Nat}{u who : Int}
structure Cl where
 seen:List UInt8
 doc:List UInt8
 rev:Int
 id:Int
 drops:Int
 mine:List (List Pt)
def allM:List (List Pt)->List UInt8->List UInt8
 | [],t=>t
 | m :: ms,t=>allM ms (Jaa m t)
def Jhp:List (List Pt)->List UInt8->Prop
 | [],_=>True
 | m :: ms,t=>good m t/\Jhp ms (Jaa m t)
def Jbl:List (List Pt)->List Pt->List (List Pt)×List Pt
 | [],x=>([],x)
 | m :: ms,x=>(Jaq (Jaw false m x) :: (Jbl ms (Jaq (Jaw true x m))).1,(Jbl ms (Jaq (Jaw true x m))).2)
theorem JfQ:∀(ms:List (List Pt))(x:List Pt),(Jbl ms x).1.length=ms.length
 | [],_=>rfl
 | m :: ms,x=>by rw[Jbl,List.length_cons,List.length_cons,JfQ ms]
theorem Jd4:∀(ms:List (List Pt))(x:List Pt)(t:List UInt8),good x t->Jhp ms t ->
    Jhp (Jbl ms x).1 (Jaa x t)/\good (Jbl ms x).2 (allM ms t)/\Jaa (Jbl ms x).2 (allM ms t)=allM (Jbl ms x).1 (Jaa x t)
 | [],x,t,hx,_=>⟨trivial,hx,rfl⟩
 | m :: ms,x,t,hx,h=>by
  obtain⟨hm,hms⟩:=h;have g1:=(Jd8 false hm hx).1;have g2:=(Jd8 true hx hm).1;have e:=Jmr true hx hm;obtain⟨i1,i2,i3⟩:=Jd4 ms _ _ g2 hms;have e:Jaa (Jaq (Jaw false m x)) (Jaa x t)=Jaa (Jaq (Jaw true x m)) (Jaa m t):=e;refine⟨⟨g1,?_⟩,i2,?_⟩
  . rw[e];exact i1
  . show _=allM (Jbl ms (Jaq (Jaw true x m))).1 (Jaa (Jaq (Jaw false m x)) (Jaa x t))
    rw[e];exact i3
theorem Jd3(B:Nat):∀(ms:List (List Pt))(x:List Pt)(t:List UInt8),good x t->Jhp ms t->(∀m∈ms,Jal m<=B)->t.length+Jal x+ms.length*B<900000->B<=100000 ->
    (∀m∈(Jbl ms x).1,Jal m<=B)/\Jal (Jbl ms x).2=Jal x
 | [],x,t,_,_,_,_,_=>⟨(fun m h=>by cases h),rfl⟩
 | m :: ms,x,t,hx,h,hp,hb,hB=>by
  obtain⟨hm,hms⟩:=h;have hpm:=hp m (by simp);have e0:(m :: ms).length*B=ms.length*B+B:=by rw[List.length_cons,Nat.succ_mul]
  rw[e0]at hb;have h1:t.length+Jal m<1000000:=by omega
  have h2:t.length+Jal x<1000000:=by omega
  have g2:=(Jd8 true hx hm).1;have k1:=(Jg8 false hm hx h1 h2).1;have k2:=(Jg8 true hx hm h2 h1).1;have hl:=Jgz hm;obtain⟨i1,i2⟩:=Jd3 B ms _ _ g2 hms (fun y hy=>hp y (by simp[hy])) (by rw[k2];omega) hB;refine⟨fun y hy=>?_,i2.trans k2⟩
  rcases List.mem_cons.1 hy with rfl|hy
  . rw[k1];exact hpm
  . exact i1 y hy
theorem Jt5:∀(ms:List (List Pt))(t:List UInt8),V t->Jhp ms t->V (allM ms t)
 | [],_,h,_=>h
 | m :: ms,t,h,hg=>Jt5 ms _ (JgU hg.1.al) hg.2
theorem Jg0(B:Nat):∀(ms:List (List Pt))(t:List UInt8),Jhp ms t->(∀m∈ms,Jal m<=B)->(allM ms t).length<=t.length+ms.length*B
 | [],_,_,_=>by simp[allM]
 | m :: ms,t,hg,hp=>by
  have i:=Jg0 B ms _ hg.2 fun y hy=>hp y (by simp[hy]);have:=Jgz hg.1;have:=hp m (by simp);rw[List.length_cons,Nat.succ_mul];have e:allM (m :: ms) t=allM ms (Jaa m t):=rfl;rw[e];omega
structure okK (B:Nat) (S:Cl):Prop where
 text:V S.seen
 all:Jhp S.mine S.seen
 doc:S.doc=allM S.mine S.seen
 two:S.mine.length<=2
 puts:∀m∈S.mine,Jal m<=B
theorem okK.V{B:Nat}{S:Cl}(h:okK B S):Go.Proofs.YtedgnlgjmnccgabGreatDoor.V S.doc:=by rw[h.doc];exact Jt5 _ _ h.text h.all
theorem okK.len{S:Cl}(h:okK B S):S.doc.length<=S.seen.length+2*B:=by
 rw[h.doc];have h1:=Jg0 B _ _ h.all h.puts;have h2:=Nat.mul_le_mul_right B h.two;omega
theorem okK.more{B':Nat}{S:Cl}(h:okK B S)(hb:B<=B'):okK B' S:=⟨h.text,h.all,h.doc,h.two,fun m hm=>Nat.le_trans (h.puts m hm) hb⟩
/-! Edit -/
def addM (o:List Pt):List (List Pt)->List (List Pt)
 | []=>[o]
 | [m]=>[m,o]
 | m :: m2 :: _=>[m,Jaq (JdU m2 o)]
def JdO (p:Pt):Bool:=decide (200<p.put.length)
def edO (u:Int) (S:Cl) (q:List Pt):List Pt:=tzO (Jam S.doc) u 1 q
def edE (u:Int) (S:Cl) (q:List Pt):Int :=
 if 60<q.length\/q.any JdO=true then 4 else if tzE (Jam S.doc) u 1 q≠0 then tzE (Jam S.doc) u 1 q
 else if 2000<(Jaa (edO u S q) S.doc).length then 12 else 0
def edS (u:Int) (S:Cl) (q:List Pt):Cl:=if edE u S q=0 then { S with doc:=Jaa (edO u S q) S.doc,mine:=addM (edO u S q) S.mine,id:=if S.mine=[] then S.id+1 else S.id } else S
theorem Jtb(o:List Pt):∀(ms:List (List Pt))(t:List UInt8),ms.length<=2->Jhp ms t->good o (allM ms t)->Jhp (addM o ms) t/\allM (addM o ms) t=Jaa o (allM ms t)/\(addM o ms).length<=2
 | [],t,_,_,ho=>⟨⟨ho,trivial⟩,rfl,by simp[addM]⟩
 | [m],t,_,h,ho=>⟨⟨h.1,ho,trivial⟩,rfl,by simp[addM]⟩
 | [m,m2],t,_,h,ho=>by
  obtain⟨c1,c2⟩:=JqM h.2.1 ho;exact⟨⟨h.1,c1,trivial⟩,c2,by simp[addM]⟩
 | _ :: _ :: _ :: _,_,h,_,_=>by simp at h
theorem Jkj(hu:Jaz u){S:Cl}(h:okK 2000 S){q:List Pt}(he:tzE (Jam S.doc) u 1 q=0):good (edO u S q) S.doc/\okZ u (Jam S.doc) q=true/\chkE q (by_ u (Jam S.doc))=0/\edO u S q=inZ u 1 (Jam S.doc) q:=by
 have hd:encs (Jam S.doc)=S.doc:=JbM (Jmi h.V);obtain⟨h1,_,_,_,_,h6,h7,h8⟩:=sh_fine hu (fun r hr=>JbV hr) he;rw[hd]at h1;exact⟨h1,h7,h6,h8⟩
theorem ed_no{S:Cl}{q:List Pt}(h:edE u S q=0):¬(60<q.length\/q.any JdO=true)/\tzE (Jam S.doc) u 1 q=0/\(Jaa (edO u S q) S.doc).length<=2000:=by
 unfold edE at h
 split at h
 . cases h
 rename_i h1
 split at h
 . rename_i h2;exact absurd h h2
 rename_i h2
 split at h
 . cases h
 exact⟨h1,by simpa using h2,by omega⟩
theorem Jsc(hu:Jaz u){S:Cl}(h:okK 2000 S)(q:List Pt):okK 2000 (edS u S q):=by
 unfold edS
 by_cases he:edE u S q=0
 . rw [if_pos he]
   obtain⟨h1,h2,h3⟩:=ed_no he;obtain⟨g1,_⟩:=Jkj hu h h2;rw[h.doc]at g1;obtain⟨a1,a2,a3⟩:=Jtb (edO u S q) S.mine S.seen h.two h.all g1;have hp:Jal (edO u S q)<=2000:=by
    have:=Jm6 g1;rw[←h.doc]at this;omega
   refine⟨h.text,a1,by rw[a2,←h.doc],a3,?_⟩;show ∀m∈addM (edO u S q) S.mine,Jal m<=2000;have hal:=h.all;have hpu:=h.puts;have h2':=h.two;have hdoc:=h.doc;have a2:allM (addM (edO u S q) S.mine) S.seen=Jaa (edO u S q) S.doc:=by rw[a2,←h.doc]
   rcases hm:S.mine with _|⟨m,_|⟨m2,_|⟨m3,ms⟩⟩⟩
   . intro y hy;simp only[addM,List.mem_singleton]at hy;rw[hy];exact hp
   . intro y hy
     rw[hm]at hpu;simp only[addM,List.mem_cons,List.not_mem_nil,or_false]at hy
     rcases hy with rfl|rfl
     . exact hpu _ (by simp)
     . exact hp
   . rw [hm]at hpu hal a1 a2
     intro y hy;simp only[addM,List.mem_cons,List.not_mem_nil,or_false]at hy
     rcases hy with rfl|rfl
     . exact hpu _ (by simp)
     . have g:=a1.2.1
       have:=Jm6 g;have e:Jaa (Jaq (JdU m2 (edO u S q))) (Jaa m S.seen)=Jaa (edO u S q) S.doc:=a2;rw[e]at this;omega
   . rw[hm]at h2';simp at h2'
 . rw[if_neg he];exact h
/-! Take -/
abbrev Jl5 (who:Int) (S:Cl) (c i:Int):Prop:=S.mine≠[]/\c=who/\i=S.id
def JbP (S:Cl):List Pt:=S.mine.headD []
def tkE (who:Int) (S:Cl) (rev c i:Int) (x:List Pt):Int :=
 if rev≠S.rev then 0 else if ordE x S.seen≠0 then 15 else if Jl5 who S c i/\Jaa (JbP S) S.seen≠Jaa x S.seen then 15 else 0
def tkS (who:Int) (S:Cl) (rev c i:Int) (x:List Pt):Cl :=
 if rev≠S.rev\/tkE who S rev c i x≠0 then S
 else if Jl5 who S c i then { S with seen:=Jaa x S.seen,rev:=S.rev+1,mine:=S.mine.tail,id:=if S.mine.tail≠[] then S.id+1 else S.id }
 else { S with seen:=Jaa x S.seen,rev:=S.rev+1,mine:=(Jbl S.mine x).1,doc:=Jaa (Jbl S.mine x).2 S.doc }
theorem tk_no{S:Cl}{rev c i:Int}{x:List Pt}(h:¬(rev≠S.rev\/tkE who S rev c i x≠0)):rev=S.rev/\ordE x S.seen=0/\(Jl5 who S c i->Jaa (JbP S) S.seen=Jaa x S.seen):=by
 have h1:rev=S.rev:=by
  by_cases e:rev=S.rev
  . exact e
  . exact absurd (.inl e) h
 have h2:tkE who S rev c i x=0:=by
  by_cases e:tkE who S rev c i x=0
  . exact e
  . exact absurd (.inr e) h
 unfold tkE at h2;rw[if_neg (by simpa using h1)]at h2
 split at h2
 . cases h2
 rename_i h3
 split at h2
 . cases h2
 rename_i h4
 refine⟨h1,by simpa using h3,fun ho=>?_⟩
 by_cases e:Jaa (JbP S) S.seen=Jaa x S.seen
 . exact e
 . exact absurd ⟨ho,e⟩ h4
theorem JnJ{S:Cl}(h:okK 2000 S)(rev c i:Int)(x:List Pt)(hs:S.seen.length+Jal x<=500000):okK 2000 (tkS who S rev c i x):=by
 unfold tkS
 by_cases hn:rev≠S.rev\/tkE who S rev c i x≠0
 . rw[if_pos hn];exact h
 rw[if_neg hn];obtain⟨h1,h2,h3⟩:=tk_no hn;have hx:=Jbs h.text h2
 by_cases ho:Jl5 who S c i
 . rw [if_pos ho]
   have h3:=h3 ho;have hal:=h.all;have hpu:=h.puts;have htw:=h.two;have hd:=h.doc;have hm:=ho.1;unfold JbP at h3
   rcases hm':S.mine with _|⟨m,ms⟩
   . exact absurd hm' hm
   . rw [hm']at hal hpu htw h3 hd
     have h3:Jaa m S.seen=Jaa x S.seen:=h3;refine⟨JgU hx.al,?_,?_,?_,fun y hy=>hpu y (List.mem_cons_of_mem _ hy)⟩
     . show Jhp ms (Jaa x S.seen)
       rw[←h3];exact hal.2
     . show S.doc=allM ms (Jaa x S.seen)
       rw[←h3];exact hd
     . show ms.length<=2
       simp at htw;omega
 . rw [if_neg ho]
   obtain⟨t1,t2,t3⟩:=Jd4 S.mine x S.seen hx h.all;obtain⟨p1,p2⟩:=Jd3 2000 S.mine x S.seen hx h.all h.puts (by have:=Nat.mul_le_mul_right 2000 h.two;omega) (by omega);refine⟨JgU hx.al,t1,?_,?_,p1⟩
   . show Jaa (Jbl S.mine x).2 S.doc=_
     rw[h.doc];exact t3
   . show(Jbl S.mine x).1.length<=2
     rw[JfQ];exact h.two
/-! Refused -/
def rfS (S:Cl) (i:Int):Cl:=if S.mine≠[]/\i=S.id then { S with mine:=[],doc:=S.seen,drops:=S.drops+1 } else S
theorem Jjd{S:Cl}(h:okK 2000 S)(i:Int):okK 2000 (rfS S i):=by
 unfold rfS
 split
 . exact⟨h.text,trivial,rfl,by simp,fun m hm=>by cases hm⟩
 . exact h
theorem Jdh{S:Cl}(h:okK 2000 S)(hm:S.mine≠[]):good (JbP S) S.seen/\Jal (JbP S)<=2000:=by
 unfold JbP;have hal:=h.all;have hpu:=h.puts
 rcases hm':S.mine with _|⟨m,ms⟩
 . exact absurd hm' hm
 . rw[hm']at hal hpu
   exact⟨hal.1,hpu m (by simp)⟩
end
section
open Go.RowKit Go.Maps
variable {w w' : World}{lo : Nat}{v : Value}{ps : List Pt}
structure sameBut (w w':World) (S:Nat->Prop):Prop where
 size:w.heap.size<=w'.heap.size
 block:∀k,k<w.heap.size->¬S k->w'.heap[k]?=w.heap[k]?
 os:w'.os=w.os
 tape:w'.tape=w.tape
 output:w'.output=w.output
theorem Jai(h:Below w.heap.size w w')(S:Nat->Prop):sameBut w w' S:=⟨h.size,fun k hk _=>h.block k hk,h.os,h.tape,h.output⟩
theorem JeU(w:World)(S:Nat->Prop):sameBut w w S:=⟨nlr _,fun _ _ _=>rfl,rfl,rfl,rfl⟩
theorem sameBut.trans{w w' w'':World}{S:Nat->Prop}(h:sameBut w w' S)(h':sameBut w' w'' S):sameBut w w'' S :=
 ⟨Nat.le_trans h.1 h'.1,fun k hk hs=>(h'.2 k (Nat.lt_of_lt_of_le hk h.1) hs).trans (h.2 k hk hs),h'.os.trans h.os,h'.tape.trans h.tape,h'.output.trans h.output⟩
theorem sameBut.mono{w w':World}{S S':Nat->Prop}(h:sameBut w w' S)(hs:∀k,k<w.heap.size->S k->S' k):sameBut w w' S' :=
 ⟨h.1,fun k hk hn=>h.2 k hk fun e=>hn (hs k hk e),h.os,h.tape,h.output⟩
theorem Jaj{w:World}{b o:Nat}{v:Value}{S:Nat->Prop}(hS:S b):sameBut w (w.setCell ⟨b,o,none⟩ v) S :=
 ⟨by simp,fun k hk hn=>Below.heap_setCell w ⟨b,o,none⟩ v k (fun e=>hn (e ▸ hS)),rfl,rfl,rfl⟩
theorem Jdt{w w':World}{row:Option Nat}{S:Nat->Prop}(h:w.grownBy w' row)(hS:∀k,row=some k->S k):sameBut w w' S :=
 ⟨h.size,fun k hk hn=>h.block k hk fun e=>hn (hS k e.symm),h.os,h.tape,h.output⟩
theorem JdW{w w':World}{S:Nat->Prop}(h:sameBut w w' S){b o:Nat}{v:Value}(hc:w.cell? ⟨b,o,none⟩=some v)(hS:¬S b):w'.cell? ⟨b,o,none⟩=some v :=
 (World.cell?_of_block (w:=w) (a:=⟨b,o,none⟩) (h.2 b (blt w _ hc) hS)).trans hc
def opX (lo:Nat) (w:World) (v:Value) (ps:List Pt):Prop:=opAt w v ps/\(ps≠[]->∀k,v.ownBlock=some k->k<lo\/∃cs fz,w.heap[k]?=some (.cells cs 50 fz))
def JdN (w:World) (k:Nat):Prop:=∀cs fz,w.heap[k]?≠some (.cells cs 50 fz)
theorem JaG{B:Nat}(h:opN B w v ps):opX lo w v ps:=⟨h.1,fun _ k hk=>.inr (h.2 k hk).2⟩
theorem JmB{lo:Nat}{w w':World}{v:Value}{ps:List Pt}{S:Nat->Prop}(h:opX lo w v ps)(hs:sameBut w w' S)(hS:∀k,S k->lo<=k/\JdN w k):opX lo w' v ps:=by
 obtain⟨⟨p,c,rfl,h1,h2,h3⟩,ht⟩:=h;have hn:ps≠[]->∀b o,p=some ⟨b,o,none⟩->¬S b:=fun hne b o e hSb=>by
  obtain⟨s1,s2⟩:=hS b hSb
  rcases ht hne b (by rw[e];rfl) with h|⟨cs,fz,h⟩
  . omega
  . exact s2 cs fz h
 refine⟨⟨p,c,rfl,h1,h2,fun hne=>?_⟩,fun hne k hk=>?_⟩
 . obtain⟨b,o,e,hb,hc⟩:=h3 hne
   refine⟨b,o,e,Nat.lt_of_lt_of_le hb hs.1,fun i q hi=>?_⟩;obtain⟨c0,c1,c2⟩:=hc i q hi;exact⟨JdW hs c0 (hn hne b o e),JdW hs c1 (hn hne b o e),JdW hs c2 (hn hne b o e)⟩
 . rcases ht hne k hk with h|⟨cs,fz,h⟩
   . exact .inl h
   . refine .inr ⟨cs,fz,(hs.2 k (alt h) fun hSk=>(hS k hSk).2 cs fz h).trans h⟩
theorem Jan(h:opX lo w v ps)(hb:Below w.heap.size w w'):opX lo w' v ps :=
 JmB (S:=fun _=>False) h (Jai hb _) fun _ h=>h.elim
structure SE where
 c:Int
 i:Int
 op:List Pt
def logC (E:List SE) (vs:List Value):List Value:=(E.zip vs).flatMap fun x=>[.int .i64 x.1.c,.int .i64 x.1.i,x.2]
def JoN (e:TypeId) (lo base:Nat) (w:World) (v1:Value) (E:List SE):Prop :=
 ∃vs,vs.length=E.length/\w.ownsRow base e 3 v1 E.length (logC E vs)/\∀(i:Nat) (x:SE) (v:Value),E[i]?=some x->vs[i]?=some v->opX lo w v x.op
theorem Jft{w w':World}{B e size n:Nat}{v:Value}{xs:List Value}{S:Nat->Prop}(h:w.ownsRow B e size v n xs)(hs:sameBut w w' S)(hS:∀k,v.ownBlock=some k->¬S k):w'.ownsRow B e size v n xs:=by
 obtain⟨h0,hrow⟩:=h;refine⟨h0,?_⟩
 rcases hrow with h1|⟨g,cap,cur,rfl,h2,h3,h4⟩
 . exact .inl h1
 . exact .inr ⟨g,cap,cur,rfl,h2,(hs.2 g (alt h3) (hS g rfl)).trans h3,h4⟩
theorem Jl6{e lo base:Nat}{w w':World}{v1:Value}{E:List SE}{S:Nat->Prop}(h:JoN e lo base w v1 E)(hs:sameBut w w' S)(hS:∀k,S k->lo<=k/\JdN w k/\∀cs fz,w.heap[k]?≠some (.cells cs e fz)):JoN e lo base w' v1 E:=by
 obtain⟨vs,h1,h2,h3⟩:=h;refine⟨vs,h1,Jft h2 hs fun k hk hSk=>?_,fun i x v hx hv=>JmB (h3 i x v hx hv) hs fun k hk=>⟨(hS k hk).1,(hS k hk).2.1⟩⟩
 rcases h2.2 with ⟨rfl,_⟩|⟨g,cap,cur,rfl,_,hg,_⟩
 . cases hk
 . obtain rfl:g=k:=osi hk
   exact(hS g hSk).2.2 _ _ hg
theorem Jig{e base:Nat}{v1:Value}{E:List SE}(h:JoN e lo base w v1 E)(hb:Below w.heap.size w w'):JoN e lo base w' v1 E :=
 Jl6 (S:=fun _=>False) h (Jai hb _) fun _ h=>h.elim
def pairD (a b:Int):DataW Unit:=.agg [.lit (.int .i64 a),.lit (.int .i64 b)]
def pairR (v:Value):Option (DataW Unit×List MemPlace) :=
 match v with
 | .agg cs=>(match cs.toList with
  | [.int k a,.int k' b]=>if k=.i64/\k'=.i64 then some (pairD a b,[]) else none
  | _=>none)
 | _=>none
def rng (c:Int):Prop:=-9223372036854775808<=c/\c<9223372036854775808
abbrev Told:=Int->Option (Int×Int)
def got (M:Told) (c:Int):Int×Int:=(M c).getD (0,0)
def upd (M:Told) (c:Int) (x:Int×Int):Told:=fun k=>if k=c then some x else M k
def Jl7 (n:Nat) (w:World) (bm:Nat) (M:Told):Prop :=
 ∃D,w.ownsMap Tryz.prog 3 pairR bm n D/\∀c,rng c->D.atKey (.int .i64 c) (pairD 0 0)=pairD (got M c).1 (got M c).2/\Maps.has D (.int .i64 c)=(M c).isSome
theorem JgI{n:Nat}{w w':World}{bm:Nat}{M:Told}{S:Nat->Prop}(h:Jl7 n w bm M)(hs:sameBut w w' S)(hS:¬S bm):Jl7 n w' bm M:=by
 obtain⟨D,h1,h2⟩:=h;refine⟨D,?_,h2⟩;have hlt:=h1.lt;obtain⟨es,clock,hb,F,hn,hD⟩:=h1;exact⟨es,clock,(hs.2 bm hlt hS).trans hb,F,hn,hD⟩
end
section
open Go.RowKit
attribute [local go_sem] Oper.semAt_some
theorem Jjs(u:List UInt8)(hu:u.length<=10000000)(w:World):Calls Tryz.prog 112 #[.string ⟨u.toArray⟩] w fun e w'=>e=.returned (.string ⟨u.toArray⟩)/\Below w.heap.size w w':=by
 have c:=Tryz.stringslite_Clone ⟨u.toArray⟩ w (by simp[ByteArray.size];omega);have C:=hdz c;clear c
 go_enter Tryz.func112,Tryz.ntmps112
 go_wp2_with (go_at_call 176;refine Calls.mono C.out ?_;rintro e w1 ⟨rfl,hb1⟩)
 go_ret;exact⟨rfl,hb1⟩
theorem Jpl(w:World)(n:Nat)(hn:w.heap.size=n)(l:List Value)(t:TypeId):∀j u,l[j]?=some u->(w.alloc (.cells l.toArray t)).cell? ((⟨n,0,none⟩:Addr).add j)=some u:=by
 subst hn;intro j u hj;rw[Addr.add_lit,Nat.zero_add];have h:=heap_alloc_new w (.cells l.toArray t);unfold World.cell?;rw[h];simpa using hj
variable {ps : List Pt}{len : Int}
structure okOp (ps:List Pt) (len:Int):Prop where
 one:∀p∈ps,oneP p
 put:∀p∈ps,V p.put
 long:Jag ps=len
theorem Jmp:∀(ps:List Pt),wts ps=Jag ps+Jal ps
 | []=>by simp[wts,Jag,Jal]
 | p :: ps=>by
  have ih:=Jmp ps;have e1:wts (p :: ps)=wtP p+wts ps:=by simp[wts]
  have e2:Jal (p :: ps)=p.put.length+Jal ps:=by simp[Jal]
  rw[e1,e2,Jbo,ih];unfold wtP lenP;omega
theorem JnQ:∀(ps:List Pt),(∀p∈ps,oneP p)->(ps.length:Int)<=wts ps
 | [],_=>by simp[wts]
 | p :: ps,h=>by
  have ih:=JnQ ps fun q hq=>h q (by simp[hq]);have e1:wts (p :: ps)=wtP p+wts ps:=by simp[wts]
  have h1:=JaE (h p (by simp));have e2:Jad p=wtP p:=rfl;rw[e1,List.length_cons];omega
theorem JaH(p:Pt):∀(qs:List Pt),p∈qs->p.put.length<=Jal qs
 | [],h=>by cases h
 | q :: qs,h=>by
  have e:Jal (q :: qs)=q.put.length+Jal qs:=by simp[Jal]
  rw[e]
  rcases List.mem_cons.1 h with rfl|h
  . omega
  . have:=JaH p qs h;omega
theorem okOp.fine(h:okOp ps len)(hb:len+Jal ps<1000000):fineP ps:=by
 have h1:=Jmp ps;have h2:=JnQ ps h.one;have h3:=h.long;exact⟨h.one,by omega,by omega⟩
theorem okOp.chk(h:okOp ps len):chkE ps len=0:=Jt0 h.one h.put h.long
theorem okOp.wf(h:okOp ps len)(hb:len+Jal ps<1000000):∀p∈ps,wfP p:=fun p hp=>by
 have h1:=Jh0 (h.one p hp);have h2:=JaH p ps hp
 have h3:lenP p<=Jag ps:=by
  have:=h.one;clear hb h2 h1;revert hp this;generalize h.long=hl;clear hl;intro hp hone;clear h
  induction ps with
  | nil=>cases hp
  | cons q ps ih =>
   rw[Jbo];have hq:=JhV (hone q (by simp));have hr:=Jgh (ps:=ps) fun x hx=>hone x (by simp[hx])
   rcases List.mem_cons.1 hp with rfl|hp
   . omega
   . have:=ih hp (fun x hx=>hone x (by simp[hx]));omega
 have h4:=h.long;unfold lenP at h3;exact⟨by omega,by omega,by omega,by omega,by omega⟩
theorem okOp.lens(h:okOp ps len)(hb:len+Jal ps<1000000):(Jar ps).1=len:=by
 have hs:=Jak h.one;have h1:=(Jcx ps hs (by have:=Jmp ps;have:=h.long;omega)).1;have h2:=JbJ ps hs;rw[h1,JbB];have h3:=h.long;have h4:((JaX [] ps).1.length:Int)=Jea ps:=rfl;rw[h4,h2,h3]
theorem okOp.trans{a b:List Pt}{len:Int}(ha:okOp a len)(hb:okOp b len)(h1:len+Jal a<1000000)(h2:len+Jal b<1000000):okOp (Jaq (Jaw false a b)) ((b.map isP).sum)/\Jal (Jaq (Jaw false a b))=Jal a:=by
 obtain⟨k1,k2,k3,k4⟩:=JpJ false (ha.fine h1) (hb.fine h2) ha.put (ha.long.trans hb.long.symm);exact⟨⟨k1,k2,k3⟩,k4⟩
theorem JmF(h:chkE ps len=0):okOp ps len:=by
 obtain⟨h1,h2,h3⟩:=Jjt h;exact⟨fun p hp=>Jqx (h1 p hp).1,fun p hp=>Jg2 (h1 p hp).2,h2⟩
def Jhj:Int->List SE->Prop
 | _,[]=>True
 | len,x :: E=>okOp x.op len/\Jal x.op<=40000/\0<=(x.op.map isP).sum/\(x.op.map isP).sum<=3000/\Jhj ((x.op.map isP).sum) E
def endE:Int->List SE->Int
 | len,[]=>len
 | _,x :: E=>endE ((x.op.map isP).sum) E
def Jel (ps:List Pt) (E:List SE):List Pt:=E.foldl (fun a x=>Jaq (Jaw false a x.op)) ps
theorem Jny:∀(E:List SE)(ps:List Pt)(len:Int),okOp ps len->Jal ps<=40000->len<=3000->Jhj len E->okOp (Jel ps E) (endE len E)/\Jal (Jel ps E)=Jal ps
 | [],ps,len,h,_,_,_=>⟨h,rfl⟩
 | x :: E,ps,len,h,hp,hl,hc=>by
  obtain⟨c1,c2,c3,c4,c5⟩:=hc;obtain⟨k1,k2⟩:=h.trans c1 (by omega) (by omega);obtain⟨i1,i2⟩:=Jny E _ _ k1 (by omega) c4 c5;exact⟨i1,i2.trans k2⟩
end
section
open Go.RowKit Go.Maps
variable {n bm lo b : Nat}{w w' : World}{M : Told}{t : List UInt8}{E : List SE}{l0 : Int}
theorem sameBut.comp{w w' w'':World}{S S':Nat->Prop}(h:sameBut w w' S)(h':sameBut w' w'' S')(hs:∀k,k<w.heap.size->S' k->S k):sameBut w w'' S :=
 ⟨Nat.le_trans h.1 h'.1,fun k hk hn=>(h'.2 k (Nat.lt_of_lt_of_le hk h.1) fun e=>hn (hs k hk e)).trans (h.2 k hk hn),h'.os.trans h.os,h'.tape.trans h.tape,h'.output.trans h.output⟩
theorem JaP{w:World}{k:Nat}{cs:Array Value}{T:TypeId}{fz:Nat×Nat}(h:w.heap[k]?=some (.cells cs T fz))(hT:T≠50):JdN w k:=fun cs' fz' e=>by
 rw[h]at e;injection e with e;injection e with _ e2;exact hT e2
theorem JqD(h:Jl7 n w bm M):bm<w.heap.size:=by
 obtain⟨D,h1,_⟩:=h;exact h1.lt
theorem Jbb{lo:Nat}{w w':World}{v:Value}{ps:List Pt}{S:Nat->Prop}(h:opX lo w v ps)(hs:sameBut w w' S)(hS:∀k,k<w.heap.size->S k->lo<=k/\JdN w k):opX lo w' v ps :=
 JmB (S:=fun k=>k<w.heap.size/\S k) h ⟨hs.1,fun k hk hn=>hs.2 k hk fun e=>hn ⟨hk,e⟩,hs.os,hs.tape,hs.output⟩ fun k e=>hS k e.1 e.2
def Jsq (lo n:Nat) (w:World) (b bm:Nat) (t:List UInt8) (E:List SE) (M:Told):Prop :=
 lo<=b/\lo<=bm/\(∃v1,w.heap[b]?=some (.cells #[.string ⟨t.toArray⟩,v1,.map (some bm)] 196 (0,0))/\JoN 105 lo lo w v1 E)/\Jl7 n w bm M
def docsC (D:List (List UInt8)):List Value:=D.map fun d=>.string ⟨d.toArray⟩
def isRef (lo n:Nat) (w:World) (b bm:Nat) (D:List (List UInt8)) (E:List SE) (M:Told):Prop :=
 lo<=b/\lo<=bm/\(∃v0 v1,w.heap[b]?=some (.cells #[v0,v1,.map (some bm)] 84 (0,0))/\w.ownsRow lo 9 1 v0 D.length (docsC D)/\JoN 103 lo lo w v1 E)/\Jl7 n w bm M
theorem Jcw{w:World}{k:Nat}{cs cs':Array Value}{T T':TypeId}{fz fz':Nat×Nat}(h:w.heap[k]?=some (.cells cs T fz))(h':w.heap[k]?=some (.cells cs' T' fz')):T=T':=by
 rw[h]at h';injection h' with e;injection e with _ e2
theorem JmL(h:Jsq lo n w b bm t E M)(hb:Below w.heap.size w w'):Jsq lo n w' b bm t E M:=by
 obtain⟨h1,h2,⟨v1,h3,h4⟩,h5⟩:=h;exact⟨h1,h2,⟨v1,(hb.block b (alt h3)).trans h3,Jig h4 hb⟩,JgI (S:=fun _=>False) h5 (Jai hb _) id⟩
theorem JmN{D:List (List UInt8)}(h:isRef lo n w b bm D E M)(hb:Below w.heap.size w w'):isRef lo n w' b bm D E M:=by
 obtain⟨h1,h2,⟨v0,v1,h3,h30,h4⟩,h5⟩:=h;exact⟨h1,h2,⟨v0,v1,(hb.block b (alt h3)).trans h3,JaR h30 hb,Jig h4 hb⟩,JgI (S:=fun _=>False) h5 (Jai hb _) id⟩
/-! what is done -/
def doE (l0:Int) (t:List UInt8) (E:List SE) (rev:Int) (ps:List Pt):Int :=
 if rev<0\/(E.length:Int)<rev then 2 else if 300<=E.length then 4
 else if chkE ps (endE l0 (E.take rev.toNat))≠0 then chkE ps (endE l0 (E.take rev.toNat))
 else if ordE (Jel ps (E.drop rev.toNat)) t≠0 then ordE (Jel ps (E.drop rev.toNat)) t
 else if 2000<(Jaa (Jel ps (E.drop rev.toNat)) t).length then 12 else 0
structure okS (l0:Int) (t:List UInt8) (E:List SE):Prop where
 text:V t
 room:t.length<=2000
 pos:0<=l0
 top:l0<=3000
 chain:Jhj l0 E
 last:endE l0 E=t.length
theorem Jjv:∀(E:List SE)(l0:Int)(x:SE),Jhj l0 E->okOp x.op (endE l0 E)->Jal x.op<=40000->0<=(x.op.map isP).sum->(x.op.map isP).sum<=3000->Jhj l0 (E++[x])/\endE l0 (E++[x])=(x.op.map isP).sum
 | [],l0,x,_,h1,h2,h3,h4=>⟨⟨h1,h2,h3,h4,trivial⟩,rfl⟩
 | y :: E,l0,x,h,h1,h2,h3,h4=>by
  obtain⟨c1,c2,c3,c4,c5⟩:=h;obtain⟨i1,i2⟩:=Jjv E _ x c5 h1 h2 h3 h4;exact⟨⟨c1,c2,c3,c4,i1⟩,i2⟩
theorem Jjw:∀(E:List SE)(l0:Int)(k:Nat),Jhj l0 E->Jhj (endE l0 (E.take k)) (E.drop k)/\endE (endE l0 (E.take k)) (E.drop k)=endE l0 E
 | E,l0,0,h=>⟨h,rfl⟩
 | [],l0,k+1,_=>⟨trivial,rfl⟩
 | y :: E,l0,k+1,h=>Jjw E _ k h.2.2.2.2
theorem Jim:∀(E:List SE)(l0:Int)(k:Nat),Jhj l0 E->0<=l0->l0<=3000->0<=endE l0 (E.take k)/\endE l0 (E.take k)<=3000
 | E,l0,0,_,h,h'=>⟨h,h'⟩
 | [],l0,k+1,_,h,h'=>⟨h,h'⟩
 | y :: E,l0,k+1,h,_,_=>Jim E _ k h.2.2.2.2 h.2.2.1 h.2.2.2.1
theorem Jrh(h:okS l0 t E){ps:List Pt}{k:Nat}(hp:Jal ps<=40000)(hc:chkE ps (endE l0 (E.take k))=0):okOp (Jel ps (E.drop k)) t.length/\Jal (Jel ps (E.drop k))=Jal ps:=by
 obtain⟨c1,c2⟩:=Jjw E l0 k h.chain;obtain⟨e1,e2⟩:=Jim E l0 k h.chain h.pos h.top;obtain⟨k1,k2⟩:=Jny (E.drop k) ps _ (JmF hc) hp e2 c1;rw[c2,h.last]at k1;exact⟨k1,k2⟩
theorem do_next(h:okS l0 t E){ps:List Pt}{c i rev:Int}(hp:Jal ps<=40000)(hd:doE l0 t E rev ps=0) :
    okS l0 (Jaa (Jel ps (E.drop rev.toNat)) t) (E++[⟨c,i,Jel ps (E.drop rev.toNat)⟩]):=by
 unfold doE at hd
 split at hd
 . cases hd
 split at hd
 . cases hd
 split at hd
 . rename_i h1;exact absurd hd h1
 rename_i hc
 split at hd
 . rename_i h1;exact absurd hd h1
 rename_i ho
 split at hd
 . cases hd
 rename_i hl
 have hc:chkE ps (endE l0 (E.take rev.toNat))=0:=by simpa using hc
 have ho:ordE (Jel ps (E.drop rev.toNat)) t=0:=by simpa using ho
 obtain⟨k1,k2⟩:=Jrh h hp hc;have hg:=Jbs h.text ho;have hlen:=Jiy _ t hg.left;obtain⟨i1,i2⟩:=Jjv E l0 ⟨c,i,Jel ps (E.drop rev.toNat)⟩ h.chain (by rw[h.last];exact k1) (by rw[k2];exact hp) (by rw[←hlen];omega) (by rw[←hlen];omega);exact⟨JgU hg.al,by omega,h.pos,h.top,i1,by rw[i2,hlen]⟩
end
section
open Go.RowKit Go.Maps
variable {lo b y : Nat}{w w' : World}{v : Value}{ms : List (List Pt)}{who u who' u' : Int}{S S' : Cl}
def JcA (lo:Nat) (w:World) (v:Value) (ms:List (List Pt)):Prop :=
 ∃vs:List Value,vs.length=ms.length/\w.ownsRow lo 23 1 v ms.length vs/\∀(i:Nat) (m:List Pt) (x:Value),ms[i]?=some m->vs[i]?=some x->opX lo w x m
theorem JcX{lo:Nat}{w w':World}{v:Value}{ms:List (List Pt)}{S:Nat->Prop}(h:JcA lo w v ms)(hs:sameBut w w' S)(hS:∀k,k<w.heap.size->S k->lo<=k/\JdN w k)(hrow:∀k,v.ownBlock=some k->¬S k):JcA lo w' v ms:=by
 obtain⟨vs,h1,h2,h3⟩:=h;exact⟨vs,h1,Jft h2 hs hrow,fun i m x hm hx=>Jbb (h3 i m x hm hx) hs hS⟩
theorem JbL(h:JcA lo w v ms)(hb:Below w.heap.size w w'):JcA lo w' v ms :=
 JcX (S:=fun _=>False) h (Jai hb _) (fun _ _ h=>h.elim) fun _ _ h=>h.elim
theorem JbW(h:JcA lo w v ms):∃p c,v=.slice p ms.length c:=by
 obtain⟨vs,_,h2,_⟩:=h;exact Jae h2
theorem Jjh(lo:Nat)(w:World):JcA lo w (.slice none 0 0) []:=⟨[],rfl,World.ownsRow_nil _ _ _ _,fun i m x hm=>by simp at hm⟩
theorem Jca(h:JcA lo w v ms){k:Nat}(hk:v.ownBlock=some k):lo<=k/\k<w.heap.size/\∃cs,w.heap[k]?=some (.cells cs 23 (0,0)):=by
 obtain⟨vs,_,h2,_⟩:=h
 rcases h2.2 with ⟨rfl,_⟩|⟨g,cap,cur,rfl,h3,h4,_⟩
 . cases hk
 . obtain rfl:g=k:=osi hk
   exact⟨h3,(alt h4),_,h4⟩
def Jb2 (who u:Int) (S:Cl) (vm:Value):Array Value:=#[.int .i64 who,.int .i64 u,.int .i64 S.rev,.string ⟨S.seen.toArray⟩,vm,.string ⟨S.doc.toArray⟩,.int .i64 S.id,.int .i64 S.drops]
def isCl (lo:Nat) (w:World) (b:Nat) (who u:Int) (S:Cl):Prop :=
 lo<=b/\∃vm,w.heap[b]?=some (.cells (Jb2 who u S vm) 203 (0,0))/\JcA lo w vm S.mine
def ownC (w:World) (b k:Nat):Prop:=k=b\/∃vm,w.cell? ⟨b,4,none⟩=some vm/\vm.ownBlock=some k
theorem Jc5(h:isCl lo w b who u S):b<w.heap.size:=by
 obtain⟨_,vm,h3,_⟩:=h;exact(alt h3)
theorem JeW(h:isCl lo w b who u S){k:Nat}(hk:ownC w b k):lo<=k/\k<w.heap.size/\∃cs T,w.heap[k]?=some (.cells cs T (0,0))/\(T=203\/T=23):=by
 obtain⟨h1,vm,h3,h4⟩:=h
 rcases hk with rfl|⟨vm',e,hk⟩
 . exact⟨h1,(alt h3),_,_,h3,.inl rfl⟩
 . have x4:=ce h3 4 rfl
   rw[x4]at e;obtain rfl:=osi e;obtain⟨a,b,cs,c⟩:=Jca h4 hk;exact⟨a,b,cs,_,c,.inr rfl⟩
theorem JhU(h:isCl lo w b who u S){k:Nat}(hk:ownC w b k):JdN w k:=by
 obtain⟨_,_,cs,T,h1,h2⟩:=JeW h hk;exact JaP h1 (by rcases h2 with rfl|rfl<;>decide)
theorem Jke{lo:Nat}{w w':World}{b:Nat}{who u:Int}{S:Cl}{X:Nat->Prop}(h:isCl lo w b who u S)(hs:sameBut w w' X)(hX:∀k,k<w.heap.size->X k->lo<=k/\JdN w k)(hn:∀k,X k->¬ownC w b k):isCl lo w' b who u S:=by
 obtain⟨h1,vm,h3,h4⟩:=h;have x4:=ce h3 4 rfl;exact⟨h1,vm,(hs.2 b (alt h3) fun e=>hn b e (.inl rfl)).trans h3,JcX h4 hs hX fun k hk e=>hn k e (.inr ⟨vm,x4,hk⟩)⟩
theorem Jbw(h:isCl lo w b who u S)(hb:Below w.heap.size w w'):isCl lo w' b who u S :=
 Jke (X:=fun _=>False) h (Jai hb _) (fun _ _ h=>h.elim) fun _ h=>h.elim
theorem JhT{w w':World}{b k:Nat}{X:Nat->Prop}(hs:sameBut w w' X)(hb:b<w.heap.size)(hn:¬X b)(h:ownC w' b k):ownC w b k:=by
 rcases h with rfl|⟨vm,e,hk⟩
 . exact .inl rfl
 . exact .inr ⟨vm,(World.cell?_of_block (w:=w) (a:=⟨b,4,none⟩) (hs.2 b hb hn)).symm.trans e,hk⟩
def keptC (w w':World) (b:Nat):Prop:=sameBut w w' (ownC w b)/\∀k,ownC w' b k->ownC w b k\/w.heap.size<=k
theorem JbO(h:Below w.heap.size w w')(hb:b<w.heap.size):keptC w w' b :=
 ⟨Jai h _,fun k hk=>.inl (JhT (X:=fun _=>False) (Jai h _) hb id hk)⟩
theorem keptC.trans{w'':World}(h:keptC w w' b)(h':keptC w' w'' b):keptC w w'' b :=
 ⟨h.1.comp h'.1 fun k hk e=>(h.2 k e).elim id fun hk'=>absurd hk (by omega),fun k hk=>(h'.2 k hk).elim (h.2 k) fun hk'=>.inr (Nat.le_trans h.1.1 hk')⟩
def JbI (who u:Int) (S:Cl) (v1 v2:Value):Array Value:=#[.int .i64 who,.int .i64 u,.string ⟨S.doc.toArray⟩,.string ⟨S.seen.toArray⟩,.int .i64 S.rev,.int .i64 S.id,v1,v2,.bool (decide (1<=S.mine.length)),.bool (decide (2<=S.mine.length)),.int .i64 S.drops]
def Jau (S:Cl) (i:Nat):List Pt:=(S.mine[i]?).getD []
def isRc (lo:Nat) (w:World) (y:Nat) (who u:Int) (S:Cl):Prop :=
 lo<=y/\∃v1 v2,w.heap[y]?=some (.cells (JbI who u S v1 v2) 98 (0,0))/\opX lo w v1 (Jau S 0)/\opX lo w v2 (Jau S 1)
theorem JeK(h:isRc lo w y who u S):y<w.heap.size:=by
 obtain⟨_,v1,v2,h3,_⟩:=h;exact(alt h3)
theorem JmO(h:isRc lo w y who u S):JdN w y:=by
 obtain⟨_,v1,v2,h3,_⟩:=h;exact JaP h3 (by decide)
theorem JnR{lo:Nat}{w w':World}{y:Nat}{who u:Int}{S:Cl}{X:Nat->Prop}(h:isRc lo w y who u S)(hs:sameBut w w' X)(hX:∀k,k<w.heap.size->X k->lo<=k/\JdN w k)(hn:¬X y):isRc lo w' y who u S:=by
 obtain⟨h1,v1,v2,h3,h4,h5⟩:=h;exact⟨h1,v1,v2,(hs.2 y (alt h3) hn).trans h3,Jbb h4 hs hX,Jbb h5 hs hX⟩
theorem Jeu(h:isRc lo w y who u S)(hb:Below w.heap.size w w'):isRc lo w' y who u S :=
 JnR (X:=fun _=>False) h (Jai hb _) (fun _ _ h=>h.elim) id
theorem Jif(h:isRc lo w y who u S)(h':isCl lo w b who' u' S')(hs:sameBut w w' (ownC w b)):isRc lo w' y who u S:=by
 refine JnR h hs (fun k _ hk=>⟨(JeW h' hk).1,JhU h' hk⟩) fun hk=>?_;obtain⟨_,_,cs,T,h1,h2⟩:=JeW h' hk;obtain⟨_,v1,v2,h3,_⟩:=h;have:=Jcw h1 h3;subst this
 rcases h2 with e|e<;>revert e<;>decide
theorem Jii(h:isCl lo w b who u S)(h':isRc lo w y who' u' S')(hs:sameBut w w' fun k=>k=y):isCl lo w' b who u S:=by
 refine Jke h hs (fun k _ hk=>by subst hk;exact⟨h'.1,JmO h'⟩) fun k hk hk2=>?_;subst hk;obtain⟨_,_,cs,T,h1,h2⟩:=JeW h hk2;obtain⟨_,v1,v2,h3,_⟩:=h';have:=Jcw h1 h3;subst this
 rcases h2 with e|e<;>revert e<;>decide
end
section
open Go.RowKit Go.Maps
attribute [local go_sem] Oper.semAt_some
variable {lo b : Nat}{w : World}{who u : Int}{S : Cl}
theorem Jex(h:isCl lo w b who u S) :
    Calls Tryz.prog 127 #[.pointer (some ⟨b,0,none⟩)] w fun e w'=>∃p c,e=.returned (.agg #[.int .i64 who,.int .i64 u,.int .i64 S.rev,.string ⟨S.seen.toArray⟩,.slice p S.mine.length c,.string ⟨S.doc.toArray⟩,.int .i64 S.id,.int .i64 S.drops])/\JcA lo w (.slice p S.mine.length c) S.mine/\Below w.heap.size w w':=by
 obtain⟨_,vm,h3,h4⟩:=h;obtain⟨p,c,rfl⟩:=JbW h4;have H4:=hdz h4;have hbw:b<w.heap.size:=(alt h3);unfold Jb2 at h3;have x0:=ce h3 0 rfl;have x1:=ce h3 1 rfl;have x2:=ce h3 2 rfl;have x3:=ce h3 3 rfl;have x4:=ce h3 4 rfl;have x5:=ce h3 5 rfl;have x6:=ce h3 6 rfl;have x7:=ce h3 7 rfl;clear h3 h4
 go_enter Tryz.func127,Tryz.ntmps127
 go_wp2;refine bodyPost_ret (v:=.agg #[.int .i64 who,.int .i64 u,.int .i64 S.rev,.string ⟨S.seen.toArray⟩,.slice p S.mine.length c,.string ⟨S.doc.toArray⟩,.int .i64 S.id,.int .i64 S.drops]) (by simp[results,Tryz.results127,go_sem]) rfl ⟨_,_,rfl,H4.out,?_⟩;exact(brf _ _).alloc (nlr _) _
theorem clF1(a b c d e:Int)(s t:ByteArray)(p:Option Addr)(n m:Nat)(w:World):(Instr.field 203 (.agg #[.int .i64 a,.int .i64 b,.int .i64 c,.string s,.slice p n m,.string t,.int .i64 d,.int .i64 e]) 1).run Tryz.prog w=.ok (.int .i64 b) w:=by kernel_rfl
theorem clF2(a b c d e:Int)(s t:ByteArray)(p:Option Addr)(n m:Nat)(w:World):(Instr.field 203 (.agg #[.int .i64 a,.int .i64 b,.int .i64 c,.string s,.slice p n m,.string t,.int .i64 d,.int .i64 e]) 2).run Tryz.prog w=.ok (.int .i64 c) w:=by kernel_rfl
theorem clF3(a b c d e:Int)(s t:ByteArray)(p:Option Addr)(n m:Nat)(w:World):(Instr.field 203 (.agg #[.int .i64 a,.int .i64 b,.int .i64 c,.string s,.slice p n m,.string t,.int .i64 d,.int .i64 e]) 3).run Tryz.prog w=.ok (.string s) w:=by kernel_rfl
theorem clF4(a b c d e:Int)(s t:ByteArray)(p:Option Addr)(n m:Nat)(w:World):(Instr.field 203 (.agg #[.int .i64 a,.int .i64 b,.int .i64 c,.string s,.slice p n m,.string t,.int .i64 d,.int .i64 e]) 4).run Tryz.prog w=.ok (.slice p n m) w:=by kernel_rfl
theorem clF5(a b c d e:Int)(s t:ByteArray)(p:Option Addr)(n m:Nat)(w:World):(Instr.field 203 (.agg #[.int .i64 a,.int .i64 b,.int .i64 c,.string s,.slice p n m,.string t,.int .i64 d,.int .i64 e]) 5).run Tryz.prog w=.ok (.string t) w:=by kernel_rfl
theorem clF7(a b c d e:Int)(s t:ByteArray)(p:Option Addr)(n m:Nat)(w:World):(Instr.field 203 (.agg #[.int .i64 a,.int .i64 b,.int .i64 c,.string s,.slice p n m,.string t,.int .i64 d,.int .i64 e]) 7).run Tryz.prog w=.ok (.int .i64 e) w:=by kernel_rfl
attribute [local go_sem] clF1 clF2 clF3 clF4 clF5 clF7
theorem Jpa(h:isCl lo w b who u S) :
    Calls Tryz.prog 54 #[.pointer (some ⟨b,0,none⟩)] w fun e w'=>e=.returned (.string ⟨S.doc.toArray⟩)/\Below w.heap.size w w':=by
 have C:Hid _:=Jex h;clear h
 go_enter Tryz.func54,Tryz.ntmps54
 go_wp2_with (go_at_call 127;refine Calls.mono C.out ?_;rintro e w1 ⟨pm,cm,rfl,hm,hb1⟩;have HB1:=hdz hb1;clear hm hb1)
 go_ret;exact⟨rfl,HB1.out⟩
theorem Jpf(h:isCl lo w b who u S) :
    Calls Tryz.prog 55 #[.pointer (some ⟨b,0,none⟩)] w fun e w'=>e=.returned (.string ⟨S.seen.toArray⟩)/\Below w.heap.size w w':=by
 have C:Hid _:=Jex h;clear h
 go_enter Tryz.func55,Tryz.ntmps55
 go_wp2_with (go_at_call 127;refine Calls.mono C.out ?_;rintro e w1 ⟨pm,cm,rfl,hm,hb1⟩;have HB1:=hdz hb1;clear hm hb1)
 go_ret;exact⟨rfl,HB1.out⟩
theorem JcB(h:isCl lo w b who u S) :
    Calls Tryz.prog 57 #[.pointer (some ⟨b,0,none⟩)] w fun e w'=>e=.returned (.int .i64 u)/\Below w.heap.size w w':=by
 have C:Hid _:=Jex h;clear h
 go_enter Tryz.func57,Tryz.ntmps57
 go_wp2_with (go_at_call 127;refine Calls.mono C.out ?_;rintro e w1 ⟨pm,cm,rfl,hm,hb1⟩;have HB1:=hdz hb1;clear hm hb1)
 go_ret;exact⟨rfl,HB1.out⟩
theorem JlS(h:isCl lo w b who u S) :
    Calls Tryz.prog 56 #[.pointer (some ⟨b,0,none⟩)] w fun e w'=>e=.returned (.int .i64 S.rev)/\Below w.heap.size w w':=by
 have C:Hid _:=Jex h;clear h
 go_enter Tryz.func56,Tryz.ntmps56
 go_wp2_with (go_at_call 127;refine Calls.mono C.out ?_;rintro e w1 ⟨pm,cm,rfl,hm,hb1⟩;have HB1:=hdz hb1;clear hm hb1)
 go_ret;exact⟨rfl,HB1.out⟩
theorem Jkr(h:isCl lo w b who u S) :
    Calls Tryz.prog 59 #[.pointer (some ⟨b,0,none⟩)] w fun e w'=>e=.returned (.int .i64 S.drops)/\Below w.heap.size w w':=by
 have C:Hid _:=Jex h;clear h
 go_enter Tryz.func59,Tryz.ntmps59
 go_wp2_with (go_at_call 127;refine Calls.mono C.out ?_;rintro e w1 ⟨pm,cm,rfl,hm,hb1⟩;have HB1:=hdz hb1;clear hm hb1)
 go_ret;exact⟨rfl,HB1.out⟩
theorem Jb8(h:isCl lo w b who u S) :
    Calls Tryz.prog 58 #[.pointer (some ⟨b,0,none⟩)] w fun e w'=>e=.returned (.bool (decide (0<S.mine.length)))/\Below w.heap.size w w':=by
 have C:Hid _:=Jex h;clear h
 go_enter Tryz.func58,Tryz.ntmps58
 go_wp2_with (go_at_call 127;refine Calls.mono C.out ?_;rintro e w1 ⟨pm,cm,rfl,hm,hb1⟩;have HB1:=hdz hb1;clear hm hb1)
 go_ret;exact⟨by simp,HB1.out⟩
end
section
open Go.RowKit
section
variable {P : Program} (w : World)
theorem JiA(base:Nat)(t ty e:TypeId)(i:TypeInfo)(z:Value)(size bytes:Nat)(ht:P.underlying t=some (.slice e))(hi:P.info? e=some i)(hz:i.zero=some z)
    (hsize:i.size=size) (hby:i.bytes=bytes) (hzs:z.cells.size=size) (hsz:0<size) (v:Value) (n:Nat) (xs:List Value) (hown:w.ownsRow base e size v n xs)
    (a:Addr) (m c:Nat) (news:List Value) (hl:news.length=m*size) (hnews:∀j u,news[j]?=some u->w.cell? (a.add j)=some u) (h1:∀u∈news,u.oneCell'=true)
    (h63:n+m<=maxLen) (hbytes:(n+m)*bytes<=140737488355328) (hbase:base<=w.heap.size) (hm:0<m) :
    ∃ v' w',(Builtin.append_ #[t,t] ty #[v,.slice (some a) m c]).run P w=.ok v' w'/\w'.ownsRow base e size v' (n+m) (xs++news)/\w.grownBy w' v.ownBlock /\
     ∀k,v'.ownBlock=some k->v.ownBlock=some k\/w.heap.size<=k:=by
 obtain⟨v',w',r1,r2,r3,_⟩:=run_append_own w base t ty e i z size bytes ht hi hz hsize hby hzs hsz v n xs hown a m c news hl hnews h1 h63 hbytes hbase;refine⟨v',w',r1,r2,r3,?_⟩;subst hsize;subst hby;have key:∀x y,(Builtin.append_ #[t,t] ty #[v,.slice (some a) m c]).run P w=.ok x y->x=v':=fun x y h=>by
  rw[h]at r1;injection r1
 unfold maxLen at h63
 rcases hown.2 with ⟨rfl,rfl⟩|⟨g,cap,cur,rfl,hbg,hg,hnc,hcm,hcs,htake⟩
 . have hr:=run_append_nil (P:=P) w t ty e i z ht hi hz a m c news hl hnews hm (by omega) (by have hb:=hbytes;simp only[Nat.zero_add]at hb;omega)
   have:=key _ _ hr;subst this;intro k hk;exact .inr (Nat.le_of_eq (osi hk))
 . by_cases hroom:n+m<=cap
   . obtain⟨w2,hr,_,_⟩:=run_append_fits (P:=P) w base t ty e i i.size ht hi rfl g n cap xs hown a m c news hl hnews h1 hroom
     have:=key _ _ hr;subst this;intro k hk;exact .inl hk
   . have holds:∀j u,xs[j]?=some u->w.cell? ((⟨g,0,none⟩:Addr).add j)=some u:=hown.cells (g:=g) rfl
     have hr:=run_append_grow (P:=P) w t ty e i z ht hi hz ⟨g,0,none⟩ n cap xs hown.1 holds a m c news hl hnews (by omega) (by omega) (growslice_fits (by omega) hbytes);have:=key _ _ hr;subst this;intro k hk;exact .inr (Nat.le_of_eq (osi hk))
theorem Jg3{ops:Array Oper}{rest:List Oper}{o:Oper}{a:Act}{Q:Exit->Act->World->Prop}(hgd:o.guard=none)(s x:Operand)(t:TypeId)
    (ho:o.op=.call { callee:=.builtin .append,args:=#[s,x],argTypes:=#[t,t] })
    (base:Nat) (e:TypeId) (i:TypeInfo) (z:Value) (size bytes:Nat) (ht:P.underlying t=some (.slice e)) (hi:P.info? e=some i) (hz:i.zero=some z)
    (hsize:i.size=size) (hby:i.bytes=bytes) (hzs:z.cells.size=size) (hsz:0<size) (v:Value) (n:Nat) (xs:List Value) (hs:a.eval s=v) (hown:w.ownsRow base e size v n xs)
    (ad:Addr) (m c:Nat) (news:List Value) (hx:a.eval x=.slice (some ad) m c) (hl:news.length=m*size) (hnews:∀j u,news[j]?=some u->w.cell? (ad.add j)=some u) (h1:∀u∈news,u.oneCell'=true)
    (h63:n+m<=maxLen) (hbytes:(n+m)*bytes<=140737488355328) (hbase:base<=w.heap.size) (hm:0<m)
    (h:∀v' w',w'.ownsRow base e size v' (n+m) (xs++news)->w.grownBy w' v.ownBlock->(∀k,v'.ownBlock=some k->v.ownBlock=some k\/w.heap.size<=k)->wpList P ops Q rest (a.put o.dst v') w'):wpList P ops Q (o :: rest) a w :=
 wpList_plain hgd fun K hK=>by
  obtain⟨v',w',hr,h2,h3,h4⟩:=JiA (P:=P) w base t o.type e i z size bytes ht hi hz hsize hby hzs hsz v n xs hown ad m c news hl hnews h1 h63 hbytes hbase hm;unfold Oper.wp execOp;simp only[ho,resolve,invoke,builtin,Sem.run_bind,Sem.run_pure,Result.andThen_ok,List.map_toArray,List.map_cons,List.map_nil,hs,hx,hr];exact hK _ _ (h v' w' h2 h3 h4)
end
end
section
open Go.RowKit Go.Maps
theorem Jcn{w:World}{b o:Nat}{cs:Array Value}{T:TypeId}(h:w.heap[b]?=some (.cells cs T (0,0))):w.frozen? ⟨b,o,none⟩=false:=by unfold World.frozen?;simp[h]
theorem Ji3{w:World}{k:Nat}{o o':Obj}(h:w.heap[k]?=some o):(w.alloc o').heap[k]?=some o :=
 (((brf w.heap.size w).alloc (nlr _) o').block k (alt h)).trans h
end
section
open Go.RowKit
structure GrowZ (Z:World->Prop) (G:World->World):Prop where
 grow:∀{w w':World},Z w->Below w.heap.size w w'->Z w'
 but:∀x,Z (G x)
 onto:∀w,Z w->G w=w
open Classical in
theorem Jdk{Z:World->Prop}{W:World}(hW:Z W)(h:∀{w w':World},Z w->Below w.heap.size w w'->Z w'):∃G,GrowZ Z G :=
 ⟨fun x=>if Z x then x else W,h,fun x=>by
  show Z (if Z x then x else W)
  split
  . assumption
  . exact hW,fun w h=>if_pos h⟩
section
variable {P : Program} {ops : Array Oper} {md : Region.Mode} {m : Nat} {Z : World → Prop} {Q : Exit → Act → World → Prop}
def anyZ (Z:World->Prop) (P:Program) (md:Region.Mode) (ops:Array Oper) (m:Nat) (Q:Exit->Act->World->Prop):Nat->Array Bool->Act->World->Prop
 | 0,listed,a,w=>Region.ready md ops listed=[]/\∀w',Below w.heap.size w w'->Q .normal a w'
 | fuel+1,listed,a,w =>
  (Region.ready md ops listed=[]->∀w',Below w.heap.size w w'->Q .normal a w') /\
  ∀i∈Region.ready md ops listed,∀w',Below w.heap.size w w'->opG P ops i (fun a' w''=>(i<m->Z w'->Z w'')/\anyZ Z P md ops m Q fuel (listed.setIfInBounds i true) a' w'') a w'
theorem Jiz:∀(fuel:Nat)(listed:Array Bool)(a:Act)(w:World),anyZ Z P md ops m Q fuel listed a w->wpAny P md ops Q fuel listed a w
 | 0,_,_,w,h=>⟨h.1,h.2 w (brf _ _)⟩
 | fuel + 1,listed,a,w,h=>⟨fun h0=>h.1 h0 w (brf _ _),fun i hi=>by
     have h1:=h.2 i hi w (brf _ _);have h2:=Jed (fun a' w'' hh=>Jiz fuel _ a' w'' hh.2) h1;unfold opG at h2;unfold wpOp
     split
     . rename_i ho;simp only[ho]at h2;exact h2
     . rename_i o ho
       simp only[ho]at h2
       split
       . rename_i hw;simp only[hw,if_true]at h2;exact .inl (JiI h2)
       . rename_i hw;simp only[hw]at h2;exact h2⟩
theorem Jf1:∀{fuel:Nat}{listed:Array Bool}{a:Act}{w w2:World},anyZ Z P md ops m Q fuel listed a w->Below w.heap.size w w2->anyZ Z P md ops m Q fuel listed a w2
 | 0,_,_,_,_,h,hb=>⟨h.1,fun w' hb'=>h.2 w' (hb.trans (hb'.mono hb.size))⟩
 | _+1,_,_,_,_,h,hb=>⟨fun h0 w' hb'=>h.1 h0 w' (hb.trans (hb'.mono hb.size)),fun i hi w' hb'=>h.2 i hi w' (hb.trans (hb'.mono hb.size))⟩
def JcE (Z:World->Prop) (P:Program) (ops:Array Oper) (o:Oper) (v:Value) (a:Act):Prop :=
 if Region.wanted o (yielded ops a.tmps) then ∀w',Z w'->Ja7 P w' v ((execOp a.eval o).run P w') else v=undef
theorem Jk9{o:Oper}{v:Value}{a a':Act}(hy:JcE Z P ops o v a)(he:execOp a'.eval o=execOp a.eval o)
    (hw:Region.wanted o (yielded ops a'.tmps)=Region.wanted o (yielded ops a.tmps)):JcE Z P ops o v a':=by
 unfold JcE at *;rw[hw,he];exact hy
theorem JcZ{i:Nat}{o:Oper}{v:Value}{a:Act}{w':World}(hi:ops[i]?=some o)(hy:JcE Z P ops o v a)(hb:Z w'){K:Act->World->Prop}
    (h:∀w'',Below w'.heap.size w' w''->K (a.put o.dst v) w''):opG P ops i K a w':=by
 unfold opG;simp only[hi];unfold JcE at hy
 split
 . rename_i hw
   rw[if_pos hw]at hy;have h3:=hy w' hb;generalize (execOp a.eval o).run P w'=r at *
   cases r with
   | ok n w2 =>
    cases n<;>simp only[Ja7]at h3<;>simp only[Jbe]
    case value u =>
     obtain⟨e1,e2⟩:=h3;rw[e2];exact h _ (by rw[e1];exact brf _ _)
    case skip =>
     obtain⟨e1,e2⟩:=h3;rw[←e2];exact h _ (by rw[e1];exact brf _ _)
    case enter f args =>
     obtain⟨e1,hc⟩:=h3;rw[e1];exact hc.mono fun e w'' ⟨he,hw''⟩=>⟨v,he,h _ hw''⟩
   | halt x w2=>simp only[Ja7]at h3
 . rename_i hw
   rw[if_neg hw]at hy;rw[←hy];exact h _ (brf _ _)
theorem JnI{j:Nat}{oi oj:Oper}{v:Value}(hj:ops[j]?=some oj)(hap:oi.apart ops oj=true)(hsi:∀cs b,oi.op≠.select cs b)(hsj:∀cs b,oj.op≠.select cs b)
    {K:Act->World->Prop} {a:Act} {w:World} (hy:JcE Z P ops oi v a) (h:opG P ops j K (a.put oi.dst v) w) :
    opG P ops j (fun a' w'=>JcE Z P ops oi v a'/\K (a'.put oi.dst v) w') a w:=by
 obtain⟨h1,h2,h3⟩:=Oper.apart_spec hap;have keep:∀u,JcE Z P ops oi v (a.put oj.dst u):=fun u=>Jk9 hy (execOp_put oi hsi a oj.dst u h3) (wanted_put oi a oj.dst u h3);unfold opG at *;simp only[hj]at *;rw[wanted_put oj a oi.dst v h1]at h
 split
 . rename_i hw
   simp only[hw,if_true]at h;rw[execOp_put oj hsj a oi.dst v h1]at h;generalize (execOp a.eval oj).run P w=r at *
   cases r with
   | ok n w2 =>
    cases n<;>simp only[Jbe]at h ⊢
    case value u=>exact⟨keep u,by rw[←Act.put_comm a v u h2];exact h⟩
    case skip=>exact⟨keep _,by rw[←Act.put_comm a v undef h2];exact h⟩
    case enter f args=>exact h.mono fun e w'' ⟨u,e1,e2⟩=>⟨u,e1,keep u,by rw[←Act.put_comm a v u h2];exact e2⟩
   | halt x w2=>simp only[Jbe]at h
 . rename_i hw
   simp only[hw]at h;exact⟨keep _,by rw[←Act.put_comm a v undef h2];exact h⟩
theorem Jj2(hZ:∀{w w':World},Z w->Below w.heap.size w w'->Z w'){i:Nat}{oi:Oper}{v:Value}(hi:ops[i]?=some oi)(him:i<m)(hsel:∀(j:Nat)(o:Oper) cs b,ops[j]?=some o->o.op≠.select cs b)(hlate:Jgj md ops m=true) :
    ∀ (fuel:Nat) (listed:Array Bool) (a:Act) (w:World),Z w ->
     (∀j oj,ops[j]?=some oj->j≠i->listed.getD j true=false->(∀e∈oj.after,Region.binds md e=true->e.on≠i)->oi.apart ops oj=true) ->
     i∈Region.ready md ops listed->JcE Z P ops oi v a ->
     anyZ Z P md ops m Q fuel (listed.setIfInBounds i true) (a.put oi.dst v) w->anyZ Z P md ops m Q (fuel+1) listed a w:=by
 intro fuel
 induction fuel with
 | zero =>
  intro listed a w hC _ hr hy H;refine⟨fun h=>(by rw[h]at hr;cases hr),fun j hj w' hb=>?_⟩
  by_cases hji:j=i
  . subst hji;exact JcZ hi hy (hZ hC hb) fun w'' hb'=>⟨fun _ h=>hZ h hb',Jf1 H (hb.trans (hb'.mono hb.size))⟩
  . have:=ready_mono hj hji
    rw[H.1]at this
    cases this
 | succ fuel ih =>
  intro listed a w hC hfree hr hy H;refine⟨fun h=>(by rw[h]at hr;cases hr),fun j hj w' hb=>?_⟩;have hC':=hZ hC hb
  by_cases hji:j=i
  . subst hji;exact JcZ hi hy hC' fun w'' hb'=>⟨fun _ h=>hZ h hb',Jf1 H (hb.trans (hb'.mono hb.size))⟩
  . have h1:=H.2 j (ready_mono hj hji) w' hb
    obtain⟨hjun,oj,hoj,hall⟩:=mem_ready.1 hj;have hnot:∀e∈oj.after,Region.binds md e=true->e.on≠i:=fun e he hb heq=>by
     have h1:=hall e he hb;have h0:=(mem_ready.1 hr).1;rw[heq]at h1
     rcases Nat.lt_or_ge i listed.size with h' | h'
     . simp[h']at h0 h1;rw[h0]at h1;cases h1
     . simp[Array.getElem?_eq_none h']at h1
    have hjm:j<m:=by
     by_cases hjm:j<m
     . exact hjm
     . obtain⟨e,he,hb,hon⟩:=Jic hlate hoj hjm him
       exact absurd hon (hnot e he hb)
    have h2:=JnI hoj (hfree j oj hoj hji hjun hnot) (fun cs b=>hsel i oi cs b hi) (fun cs b=>hsel j oj cs b hoj) hy h1
    have hfree':∀k ok,ops[k]?=some ok->k≠i->(listed.setIfInBounds j true).getD k true=false ->
        (∀e∈ok.after,Region.binds md e=true->e.on≠i)->oi.apart ops ok=true:=fun k ok hk hki hun hno=>by
     refine hfree k ok hk hki ?_ hno
     by_cases hjk:j=k
     . subst hjk;exact hjun
     . rw[getD_set_ne true hjk]at hun;exact hun
    refine Jed (fun a' w'' h3=>?_) h2;obtain⟨h3y,h3g,h3a⟩:=h3;refine⟨fun _=>h3g hjm,ih (listed.setIfInBounds j true) a' w'' (h3g hjm hC') hfree' (ready_mono hr (Ne.symm hji)) h3y ?_⟩;rw[Array.setIfInBounds_comm _ _ hji];exact h3a
theorem Ja9{i fuel:Nat}{o:Oper}{listed:Array Bool}{a:Act}{w:World}{G:World->World}(hG:GrowZ Z G)(hw0:Z w)(hi:ops[i]?=some o)(him:decide (i<m)=true)(hs:(Region.noSelect ops && Jgj md ops m)=true)
    (hf:(Region.free md ops listed i && (Region.ready md ops listed).contains i)=true)
    (h:∀K:Act->Prop,(∀a,anyZ Z P md ops m Q fuel (listed.setIfInBounds i true) a w->K a)->if Region.wanted o (yielded ops a.tmps) then ∃v,(∀x,Ja7 P (G x) v ((execOp a.eval o).run P (G x)))/\K (a.put o.dst v) else K (a.put o.dst undef)) :
    anyZ Z P md ops m Q (fuel+1) listed a w:=by
 have h1:=h _ fun _ h=>h;have him':i<m:=of_decide_eq_true him;rw[Bool.and_eq_true]at hs hf
 split at h1
 . rename_i hw
   obtain⟨v,h2,h3⟩:=h1;refine Jj2 hG.grow hi him' (Region.noSelect_spec hs.1) hs.2 fuel listed a w hw0 (Region.free_spec hi hf.1) (by simpa using hf.2) ?_ h3;unfold JcE;rw[if_pos hw];intro w' hb;have:=h2 w';rw[hG.onto w' hb]at this;exact this
 . rename_i hw
   refine Jj2 hG.grow hi him' (Region.noSelect_spec hs.1) hs.2 fuel listed a w hw0 (Region.free_spec hi hf.1) (by simpa using hf.2) ?_ h1;unfold JcE;rw[if_neg hw]
theorem az{fuel:Nat}{o:Oper}{listed:Array Bool}{a:Act}{w:World}{G:World->World}(hG:GrowZ Z G)(hw0:Z w)(i:Nat)
    (h:∀K:Act->Prop,(∀a,anyZ Z P md ops m Q fuel (listed.setIfInBounds i true) a w->K a)->if Region.wanted o (yielded ops a.tmps) then ∃v,(∀x,Ja7 P (G x) v ((execOp a.eval o).run P (G x)))/\K (a.put o.dst v) else K (a.put o.dst undef)) (hi:ops[i]?=some o:=by rfl) (him:decide (i<m)=true:=by kernel_rfl) (hs:(Region.noSelect ops && Jgj md ops m)=true:=by kernel_rfl) (hf:(Region.free md ops listed i && (Region.ready md ops listed).contains i)=true:=by kernel_rfl):anyZ Z P md ops m Q (fuel+1) listed a w :=
 Ja9 (i:=i) hG hw0 hi him hs hf h
theorem ay{fuel:Nat}{o:Oper}{listed:Array Bool}{a:Act}{w:World}{G:World->World}(hG:GrowZ Z G)(hw0:Z w)
    (h:∀K:Act->Prop,(∀a,anyZ Z P md ops m Q fuel (listed.setIfInBounds (m - (fuel+1)) true) a w->K a)->if Region.wanted o (yielded ops a.tmps) then ∃v,(∀x,Ja7 P (G x) v ((execOp a.eval o).run P (G x)))/\K (a.put o.dst v) else K (a.put o.dst undef)) (hi:ops[(m - (fuel+1))]?=some o:=by rfl) (him:decide ((m - (fuel+1))<m)=true:=by kernel_rfl) (hs:(Region.noSelect ops && Jgj md ops m)=true:=by kernel_rfl) (hf:(Region.free md ops listed (m - (fuel+1)) && (Region.ready md ops listed).contains (m - (fuel+1)))=true:=by kernel_rfl):anyZ Z P md ops m Q (fuel+1) listed a w :=
 Ja9 (i:=m - (fuel+1)) hG hw0 hi him hs hf h
def askZ (Z:World->Prop) (P:Program) (md:Region.Mode) (ops:Array Oper) (m:Nat) (Q:Exit->Act->World->Prop) (fuel:Nat) (listed:Array Bool) (a:Act) (w:World) (i:Nat):Prop :=
 ∃o,ops[i]?=some o/\∀w',Below w.heap.size w w'->∀K:Act->World->Prop,(∀a' w'',(Z w'->Z w'')->anyZ Z P md ops m Q fuel (listed.setIfInBounds i true) a' w''->K a' w'')->if Region.wanted o (yielded ops a.tmps) then Jbe P o a K ((execOp a.eval o).run P w') else K (a.put o.dst undef) w'
theorem JaI{i fuel:Nat}{listed:Array Bool}{a:Act}{w:World}(hr:Region.ready md ops listed=[i])(h:askZ Z P md ops m Q fuel listed a w i):anyZ Z P md ops m Q (fuel+1) listed a w:=by
 obtain⟨o,hi,h⟩:=h;refine⟨fun h0=>absurd (hr.symm.trans h0) (by simp),fun j hj w' hb=>?_⟩;rw[hr,List.mem_singleton]at hj;subst hj;unfold opG;simp only[hi];exact h w' hb _ fun a' w'' hb' ha=>⟨fun _=>hb',ha⟩
theorem JaA{fuel:Nat}{listed:Array Bool}{a:Act}{w:World}(hr:Region.ready md ops listed=[])(h:∀w',Below w.heap.size w w'->Q .normal a w'):anyZ Z P md ops m Q fuel listed a w:=by
 cases fuel with
 | zero=>exact⟨hr,h⟩
 | succ n=>exact⟨fun _=>h,fun i hi=>(by rw[hr]at hi;cases hi)⟩
theorem Je4{id:Nat}{a:Act}{w:World}{l:List Oper}(Z:World->Prop)(m n:Nat)(hm:P.follows .mixedOrders=true)(hn:l.length=n)
    (h:∀w',Below w.heap.size w w'->anyZ Z P .any l.toArray m Q n (Array.replicate n false) a w'):(Code.region id l.toArray true).wp P Q a w :=
 wp_region_any hm (Jiz (Z:=Z) _ _ _ _ (by subst hn;simpa using h { w with drawn:=w.drawn+1 } (Below.drew (brf _ w))))
theorem wzb{β:Nat}{o:Obj}{w w':World}(h:w.heap[β]?=some o)(hb:Below w.heap.size w w'):w'.heap[β]?=some o:=(hb.block β (alt h)).trans h
theorem wz{id:Nat}{a:Act}{w:World}{l:List Oper}(Z:World->Prop)(n:Nat)(hW:Z w)(hg:∀{w w':World},Z w->Below w.heap.size w w'->Z w')
    (h:∀w',Below w.heap.size w w'->Z w'->∀G,GrowZ Z G->anyZ Z P .any l.toArray n Q n (Array.replicate n false) a w') (hm:P.follows .mixedOrders=true:=by kernel_rfl) (hn:l.length=n:=by first | rfl | kernel_rfl):(Code.region id l.toArray true).wp P Q a w :=
 Je4 Z n n hm hn fun w' hb=>by
  obtain⟨G,hG⟩:=Jdk (hg hW hb) hg;exact h w' hb (hg hW hb) G hG
end
end
section
open Go.RowKit Go.Maps
attribute [local go_sem] Oper.semAt_some Ja7 Jbe
variable {w w' : World}{b lo : Nat}{who u : Int}{S : Cl}{vm vm' v : Value}{o : List Pt}{ms : List (List Pt)}{vs : List Value}
theorem Ja2(h3:w.heap[b]?=some (.cells (Jb2 who u S vm) 203 (0,0))) :
    w.cell? ⟨b,0,none⟩=some (.int .i64 who)/\w.cell? ⟨b,1,none⟩=some (.int .i64 u)/\w.cell? ⟨b,2,none⟩=some (.int .i64 S.rev)/\w.cell? ⟨b,3,none⟩=some (.string ⟨S.seen.toArray⟩)/\w.cell? ⟨b,4,none⟩=some vm/\w.cell? ⟨b,5,none⟩=some (.string ⟨S.doc.toArray⟩)/\w.cell? ⟨b,6,none⟩=some (.int .i64 S.id)/\w.cell? ⟨b,7,none⟩=some (.int .i64 S.drops)/\∀o,w.frozen? ⟨b,o,none⟩=false :=
 ⟨chp h3 0,chp h3 1,chp h3 2,chp h3 3,chp h3 4,chp h3 5,chp h3 6,chp h3 7,fun o=>Jcn h3⟩
theorem Jso(h4:w.cell? ⟨b,4,none⟩=some vm)(h4':w'.cell? ⟨b,4,none⟩=some vm')(hs:sameBut w w' fun k=>k=b\/vm.ownBlock=some k)(hn:∀k,vm'.ownBlock=some k->vm.ownBlock=some k\/w.heap.size<=k):keptC w w' b:=by
 refine⟨hs.mono fun k _ hk=>hk.imp id fun e=>⟨vm,h4,e⟩,fun k hk=>?_⟩
 rcases hk with rfl|⟨v,e,hk⟩
 . exact .inl (.inl rfl)
 . rw[h4']at e
   obtain rfl:=osi e;exact(hn k hk).imp (fun e=>.inr ⟨vm,h4,e⟩) id
theorem Jen{S':Cl}(hlo:lo<=b)(h3:w.heap[b]?=some (.cells (Jb2 who u S vm) 203 (0,0)))(h3':w'.heap[b]?=some (.cells (Jb2 who u S' vm') 203 (0,0)))(hm:JcA lo w' vm' S'.mine)
    (hs:sameBut w w' fun k=>k=b\/vm.ownBlock=some k) (hn:∀k,vm'.ownBlock=some k->vm.ownBlock=some k\/w.heap.size<=k):isCl lo w' b who u S'/\keptC w w' b :=
 ⟨⟨hlo,vm',h3',hm⟩,Jso (Ja2 h3).2.2.2.2.1 (Ja2 h3').2.2.2.2.1 hs hn⟩
theorem JsR(h:isCl lo w b who u S)(hm:S.mine=[])(v:Value)(o:List Pt)(hx:opX lo w v o)(hid:0<=S.id/\S.id<=1000000) :
    Calls Tryz.prog 121 #[.pointer (some ⟨b,0,none⟩),v] w fun e w'=>e=.returned (.tuple #[])/\isCl lo w' b who u { S with mine:=[o],id:=S.id+1 }/\keptC w w' b:=by
 have hlt:=Jc5 h;obtain⟨hlo,vm,h3,h4⟩:=h;obtain⟨p,c,rfl⟩:=JbW h4;have hl0:S.mine.length=0:=by rw[hm];rfl
 rw[hl0]at h3 h4;obtain⟨_,_,_,_,x4,_,x6,_,xf⟩:=Ja2 h3;have f4:=xf 4;have f6:=xf 6;obtain⟨pv,cv,rfl⟩:∃p c,v=.slice p o.length c:=by obtain⟨⟨p,c,e,_⟩,_⟩:=hx;exact⟨p,c,e⟩
 have H3:=hdz h3;have HX:=hdz hx;have hid1:wrap64 (S.id+1)=S.id+1:=Jax (by omega) (by omega);obtain⟨i0,i1⟩:=hid;generalize hon:o.length=on at *;have hne:b≠w.heap.size:=by omega
 clear h3 h4 hm hl0 hx xf
 go_enter Tryz.func121,Tryz.ntmps121
 go_wp2;go_end0;refine⟨rfl,?_⟩;have b1:=heap_setCell_same w b 4 _ _ (.slice (some ⟨w.heap.size,0,none⟩) 1 1) H3.out;have b2:=heap_setCell_same _ b 6 _ _ (.int .i64 (S.id+1)) b1;have hs1:sameBut w ((w.setCell ⟨b,4,none⟩ (.slice (some ⟨w.heap.size,0,none⟩) 1 1)).setCell ⟨b,6,none⟩ (.int .i64 (S.id+1))) (fun k=>k=b):=(Jaj (S:=fun k=>k=b) rfl).trans (Jaj (S:=fun k=>k=b) rfl);have hz1:((w.setCell ⟨b,4,none⟩ (.slice (some ⟨w.heap.size,0,none⟩) 1 1)).setCell ⟨b,6,none⟩ (.int .i64 (S.id+1))).heap.size=w.heap.size:=by rw[World.size_setCell,World.size_setCell]
 generalize (w.setCell ⟨b,4,none⟩ (.slice (some ⟨w.heap.size,0,none⟩) 1 1)).setCell ⟨b,6,none⟩ (.int .i64 (S.id+1))=W at *;have hs2:sameBut w (W.alloc (.cells #[.slice pv on cv] 23)) (fun k=>k=b):=hs1.trans (Jai ((brf _ _).alloc (nlr _) _) _);have hrow:=World.ownsRow_lit (e:=23) (base:=lo) (size:=1) W #[.slice pv on cv] 1 (by omega) (by unfold maxLen;omega) rfl;rw[hz1]at hrow;refine Jen hlo H3.out (Ji3 b2) ⟨[.slice pv on cv],rfl,hrow,fun i m x hi hx=>?_⟩ (hs2.mono fun k _ hk=>.inl hk) fun k hk=>.inr (Nat.le_of_eq (osi hk))
 cases i with
 | succ i=>simp at hi
 | zero =>
  obtain rfl:o=m:=by simpa using hi
  obtain rfl:Value.slice pv on cv=x:=by simpa using hx
  exact Jbb HX.out hs2 fun k _ hk=>by obtain rfl:=hk;exact⟨hlo,JaP H3.out (by decide)⟩
theorem info_op:(Tryz.prog.info? 23).map (fun i=>(i.zero,i.size,i.bytes))=some (some (.slice none 0 0),1,24):=by kernel_rfl
theorem Ja0(h:opX lo w v o):∃p c,v=.slice p o.length c:=by
 obtain⟨⟨p,c,e,_⟩,_⟩:=h;exact⟨p,c,e⟩
theorem JoI(p:Option Addr)(n c:Nat):∀x∈[Value.slice p n c],x.oneCell'=true:=by
 intro x hx;simp only[List.mem_singleton]at hx;subst hx;rfl
theorem Jq5{w6:World}{v1 v2 x:Value}(h1:vs.length=ms.length)(h2:w.ownsRow lo 23 1 v1 ms.length vs)(h3:∀(i:Nat)(m:List Pt)(y:Value),ms[i]?=some m->vs[i]?=some y->opX lo w y m)(hx:opX lo w x o)
    (hg:w.grownBy w6 v1.ownBlock) (hnew:w6.ownsRow lo 23 1 v2 (ms.length+1) (vs++[x])):JcA lo w6 v2 (ms++[o]):=by
 have hs:sameBut w w6 fun k=>v1.ownBlock=some k:=Jdt hg fun k e=>e;have hS:∀k,k<w.heap.size->v1.ownBlock=some k->lo<=k/\JdN w k:=fun k _ hk=>by
  obtain⟨a,b,cs,c⟩:=Jca ⟨vs,h1,h2,h3⟩ hk;exact⟨a,JaP c (by decide)⟩
 refine⟨vs++[x],by simp[h1],by rw[List.length_append,List.length_singleton];exact hnew,fun i m y hm hy=>?_⟩
 rcases Nat.lt_or_ge i ms.length with hi|hi
 . rw[List.getElem?_append_left hi]at hm
   rw[List.getElem?_append_left (by omega)]at hy;exact Jbb (h3 i m y hm hy) hs hS
 . have : i=ms.length:=by
     rcases Nat.lt_or_ge ms.length i with h|h
     . rw[List.getElem?_append_right hi]at hm
       obtain⟨j,hj⟩:∃j,i - ms.length=j+1:=⟨i - ms.length - 1,by omega⟩;rw[hj]at hm;simp at hm
     . omega
   subst this;rw[List.getElem?_append_right (nlr _),Nat.sub_self]at hm;rw[List.getElem?_append_right (by omega),h1,Nat.sub_self]at hy;obtain rfl:o=m:=by simpa using hm
   obtain rfl:x=y:=by simpa using hy
   exact Jbb hx hs hS
theorem JnK{g n c:Nat}(h1:vs.length=ms.length)(h2:w.ownsRow lo 23 1 (.slice (some ⟨g,0,none⟩) n c) ms.length vs)(h3:∀(i:Nat)(m:List Pt)(y:Value),ms[i]?=some m->vs[i]?=some y->opX lo w y m){x:Value}{o:List Pt}(hx:opX lo w x o)(j:Nat) :
    JcA lo (w.setCell ⟨g,j,none⟩ x) (.slice (some ⟨g,0,none⟩) n c) (ms.set j o)/\sameBut w (w.setCell ⟨g,j,none⟩ x) fun k=>(Value.slice (some ⟨g,0,none⟩) n c).ownBlock=some k:=by
 have hn:n=ms.length:=by
  rcases h2.2 with ⟨e,_⟩|⟨g',cap,cur,e,_⟩
  . cases e
  . injection e
 subst hn;obtain⟨r1,r2⟩:=World.ownsRow.stored h2 j x;have hs:sameBut w (w.setCell ⟨g,j,none⟩ x) fun k=>(Value.slice (some ⟨g,0,none⟩) ms.length c).ownBlock=some k:=Jdt r2 fun k e=>e;have hS:∀k,k<w.heap.size->(Value.slice (some ⟨g,0,none⟩) ms.length c).ownBlock=some k->lo<=k/\JdN w k:=fun k _ hk=>by
  obtain⟨a,b,cs,c⟩:=Jca ⟨vs,h1,h2,h3⟩ hk;exact⟨a,JaP c (by decide)⟩
 refine⟨⟨vs.set j x,by simp[h1],by rw[List.length_set];exact r1,fun i m y hm hy=>?_⟩,hs⟩
 by_cases hij:j=i
 . subst hij
   rw[List.getElem?_set]at hm hy;simp only[if_true]at hm hy
   split at hm
   . split at hy
     . obtain rfl:=osi hm
       obtain rfl:=osi hy;exact Jbb hx hs hS
     . cases hy
   . cases hm
 . rw[List.getElem?_set_ne hij]at hm hy
   exact Jbb (h3 i m y hm hy) hs hS
theorem JsQ(h:isCl lo w b who u S)(hm:S.mine.length=1)(v:Value)(o:List Pt)(hx:opX lo w v o) :
    Calls Tryz.prog 121 #[.pointer (some ⟨b,0,none⟩),v] w fun e w'=>e=.returned (.tuple #[])/\isCl lo w' b who u { S with mine:=S.mine++[o] }/\keptC w w' b:=by
 have hlt:=Jc5 h;obtain⟨hlo,vm,h3,h4⟩:=h;obtain⟨p,c,rfl⟩:=JbW h4;rw[hm]at h3 h4;obtain⟨_,_,_,_,x4,_,_,_,xf⟩:=Ja2 h3;obtain⟨pv,cv,rfl⟩:=Ja0 hx;have H3:=hdz h3;have HX:=hdz hx;have HM:=hdz hm;have hbw:Below w.heap.size w (w.alloc (.cells #[.slice pv o.length cv] 23)):=(brf _ _).alloc (nlr _) _;obtain⟨vs,m1,m2,m3⟩:=JbL h4 hbw;rw[hm]at m2;have M1:=hdz m1;have M2:=hdz m2;have M3:=hdz m3;have HMO:Hid (∀k,(Value.slice p 1 c).ownBlock=some k->lo<=k/\k<w.heap.size/\∃cs,w.heap[k]?=some (.cells cs 23 (0,0))):=fun k hk=>Jca h4 hk;have HBW:=hdz hbw;obtain⟨i0,hi,hz0,hz1,hz2⟩:=info_parts info_op;have HI:=hdz hi;have HZ0:=hdz hz0;have HZ1:=hdz hz1;have HZ2:=hdz hz2;generalize hon:o.length=on at *;have hne:b≠w.heap.size:=by omega
 have HLO:=hdz hlo;clear h3 h4 hm hx xf m1 m2 m3 hbw hi hz0 hz1 hz2 hlo
 go_enter Tryz.func121,Tryz.ntmps121
 go_wp2_with (at_builtin;refine Jg3 _ rfl _ _ 60 rfl lo 23 i0 (.slice none 0 0) 1 24 Tryz.underlying60 HI.out HZ0.out HZ1.out HZ2.out rfl (by decide) _ _ _ rfl M2.out ⟨w.heap.size,0,none⟩ 1 1 [.slice pv on cv] rfl rfl (Jpl _ _ (by first | rfl | simp) _ _) (JoI _ _ _) (by unfold maxLen;omega) (by omega) (by have:=HLO.out;simp;omega) (by decide) ?_)
 all_goals
  intro v2 w6 hown' hg' hnew';obtain⟨p7,c7,rfl⟩:=Jae hown';have hnb:some b≠(Value.slice p 1 c).ownBlock:=fun e=>by
   obtain⟨_,_,cs,hc⟩:=HMO.out b e.symm;have:=Jcw H3.out hc;revert this;decide
  have hb6:=(hg'.block b (by rw[wsa];omega) hnb).trans (Ji3 (o':=.cells #[.slice pv on cv] 23) H3.out);have HB6:=hdz hb6;obtain⟨_,_,_,_,y4,_,_,_,yf⟩:=Ja2 hb6;have z4:=yf 4;have HMN:Hid (JcA lo w6 (.slice p7 (1+1) c7) (S.mine++[o])):=Jq5 M1.out (by rw[HM.out];exact M2.out) M3.out (Jan HX.out HBW.out) hg' (by rw[HM.out];exact hown');have HS6:Hid (sameBut w w6 fun k=>k=b\/(Value.slice p 1 c).ownBlock=some k):=(Jai HBW.out _).comp (Jdt (S:=fun k=>(Value.slice p 1 c).ownBlock=some k) hg' fun k e=>e) fun k _ e=>.inr e;have HNW:Hid (∀k,(Value.slice p7 (1+1) c7).ownBlock=some k->(Value.slice p 1 c).ownBlock=some k\/w.heap.size<=k):=fun k hk=>(hnew' k hk).imp id fun e=>by omega
  clear hown' hg' hnew' hnb hb6 yf;go_wp2;go_end0;refine⟨rfl,?_⟩;have b1:=heap_setCell_same w6 b 4 _ _ (.slice p7 (1+1) c7) HB6.out;have hs1:sameBut w6 (w6.setCell ⟨b,4,none⟩ (.slice p7 (1+1) c7)) (fun k=>k=b):=Jaj (S:=fun k=>k=b) rfl;refine Jen HLO.out H3.out b1 (JcX HMN.out hs1 (fun k _ hk=>by obtain rfl:=hk;exact⟨HLO.out,JaP HB6.out (by decide)⟩) fun k hk e=>?_) (HS6.out.comp hs1 fun k _ e=>.inl e) HNW.out;obtain⟨_,_,cs,hc⟩:=Jca HMN.out hk;subst e;have:=Jcw HB6.out hc;revert this;decide
theorem kCompN(v1 v2:Value)(a b:List Pt)(t:List UInt8)(w:World)(hT:Lib.Utf8Tabs 2 3 w)(r1:opAt w v1 a)(r2:opAt w v2 b)(ha:good a t)(hb:good b (Jaa a t))(h1:t.length+Jal a<1000000)(h2:(Jaa a t).length+Jal b<1000000) :
    Calls Tryz.prog 182 #[v1,v2] w fun e w'=>∃v',e=.returned (.tuple #[v',.nilIface])/\opN w.heap.size w' v' (Jaq (JdU a b))/\Below w.heap.size w w':=by
 have f1:=ha.fine h1;have f2:=hb.fine h2;have e:Jrp a b=0:=by unfold Jrp;rw[ha.both hb h1 h2,if_pos rfl,(ha.lens h1).2,(hb.lens h2).1,if_pos rfl]
 have:=Jro v1 v2 a b w hT r1 r2 (ha.wf h1) (hb.wf h2) f1.len f2.len fun _=>⟨f1,f2⟩;rw[e,if_pos rfl]at this;exact this
theorem Jq8(v1 v2:Value)(F:Bool)(a b:List Pt)(t:List UInt8)(w:World)(hT:Lib.Utf8Tabs 2 3 w)(r1:opAt w v1 a)(r2:opAt w v2 b)(ha:good a t)(hb:good b t)(h1:t.length+Jal a<1000000)(h2:t.length+Jal b<1000000) :
    Calls Tryz.prog 187 #[v1,v2,.bool F] w fun e w'=>∃v',e=.returned (.tuple #[v',.nilIface])/\opN w.heap.size w' v' (Jaq (Jaw F a b))/\Below w.heap.size w w':=by
 have f1:=ha.fine h1;have f2:=hb.fine h2;have e:Ji8 a b=0:=by unfold Ji8;rw[ha.both hb h1 h2,if_pos rfl,(ha.lens h1).1,(hb.lens h2).1,if_pos rfl]
 have:=Jop v1 v2 F a b w hT r1 r2 (ha.wf h1) (hb.wf h2) f1.len f2.len fun _=>⟨f1,f2⟩;rw[e,if_pos rfl]at this;exact this
theorem Jbu{B:Nat}(h:opN B w v o):∃p c,v=.slice p o.length c:=by
 obtain⟨⟨p,c,e,_⟩,_⟩:=h;exact⟨p,c,e⟩
theorem JsP(h:isCl lo w b who u S){m1 m2:List Pt}(hm:S.mine=[m1,m2])(v:Value)(o:List Pt)(hx:opX lo w v o)(hT:Lib.Utf8Tabs 2 3 w){t:List UInt8}(ha:good m2 t)(hb:good o (Jaa m2 t))(h1:t.length+Jal m2<1000000)(h2:(Jaa m2 t).length+Jal o<1000000) :
    Calls Tryz.prog 121 #[.pointer (some ⟨b,0,none⟩),v] w fun e w'=>e=.returned (.tuple #[])/\isCl lo w' b who u { S with mine:=[m1,Jaq (JdU m2 o)] }/\keptC w w' b:=by
 have hlt:=Jc5 h;obtain⟨hlo,vm,h3,h4⟩:=h;have h4':=h4;obtain⟨vs,q1,q2,q3⟩:=h4';obtain ⟨g,c,rfl⟩:∃g c,vm=.slice (some ⟨g,0,none⟩) 2 c:=by
  rw[hm]at q2
  rcases q2.2 with ⟨_,e⟩|⟨g,cap,cur,e,_⟩
  . cases e
  . exact⟨g,cap,e⟩
 have hl2:S.mine.length=2:=by rw[hm];rfl
 have hvl:vs.length=2:=by rw[q1,hl2]
 obtain⟨x1,hx1⟩:∃x1,vs[1]?=some x1:=⟨vs[1],lgg (by omega)⟩;have ho1:opX lo w x1 m2:=q3 1 m2 x1 (by rw[hm];rfl) hx1;have hr1:w.cell? ⟨g,1,none⟩=some x1:=by rw[hl2]at q2;rw[World.ownsRow.cellAt q2 1 (by omega)];exact hx1
 obtain⟨_,_,_,_,x4,_,_,_,xf⟩:=Ja2 h3;have hg:=Jca h4 (k:=g) rfl;have hgb:g≠b:=fun e=>by
  obtain⟨_,_,cs,hc⟩:=hg;subst e;have:=Jcw h3 hc;revert this;decide
 have hc2:2<=c/\c<=maxLen:=by
  rw[hl2]at q2
  rcases q2.2 with ⟨e,_⟩|⟨g',cap,cur,e,_,_,e5,e6,_⟩
  . cases e
  . injection e with _ _ e;subst e;exact⟨e5,e6⟩
 obtain⟨hc2,hc3⟩:=hc2;unfold maxLen at hc3;have CC:Hid (∀wx,Below w.heap.size w wx->Calls Tryz.prog 182 #[x1,v] wx fun e w'=>∃v',e=.returned (.tuple #[v',.nilIface])/\opN wx.heap.size w' v' (Jaq (JdU m2 o))/\Below wx.heap.size wx w'):=fun wx hb'=>kCompN x1 v m2 o t wx (Go.Proofs.Utf8Tabs_below hT hb') (Jan ho1 hb').1 (Jan hx hb').1 ha hb h1 h2;obtain⟨p1,c1,rfl⟩:=Ja0 ho1;obtain⟨pv,cv,rfl⟩:=Ja0 hx;have H3:=hdz h3;have H4:=hdz h4;have HLO:=hdz hlo;have HM:=hdz hm;have HG:Hid (lo<=g/\g<w.heap.size):=⟨hg.1,hg.2.1⟩;generalize hO:Jaq (JdU m2 o)=O at *;generalize m2.length=n2 at *;generalize o.length=on at *;clear h3 h4 hm hx ho1 q1 q2 q3 hvl hx1 hl2 xf hT ha hb h1 h2 hg hlo hO
 go_enter Tryz.func121,Tryz.ntmps121
 go_wp2;refine wz (fun wx:World=>wx.heap[b]?=some (.cells (Jb2 who u S (.slice (some ⟨g,0,none⟩) 2 c)) 203 (0,0))) 17 H3.out wzb fun w30 hb30 hz0 G hG=>?_;have y4:∀x,(G x).cell? ⟨b,4,none⟩=some (.slice (some ⟨g,0,none⟩) 2 c):=fun x=>(Ja2 (hG.but x)).2.2.2.2.1;(iterate 9 (refine ay hG hz0 fun _ k=>?_;go_simp;apply k;clear k));refine az hG hz0 10 fun _ k=>?_;go_simp;apply k;clear k;clear y4;refine JaI (i:=9) (by kernel_rfl) ⟨_,rfl,?_⟩;intro w29 hb29 K hK;have yr:=(hb29.cell (p:=⟨g,1,none⟩) (Nat.lt_of_lt_of_le HG.out.2 hb30.size)).trans ((hb30.cell (p:=⟨g,1,none⟩) HG.out.2).trans hr1)
 go_simp
 refine hK _ _ (fun h=>h) ?_;clear hK K yr;refine JaI (i:=11) (by kernel_rfl) ⟨_,rfl,?_⟩;intro w31 hb31 K hK
 go_simp
 have hb39:=hb30.trans (hb29.mono hb30.size);have hb38:=hb39.trans (hb31.mono hb39.size);refine(CC.out w31 hb38).mono ?_;rintro e w32 ⟨v',rfl,hn,hb32⟩;obtain⟨p9,c9,rfl⟩:=Jbu hn;have HN:=hdz hn;have hz2:w32.heap[b]?=some (.cells (Jb2 who u S (.slice (some ⟨g,0,none⟩) 2 c)) 203 (0,0)):=((hb38.trans (hb32.mono hb38.size)).block b hlt).trans H3.out;refine⟨_,rfl,hK _ _ (fun _=>hz2) ?_⟩;clear hK K hn hz0;(iterate 4 (refine ay hG hz2 fun _ k=>?_;go_simp;apply k;clear k));clear hG hz2;refine JaI (i:=16) (by kernel_rfl) ⟨_,rfl,?_⟩;intro w33 hb33 K hK;have hb37:=hb38.trans (hb32.mono hb38.size);have hbA:Below w.heap.size w w33:=hb37.trans (hb33.mono hb37.size);have hA3:=(hbA.block b hlt).trans H3.out;have HA4:Hid _:=JbL H4.out hbA;have hgr:∃cs,w33.heap[g]?=some (.cells cs 23 (0,0)):=by obtain⟨_,_,e⟩:=Jca HA4.out (k:=g) rfl;exact e
 obtain⟨cs,hcs⟩:=hgr;have zr:=(hbA.cell (p:=⟨g,1,none⟩) HG.out.2).trans hr1;have zf:=fz hcs 1;have HN33:Hid (opX lo w33 (.slice p9 O.length c9) O):=Jan (JaG HN.out) hb33;have HA3:=hdz hA3;have HBA:=hdz hbA;clear hbA hA3 hb30 hb31 hb32 hb33 hcs hb29 hb39 hb38 hb37
 go_simp
 refine hK _ _ (fun _=>?_) ?_
 . exact(Below.heap_setCell w33 ⟨g,1,none⟩ _ b (fun e=>hgb e.symm)).trans HA3.out
 clear hK K;refine JaA (by kernel_rfl) ?_;intro w34 hb34;go_wp2;go_end0;refine⟨rfl,?_⟩;obtain⟨vs,q1,q2,q3⟩:=HA4.out;obtain⟨r1,r2⟩:=JnK q1 q2 q3 HN33.out 1;rw[HM.out]at r1;have hbn:(w33.setCell ⟨g,1,none⟩ (.slice p9 O.length c9)).heap[b]?=some (.cells (Jb2 who u S (.slice (some ⟨g,0,none⟩) 2 c)) 203 (0,0)):=(r2.2 b (alt HA3.out) fun e=>hgb (osi e)).trans HA3.out;have hb3:=(hb34.block b (alt hbn)).trans hbn;refine Jen HLO.out H3.out hb3 (JbL r1 hb34) (((Jai HBA.out _).comp r2 fun k _ e=>.inr e).trans (Jai hb34 _)) fun k hk=>.inl hk
end
section
open Go.RowKit Go.Maps
attribute [local go_sem] Oper.semAt_some
theorem run_ti{P:Program}{w:World}{t:TypeId}{i:TypeInfo}(h:P.info? t=some i):(typeInfo t).run P w=.ok i w:=by simp[typeInfo,h]
theorem JrR{P:Program}{w:World}{t:TypeId}{i:TypeInfo}{z:Value}(h:P.info? t=some i)(hz:i.zero=some z):(zeroValue t).run P w=.ok z w:=by
 simp[zeroValue,Sem.run_bind,run_ti h,hz]
theorem Jp7{t:TypeId}{z:Value}(h:(Tryz.prog.info? t).map (·.zero)=some (some z))(w:World):(zeroValue t).run Tryz.prog w=.ok z w:=by
 obtain⟨i,hi,hz⟩:=Option.map_eq_some_iff.1 h;exact JrR hi hz
end
section
open Go.RowKit Go.Maps
attribute [local go_sem] Oper.semAt_some Ja7 Jbe
variable {lo g c : Nat}{w : World}{x0 : Value}
theorem JnT:(Tryz.prog.info? 23).map (·.zero)=some (some (.slice none 0 0)):=by kernel_rfl
theorem del2{n1 m1:Nat}{p1:Option Addr}(h:w.ownsRow lo 23 1 (.slice (some ⟨g,0,none⟩) 2 c) 2 [x0,.slice p1 n1 m1]) :
    Calls Tryz.prog 186 #[.slice (some ⟨g,0,none⟩) 2 c,.int .i64 0,.int .i64 1] w fun e w'=>e=.returned (.slice (some ⟨g,0,none⟩) 1 c)/\w'.ownsRow lo 23 1 (.slice (some ⟨g,0,none⟩) 1 c) 1 [.slice p1 n1 m1]/\w.grownBy w' (some g):=by
 have hc:2<=c/\c<=maxLen/\lo<=g/\∃cur,w.heap[g]?=some (.cells cur 23 (0,0))/\cur.size=c/\cur.toList.take 2=[x0,.slice p1 n1 m1]:=by
  rcases h.2 with ⟨e,_⟩|⟨g',cap,cur,e,e1,e2,e3,e4,e5,e6⟩
  . cases e
  . injection e with e7 e8 e9
    injection e7 with e7;injection e7 with e7;subst e7 e9;exact⟨e3,e4,e1,cur,e2,by simpa using e5,by simpa using e6⟩
 obtain⟨c2,c3,hlg,cur,hcur,hsz,htk⟩:=hc;unfold maxLen at c3;have hc1:¬c=1:=by omega
 have k0:w.cell? ⟨g,0,none⟩=some x0:=by have:=World.ownsRow.cellAt h 0 (by omega);exact this
 have k1:w.cell? ⟨g,1,none⟩=some (.slice p1 n1 m1):=by have:=World.ownsRow.cellAt h 1 (by omega);exact this
 have z0:=fz hcur 0;have z1:=fz hcur 1;have HC:=hdz hcur;have HSZ:=hdz hsz;have HTK:=hdz htk;clear h hcur hsz htk
 go_enter Tryz.func186,Tryz.ntmps186
 go_wp2;refine wz (fun _:World=>True) 8 trivial (fun _ _=>trivial) fun w30 hb30 _ G hG=>?_;(iterate 6 (refine ay hG trivial fun _ k=>?_;go_simp;apply k;clear k));clear hG;refine JaI (i:=6) (by kernel_rfl) ⟨_,rfl,?_⟩;intro w31 hb31 K hK;have hbA:=hb30.trans (hb31.mono hb30.size);have HBA:=hdz hbA;have hgl:g<w.heap.size:=(alt HC.out);have hcur':=(hbA.block g hgl).trans HC.out;have HC1:Hid _:=hcur';have y0:=(hbA.cell (p:=⟨g,0,none⟩) hgl).trans k0;have y1:=(hbA.cell (p:=⟨g,1,none⟩) hgl).trans k1;have f0:=fz hcur' 0;have h1c:1<=c:=by omega
 clear hb30 hb31 hbA hcur' k0 k1 z0 z1
 go_simp
 refine hK _ _ (fun _=>trivial) ?_;clear hK K;refine JaI (i:=7) (by kernel_rfl) ⟨_,rfl,?_⟩;intro w32 hb32 K hK
 go_simp
 refine hK _ _ (fun _=>trivial) ?_;clear hK K;refine JaA (by kernel_rfl) ?_;intro w33 hb33;have hbS:=hb32.trans (hb33.mono hb32.size);have hblk:=heap_setCell_same w31 g 0 cur _ (.slice p1 n1 m1) HC1.out;have hblk2:=(hbS.block g (alt hblk)).trans hblk;have HBL:=hdz hblk2;have HBS:=hdz hbS;have u1:w33.cell? ⟨g,1,none⟩=some (.slice p1 n1 m1):=(hbS.cell (p:=⟨g,1,none⟩) (alt hblk)).trans ((World.cell?_setCell_other (w:=w31) ⟨g,0,none⟩ ⟨g,1,none⟩ _ (by simp)).trans y1);have uf:=fz hblk2 1
 have hcl:∀ty,(Builtin.clear_ #[60] ty #[.slice (some ⟨g,1,none⟩) 1 (c - 1)]).run Tryz.prog w33=.ok (.tuple #[]) (w33.setCell ⟨g,1,none⟩ (.slice none 0 0)):=fun ty=>by
  have:=Lib.run_clear_slice (P:=Tryz.prog) w33 60 23 ty (.slice none 0 0) Tryz.underlying60 (fun w=>Jp7 JnT w) rfl rfl g 1 1 (c - 1) (by omega) (fun j hj=>by
   obtain rfl:j=0:=by omega
   rw[u1];rfl) (fun j hj=>by
   obtain rfl:j=0:=by omega
   exact uf)
  rw[this];rfl
 clear hb32 hb33 hbS hblk hblk2 y0 y1 f0;go_wp2;go_ret;refine⟨rfl,?_,?_⟩
 . have hb2:=heap_setCell_same w33 g 1 _ _ (.slice none 0 0) HBL.out
   refine⟨rfl,.inr ⟨g,c,_,rfl,hlg,hb2,by omega,by unfold maxLen;omega,?_,?_⟩⟩
   . rw[Array.size_setIfInBounds,Array.size_setIfInBounds,HSZ.out,Nat.mul_one]
   . rw [Array.toList_setIfInBounds,Array.toList_setIfInBounds]
     have ht:=HTK.out
     match hl:cur.toList,ht with
     | a :: b :: l,ht =>
      rfl
 . have h:sameBut w (w33.setCell ⟨g,1,none⟩ (.slice none 0 0)) (fun k=>k=g):=((Jai HBA.out _).trans (Jaj (b:=g) (o:=0) (v:=.slice p1 n1 m1) (S:=fun k=>k=g) rfl)).trans ((Jai HBS.out _).trans (Jaj (S:=fun k=>k=g) rfl))
   exact⟨h.os,h.tape,h.output,h.size,fun k hk hn=>h.block k hk fun e=>hn (by rw[e])⟩
theorem del1(h:w.ownsRow lo 23 1 (.slice (some ⟨g,0,none⟩) 1 c) 1 [x0]) :
    Calls Tryz.prog 186 #[.slice (some ⟨g,0,none⟩) 1 c,.int .i64 0,.int .i64 1] w fun e w'=>e=.returned (.slice (some ⟨g,0,none⟩) 0 c)/\w'.ownsRow lo 23 1 (.slice (some ⟨g,0,none⟩) 0 c) 0 []/\w.grownBy w' (some g):=by
 have hc:1<=c/\c<=maxLen/\lo<=g/\∃cur,w.heap[g]?=some (.cells cur 23 (0,0))/\cur.size=c:=by
  rcases h.2 with ⟨e,_⟩|⟨g',cap,cur,e,e1,e2,e3,e4,e5,e6⟩
  . cases e
  . injection e with e7 e8 e9
    injection e7 with e7;injection e7 with e7;subst e7 e9;exact⟨e3,e4,e1,cur,e2,by simpa using e5⟩
 obtain⟨c2,c3,hlg,cur,hcur,hsz⟩:=hc;unfold maxLen at c3;have k0:w.cell? ⟨g,0,none⟩=some x0:=by have:=World.ownsRow.cellAt h 0 (by omega);exact this
 have HC:=hdz hcur;have HSZ:=hdz hsz;clear h hcur hsz
 by_cases hc1:c=1
 all_goals
  go_enter Tryz.func186,Tryz.ntmps186
  go_wp2;refine wz (fun _:World=>True) 8 trivial (fun _ _=>trivial) fun w30 hb30 _ G hG=>?_;(iterate 6 (refine ay hG trivial fun _ k=>?_;go_simp;apply k;clear k));clear hG;refine JaI (i:=6) (by kernel_rfl) ⟨_,rfl,?_⟩;intro w31 hb31 K hK
  go_simp
  refine hK _ _ (fun _=>trivial) ?_;clear hK K;refine JaI (i:=7) (by kernel_rfl) ⟨_,rfl,?_⟩;intro w32 hb32 K hK
  go_simp
  refine hK _ _ (fun _=>trivial) ?_;clear hK K;refine JaA (by kernel_rfl) ?_;intro w33 hb33;have hbS:=hb30.trans ((hb31.trans ((hb32.trans (hb33.mono hb32.size)).mono hb31.size)).mono hb30.size);have hgl:g<w.heap.size:=(alt HC.out);have hblk2:=(hbS.block g hgl).trans HC.out;have HBL:=hdz hblk2;have HBS:=hdz hbS;have u1:w33.cell? ⟨g,0,none⟩=some x0:=(hbS.cell (p:=⟨g,0,none⟩) hgl).trans k0;have uf:=fz hblk2 0
  have hcl:∀ty,(Builtin.clear_ #[60] ty #[.slice (some ⟨g,0,none⟩) 1 c]).run Tryz.prog w33=.ok (.tuple #[]) (w33.setCell ⟨g,0,none⟩ (.slice none 0 0)):=fun ty=>by
   have:=Lib.run_clear_slice (P:=Tryz.prog) w33 60 23 ty (.slice none 0 0) Tryz.underlying60 (fun w=>Jp7 JnT w) rfl rfl g 0 1 c (by omega) (fun j hj=>by
    obtain rfl:j=0:=by omega
    rw[u1];rfl) (fun j hj=>by
    obtain rfl:j=0:=by omega
    exact uf)
   rw[this];rfl
  clear hb30 hb31 hb32 hb33 hbS hblk2
  try rw[hc1]at hcl
  go_wp2;go_ret;refine⟨by first | rfl | (rw[hc1];rfl),?_,?_⟩
  . have hb2:=heap_setCell_same w33 g 0 _ _ (.slice none 0 0) HBL.out
    refine⟨rfl,.inr ⟨g,_,_,rfl,hlg,hb2,by omega,by unfold maxLen;omega,?_,rfl⟩⟩;rw[Array.size_setIfInBounds,HSZ.out];omega
  . have h:sameBut w (w33.setCell ⟨g,0,none⟩ (.slice none 0 0)) (fun k=>k=g):=(Jai HBS.out _).trans (Jaj (S:=fun k=>k=g) rfl)
    exact⟨h.os,h.tape,h.output,h.size,fun k hk hn=>h.block k hk fun e=>hn (by rw[e])⟩
end
section
open Go.RowKit Go.Maps
attribute [local go_sem] Oper.semAt_some
variable {lo b : Nat}{w : World}{who u : Int}{S : Cl}
theorem JjZ{vm:Value}{ms:List (List Pt)}(h:JcA lo w vm ms)(hm:ms≠[]):∃g c,vm=.slice (some ⟨g,0,none⟩) ms.length c:=by
 obtain⟨vs,_,h2,_⟩:=h
 rcases h2.2 with ⟨_,e⟩|⟨g,cap,cur,e,_⟩
 . exact absurd (List.eq_nil_of_length_eq_zero e) hm
 . exact⟨g,cap,e⟩
theorem two_of{α:Type}{l:List α}(h:l.length=2):∃a b,l=[a,b]:=by
 match l,h with
 | [a,b],_=>exact⟨a,b,rfl⟩
theorem Jhl{w':World}{g:Nat}(h:w.grownBy w' (some g)):sameBut w w' fun k=>k=g:=Jdt h fun k e=>(osi e).symm
theorem clLand1(h:isCl lo w b who u S){m1:List Pt}(hm:S.mine=[m1]) :
    Calls Tryz.prog 123 #[.pointer (some ⟨b,0,none⟩)] w fun e w'=>e=.returned (.tuple #[])/\isCl lo w' b who u { S with mine:=[] }/\keptC w w' b:=by
 have hlt:=Jc5 h;obtain⟨hlo,vm,h3,h4⟩:=h;obtain⟨g,c,rfl⟩:=JjZ h4 (by rw[hm];simp);have hg:=Jca h4 (k:=g) rfl;have hgb:g≠b:=fun e=>by
  obtain⟨_,_,cs,hc⟩:=hg;subst e;have:=Jcw h3 hc;revert this;decide
 obtain⟨vs,q1,q2,q3⟩:=h4;have hl1:S.mine.length=1:=by rw[hm];rfl
 rw[hl1]at q2 h3;obtain⟨x0,rfl⟩:∃x0,vs=[x0]:=List.length_eq_one_iff.1 (by rw[q1,hl1]);have CD:Hid _:=del1 q2;obtain⟨_,_,_,_,x4,_,_,_,xf⟩:=Ja2 h3;have f4:=xf 4;have H3:=hdz h3;have HLO:=hdz hlo;clear h3 q1 q2 q3 hl1 xf hm hlo hg
 go_enter Tryz.func123,Tryz.ntmps123
 go_wp2_with (go_at_call 9999)
 refine Calls.mono CD.out ?_;rintro e w1 ⟨rfl,hown,hgr⟩;have hs:=Jhl hgr;have hb1:w1.heap[b]?=some (.cells (Jb2 who u S (.slice (some ⟨g,0,none⟩) 1 c)) 203 (0,0)):=(hs.2 b hlt fun e=>hgb e.symm).trans H3.out;have y4:w1.cell? ⟨b,4,none⟩=some (.slice (some ⟨g,0,none⟩) 1 c):=(Ja2 hb1).2.2.2.2.1;have z4:=fz hb1 4;have b2:=heap_setCell_same w1 b 4 _ _ (.slice (some ⟨g,0,none⟩) 0 c) hb1;have hs1:sameBut w1 (w1.setCell ⟨b,4,none⟩ (.slice (some ⟨g,0,none⟩) 0 c)) (fun k=>k=b):=Jaj (S:=fun k=>k=b) rfl;have hmn:JcA lo (w1.setCell ⟨b,4,none⟩ (.slice (some ⟨g,0,none⟩) 0 c)) (.slice (some ⟨g,0,none⟩) 0 c) []:=⟨[],rfl,Jft hown hs1 (fun k hk e=>hgb ((osi hk).trans e)),fun i m x hi=>by simp at hi⟩
 have HB6:Hid (isCl lo (w1.setCell ⟨b,4,none⟩ (.slice (some ⟨g,0,none⟩) 0 c)) b who u { S with mine:=[] }/\keptC w (w1.setCell ⟨b,4,none⟩ (.slice (some ⟨g,0,none⟩) 0 c)) b) :=
  Jen HLO.out H3.out b2 hmn ((hs.mono fun k _ e=>.inr (congrArg some e.symm)).comp hs1 fun k _ e=>.inl e) fun k hk=>.inl hk
 have CP:Hid _:=Jb8 HB6.out.1;have hp0:decide (0<({ S with mine:=[] }:Cl).mine.length)=false:=rfl;rw[hp0]at CP;clear hown hgr hs hb1 b2 hs1 hmn hp0
 go_wp2_with (go_at_call 58;refine Calls.mono CP.out ?_;rintro e w2 ⟨rfl,hb2⟩;have HB2:=hdz hb2;clear hb2)
 go_end0;exact⟨rfl,Jbw HB6.out.1 HB2.out,HB6.out.2.trans (JbO HB2.out (Jc5 HB6.out.1))⟩
theorem clLand2(h:isCl lo w b who u S){m1 m2:List Pt}(hm:S.mine=[m1,m2])(hid:0<=S.id/\S.id<=1000000) :
    Calls Tryz.prog 123 #[.pointer (some ⟨b,0,none⟩)] w fun e w'=>e=.returned (.tuple #[])/\isCl lo w' b who u { S with mine:=[m2],id:=S.id+1 }/\keptC w w' b:=by
 have hlt:=Jc5 h;obtain⟨hlo,vm,h3,h4⟩:=h;obtain⟨g,c,rfl⟩:=JjZ h4 (by rw[hm];simp);have hg:=Jca h4 (k:=g) rfl;have hgb:g≠b:=fun e=>by
  obtain⟨_,_,cs,hc⟩:=hg;subst e;have:=Jcw h3 hc;revert this;decide
 have hgp:lo<=g/\JdN w g:=by
  obtain⟨e,_,cs,hc⟩:=hg;exact⟨e,JaP hc (by decide)⟩
 obtain⟨vs,q1,q2,q3⟩:=h4;have hl1:S.mine.length=2:=by rw[hm];rfl
 rw[hl1]at q2 h3;obtain⟨x0,x1,rfl⟩:∃x0 x1,vs=[x0,x1]:=two_of (by rw[q1,hl1]);have ho1:opX lo w x1 m2:=q3 1 m2 x1 (by rw[hm];rfl) rfl;obtain⟨p1,c1,rfl⟩:=Ja0 ho1;have CD:Hid _:=del2 q2;have HO1:=hdz ho1;obtain⟨_,_,_,_,x4,_,_,_,xf⟩:=Ja2 h3;have H3:=hdz h3;have HLO:=hdz hlo;have HGP:=hdz hgp;have hid1:wrap64 (S.id+1)=S.id+1:=Jax (by omega) (by omega);obtain⟨i0,i1⟩:=hid;generalize hln:m2.length=ln at *;clear h3 q1 q2 q3 hl1 xf hm hlo hg ho1 hgp
 go_enter Tryz.func123,Tryz.ntmps123
 go_wp2_with (go_at_call 9999)
 refine Calls.mono CD.out ?_;rintro e w1 ⟨rfl,hown,hgr⟩;have hs:=Jhl hgr;have hb1:w1.heap[b]?=some (.cells (Jb2 who u S (.slice (some ⟨g,0,none⟩) 2 c)) 203 (0,0)):=(hs.2 b hlt fun e=>hgb e.symm).trans H3.out;have y4:w1.cell? ⟨b,4,none⟩=some (.slice (some ⟨g,0,none⟩) 2 c):=(Ja2 hb1).2.2.2.2.1;have z4:=fz hb1 4;have b2:=heap_setCell_same w1 b 4 _ _ (.slice (some ⟨g,0,none⟩) 1 c) hb1;have hs1:sameBut w1 (w1.setCell ⟨b,4,none⟩ (.slice (some ⟨g,0,none⟩) 1 c)) (fun k=>k=b):=Jaj (S:=fun k=>k=b) rfl;have hsA:sameBut w (w1.setCell ⟨b,4,none⟩ (.slice (some ⟨g,0,none⟩) 1 c)) (fun k=>k=b\/k=g):=(hs.mono fun k _ e=>.inr e).comp hs1 fun k _ e=>.inl e
 have hmn:JcA lo (w1.setCell ⟨b,4,none⟩ (.slice (some ⟨g,0,none⟩) 1 c)) (.slice (some ⟨g,0,none⟩) 1 c) [m2]:=⟨[.slice p1 ln c1],rfl,Jft hown hs1 (fun k hk e=>hgb ((osi hk).trans e)),fun i m x hi hx=>by
  cases i with
  | succ i=>simp at hi
  | zero =>
   obtain rfl:m2=m:=by simpa using hi
   obtain rfl:Value.slice p1 ln c1=x:=by simpa using hx
   exact Jbb HO1.out hsA fun k _ hk=>by
    rcases hk with rfl|rfl
    . exact⟨HLO.out,JaP H3.out (by decide)⟩
    . exact HGP.out⟩
 have HB6:Hid (isCl lo (w1.setCell ⟨b,4,none⟩ (.slice (some ⟨g,0,none⟩) 1 c)) b who u { S with mine:=[m2] }/\keptC w (w1.setCell ⟨b,4,none⟩ (.slice (some ⟨g,0,none⟩) 1 c)) b) :=
  Jen HLO.out H3.out b2 hmn (hsA.mono fun k _ e=>e.imp id fun e=>congrArg some e.symm) fun k hk=>.inl hk
 have HBL:Hid ((w1.setCell ⟨b,4,none⟩ (.slice (some ⟨g,0,none⟩) 1 c)).heap[b]?=some (.cells (Jb2 who u { S with mine:=[m2] } (.slice (some ⟨g,0,none⟩) 1 c)) 203 (0,0))):=b2;have CP:Hid _:=Jb8 HB6.out.1;have hp0:decide (0<({ S with mine:=[m2] }:Cl).mine.length)=true:=by simp
 rw[hp0]at CP;clear hown hgr hs hb1 b2 hs1 hmn hp0 hsA
 go_wp2_with (go_at_call 58;refine Calls.mono CP.out ?_;rintro e w2 ⟨rfl,hb2⟩;have HB2:=hdz hb2;have hbk:=(hb2.block b (alt HBL.out)).trans HBL.out;have HBK:=hdz hbk;have u6:w2.cell? ⟨b,6,none⟩=some (.int .i64 S.id):=(Ja2 hbk).2.2.2.2.2.2.1;have uf:=fz hbk 6;clear hb2 hbk)
 go_end0;refine⟨rfl,?_⟩;have b3:=heap_setCell_same w2 b 6 _ _ (.int .i64 (S.id+1)) HBK.out;have hc2:=Jbw HB6.out.1 HB2.out;obtain⟨_,vm,e3,e4⟩:=hc2;have hvm:vm=.slice (some ⟨g,0,none⟩) 1 c:=by
  have h1:=(Ja2 e3).2.2.2.2.1;rw[(Ja2 HBK.out).2.2.2.2.1]at h1;exact(osi h1).symm
 subst hvm;have hs2:sameBut w2 (w2.setCell ⟨b,6,none⟩ (.int .i64 (S.id+1))) (fun k=>k=b):=Jaj (S:=fun k=>k=b) rfl;have fin:=Jen (S':={ S with mine:=[m2],id:=S.id+1 }) HLO.out HBK.out b3 (JcX e4 hs2 (fun k _ hk=>by obtain rfl:=hk;exact⟨HLO.out,JaP HBK.out (by decide)⟩) fun k hk e=>hgb ((osi hk).trans e)) (hs2.mono fun k _ e=>.inl e) fun k hk=>.inl hk;exact⟨fin.1,(HB6.out.2.trans (JbO HB2.out (Jc5 HB6.out.1))).trans fin.2⟩
end
section
open Go.RowKit Go.Maps
attribute [local go_sem] Oper.semAt_some
def doT (l0:Int) (t:List UInt8) (E:List SE) (rev:Int) (ps:List Pt):List UInt8:=if doE l0 t E rev ps=0 then Jaa (Jel ps (E.drop rev.toNat)) t else t
def doL (l0:Int) (t:List UInt8) (E:List SE) (c i rev:Int) (ps:List Pt):List SE:=if doE l0 t E rev ps=0 then E++[⟨c,i,Jel ps (E.drop rev.toNat)⟩] else E
theorem Jox(bm:Nat)(w:World):(binOp .eql 194 (.map (some bm)) (.map none)).run Tryz.prog w=.ok (.bool false) w:=by kernel_rfl
attribute [local go_sem] Jox
theorem Jnp{w w':World}{S:Nat->Prop}(h:Jdn w)(hs:sameBut w w' S)(hS:¬S 0):Jdn w':=JdW hs h hS
theorem JfS{w w':World}{S:Nat->Prop}(h:Lib.Utf8Tabs 2 3 w)(hs:sameBut w w' S)(h1:¬S 2)(h2:¬S 3):Lib.Utf8Tabs 2 3 w' :=
 ⟨fun c hc=>JdW hs (h.1 c hc) h1,fun i hi=>⟨JdW hs (h.2 i hi).1 h2,JdW hs (h.2 i hi).2 h2⟩⟩
end
section
open Go.RowKit Go.Maps
attribute [local go_sem] Oper.semAt_some Ja7 Jbe
theorem JiN:∀(ms:List (List Pt))(m x:List Pt),Jbl (ms++[m]) x=((Jbl ms x).1++[Jaq (Jaw false m (Jbl ms x).2)],Jaq (Jaw true (Jbl ms x).2 m))
 | [],m,x=>rfl
 | a :: ms,m,x=>by
  rw[List.cons_append,Jbl,JiN ms m];rfl
theorem JnV:∀(ms:List (List Pt))(t:List UInt8)(k:Nat)(hk:k<ms.length),Jhp ms t->Jhp (ms.take k) t/\good ms[k] (allM (ms.take k) t)
 | m :: ms,t,0,_,h=>⟨trivial,h.1⟩
 | m :: ms,t,k+1,hk,h=>by
  obtain⟨i1,i2⟩:=JnV ms _ k (by simpa using hk) h.2;exact⟨⟨h.1,i1⟩,i2⟩
structure tuI (lo:Nat) (w:World) (b g:Nat) (VM:Value) (ms:List (List Pt)) (x:List Pt) (CB:Obj) (k:Nat) (v1:Value) (wr:World):Prop where
 le:k<=ms.length
 blk:wr.heap[b]?=some CB
 mine:JcA lo wr VM ((Jbl (ms.take k) x).1++ms.drop k)
 op:opX lo wr v1 (Jbl (ms.take k) x).2
 same:sameBut w wr fun j=>VM.ownBlock=some j
theorem Jj9(A:List (List Pt))(ms:List (List Pt))(k:Nat)(hk:k<ms.length)(y:List Pt)(hA:A.length=k):(A++ms.drop k).set k y=(A++[y])++ms.drop (k+1):=by
 rw[List.drop_eq_getElem_cons hk,List.set_append,if_neg (by omega),hA,Nat.sub_self,List.append_assoc];rfl
theorem JoZ{lo:Nat}{w:World}{b:Nat}{who u:Int}{S:Cl}(h:isCl lo w b who u S)(hk:okK 2000 S)(v:Value)(x:List Pt)(hx:opX lo w v x)(hg:good x S.seen)(hsz:S.seen.length+Jal x<=500000)(hG:2<lo/\3<lo)(hT:Lib.Utf8Tabs 2 3 w) :
    Calls Tryz.prog 124 #[.pointer (some ⟨b,0,none⟩),v] w fun e w'=>e=.returned (.tuple #[])/\isCl lo w' b who u { S with mine:=(Jbl S.mine x).1,doc:=Jaa (Jbl S.mine x).2 S.doc }/\keptC w w' b:=by
 have hlt:=Jc5 h;obtain⟨hlo,vm,h3,h4⟩:=h;obtain⟨p,c,rfl⟩:=JbW h4;obtain⟨n,hn⟩:∃n,S.mine.length=n:=⟨_,rfl⟩;have hn2:n<=2:=by have:=hk.two;omega
 rw[hn]at h3 h4;have x4:=(Ja2 h3).2.2.2.2.1;have HN:=hdz hn;have H3:=hdz h3;have HK:=hdz hk;have HGX:=hdz hg;have HSZ:=hdz hsz;have HLO:=hdz hlo;have HT:=hdz hT;have HGG:=hdz hG;have H0:Hid (tuI lo w b 0 (.slice p n c) S.mine x (.cells (Jb2 who u S (.slice p n c)) 203 (0,0)) 0 v w):=⟨Nat.zero_le _,h3,h4,hx,JeU _ _⟩;have HMO:Hid (∀k,(Value.slice p n c).ownBlock=some k->lo<=k/\k<w.heap.size/\∃cs,w.heap[k]?=some (.cells cs 23 (0,0))):=fun k hk=>Jca h4 hk;obtain⟨pv,cv,rfl⟩:=Ja0 hx;have hni:(n:Int)<=2:=by omega
 generalize x.length=xn at *;clear h3 h4 hn hk hg hsz hlo hT hx hG
 go_enter Tryz.func124,Tryz.ntmps124
 go_wp2
 go_loopw [1,13] (fun v1 i wr=>∃k:Nat,i=.int .i64 k/\tuI lo w b 0 (.slice p n c) S.mine x (.cells (Jb2 who u S (.slice p n c)) 203 (0,0)) k v1 wr) (fun _ i _=>n - (intOf i).toNat)
 case atStart=>exact⟨0,rfl,H0.out⟩
 case round =>
  obtain⟨k,rfl,hI⟩:=hrel;have HI:=hdz hI;have hkn:k<=n:=by have:=hI.le;have:=HN.out;omega
  obtain⟨pv1,cv1,hv1⟩:=Ja0 hI.op;subst hv1;generalize (Jbl (S.mine.take k) x).2.length=xl at *;clear H0
  by_cases hlt':k<n
  . have hkr:k<S.mine.length:=by rw[HN.out];exact hlt'
    have hmn:=hI.mine;have htl:(S.mine.take k).length=k:=by rw[List.length_take];omega
    have hAl:(Jbl (S.mine.take k) x).1.length=k:=by rw[JfQ,htl]
    obtain⟨vs,q1,q2,q3⟩:=hmn;have hll:((Jbl (S.mine.take k) x).1++S.mine.drop k).length=n:=by rw[List.length_append,hAl,List.length_drop,HN.out];omega
    obtain ⟨g,rfl⟩:∃g,p=some ⟨g,0,none⟩:=by
     rcases q2.2 with ⟨_,e⟩|⟨g,cap,cur,e,_⟩
     . rw[hll]at e;omega
     . injection e with e1 _ _;exact⟨g,e1⟩
    have hgm:=HMO.out g rfl;have hgb:g≠b:=fun e=>by
     obtain⟨_,_,cs,hc⟩:=hgm;subst e;have:=Jcw H3.out hc;revert this;decide
    have hvk:k<vs.length:=by rw[q1,hll];omega
    have hok:opX lo wr vs[k] S.mine[k]:=q3 k S.mine[k] vs[k] (by rw[List.getElem?_append_right (by omega),hAl,Nat.sub_self,List.getElem?_drop,Nat.add_zero];exact lgg hkr) (lgg hvk);have hck:wr.cell? ⟨g,k,none⟩=some vs[k]:=by
     rw[hll]at q2;rw[World.ownsRow.cellAt q2 k (by omega)];exact lgg hvk
    obtain⟨gA,gm⟩:=JnV S.mine S.seen k hkr HK.out.all;obtain⟨_,gX,_⟩:=Jd4 (S.mine.take k) x S.seen HGX.out gA;have hpA:∀m∈S.mine.take k,Jal m<=2000:=fun m hm=>HK.out.puts m (List.mem_of_mem_take hm);have hsz:=HSZ.out;have hpx:=(Jd3 2000 (S.mine.take k) x S.seen HGX.out gA hpA (by rw[htl];omega) (by omega)).2;have hTl:=Jg0 2000 (S.mine.take k) S.seen gA hpA;rw[htl]at hTl;have hpm:=HK.out.puts S.mine[k] (List.getElem_mem hkr);have hTr:Lib.Utf8Tabs 2 3 wr:=JfS HT.out hI.same (fun e=>by have:=(HMO.out _ e).1;have:=HGG.out.1;omega) (fun e=>by have:=(HMO.out _ e).1;have:=HGG.out.2;omega);obtain⟨X,hX⟩:∃X,(Jbl (S.mine.take k) x).2=X:=⟨_,rfl⟩;obtain⟨mk,hmk⟩:∃mk,S.mine[k]=mk:=⟨_,rfl⟩;have hop:=hI.op;rw[hX]at gX hpx hop;rw[hmk]at gm hpm hok;have CT1:Hid (∀wx,Below wr.heap.size wr wx->Calls Tryz.prog 187 #[.slice pv1 xl cv1,vs[k],.bool true] wx fun e w'=>∃v',e=.returned (.tuple #[v',.nilIface])/\opN wx.heap.size w' v' (Jaq (Jaw true X mk))/\Below wx.heap.size wx w'):=fun wx hb=>Jq8 _ _ true X mk _ wx (Go.Proofs.Utf8Tabs_below hTr hb) (Jan hop hb).1 (Jan hok hb).1 gX gm (by omega) (by omega);have CT2:Hid (∀wx,Below wr.heap.size wr wx->Calls Tryz.prog 187 #[vs[k],.slice pv1 xl cv1,.bool false] wx fun e w'=>∃v',e=.returned (.tuple #[v',.nilIface])/\opN wx.heap.size w' v' (Jaq (Jaw false mk X))/\Below wx.heap.size wx w'):=fun wx hb=>Jq8 _ _ false mk X _ wx (Go.Proofs.Utf8Tabs_below hTr hb) (Jan hok hb).1 (Jan hop hb).1 gm gX (by omega) (by omega);have HTK:Hid (Jbl (S.mine.take (k+1)) x=((Jbl (S.mine.take k) x).1++[Jaq (Jaw false mk X)],Jaq (Jaw true X mk))):=by
     show _=_;rw[List.take_succ_eq_append_getElem hkr,JiN,hX,hmk]
    have HSET:Hid (∀y,((Jbl (S.mine.take k) x).1++S.mine.drop k).set k y=((Jbl (S.mine.take k) x).1++[y])++S.mine.drop (k+1)):=fun y=>Jj9 _ _ k hkr y hAl;generalize hXv:vs[k]=xv at *;obtain⟨pk,ck,rfl⟩:=Ja0 hok;generalize Jaq (Jaw true X mk)=Y1 at *;generalize Jaq (Jaw false mk X)=Y2 at *;have HMN:=hdz hI.mine;have HBK:=hdz hI.blk;have HSM:=hdz hI.same;have HGM:=hdz hgm;have HLL:Hid (k+1<=S.mine.length):=hkr;have hki:(k:Int)<(n:Int):=by omega
    have w4:=(Ja2 hI.blk).2.2.2.2.1;have hglr:g<wr.heap.size:=Nat.lt_of_lt_of_le hgm.2.1 hI.same.size;have hblr:b<wr.heap.size:=Nat.lt_of_lt_of_le hlt hI.same.size;have hcn:n<=c/\c<=maxLen:=by
     rw[hll]at q2
     rcases q2.2 with ⟨e,_⟩|⟨g',cap,cur,e,_,_,e5,e6,_⟩
     . cases e
     . injection e with _ _ e;subst e;exact⟨e5,e6⟩
    obtain⟨hcn,hcm⟩:=hcn;unfold maxLen at hcm;generalize mk.length=ml at *;clear hI HI q1 q2 q3 hvk hok gA gm gX hpA hsz hpx hTl hpm hTr hX hmk hop hXv htl hAl hll hkr hgm
    go_wp2_with (go_at_call 187;refine(CT1.out _ (brf _ _)).mono ?_;rintro e w5 ⟨v5,rfl,hn5,hb5⟩;obtain⟨p5,c5,rfl⟩:=Jbu hn5;have HN5:=hdz hn5;have HB5:=hdz hb5;have u4:=((hb5.cell (p:=⟨b,4,none⟩) hblr).trans w4);clear hn5 hb5)
    have hB5:=HB5.out;refine wz (fun wx:World=>wx.heap[b]?=some (.cells (Jb2 who u S (.slice (some ⟨g,0,none⟩) n c)) 203 (0,0))) 13 ((hB5.block b hblr).trans HBK.out) wzb fun w30 hb30 hz0 G hG=>?_;have hb5A:=hB5.trans (hb30.mono hB5.size);have y4:∀x,(G x).cell? ⟨b,4,none⟩=some (.slice (some ⟨g,0,none⟩) n c):=fun x=>(Ja2 (hG.but x)).2.2.2.2.1;(iterate 7 (refine ay hG hz0 fun _ k=>?_;go_simp;apply k;clear k));clear y4;refine JaI (i:=7) (by kernel_rfl) ⟨_,rfl,?_⟩;intro w31 hb31 K hK
    go_simp
    have hb5B:=hb5A.trans (hb31.mono hb5A.size);refine(CT2.out w31 hb5B).mono ?_;rintro e w32 ⟨v',rfl,hn6,hb32⟩;obtain⟨p6,c6,rfl⟩:=Jbu hn6;have HN6:=hdz hn6;have hz2:w32.heap[b]?=some (.cells (Jb2 who u S (.slice (some ⟨g,0,none⟩) n c)) 203 (0,0)):=((hb5B.trans (hb32.mono hb5B.size)).block b hblr).trans HBK.out;refine⟨_,rfl,hK _ _ (fun _=>hz2) ?_⟩;clear hK K hn6 hz0;(iterate 4 (refine ay hG hz2 fun _ k=>?_;go_simp;apply k;clear k));clear hG hz2;refine JaI (i:=12) (by kernel_rfl) ⟨_,rfl,?_⟩;intro w33 hb33 K hK;have hb5C:=hb5B.trans (hb32.mono hb5B.size);have hbA:Below wr.heap.size wr w33:=hb5C.trans (hb33.mono hb5C.size);have hA3:=(hbA.block b hblr).trans HBK.out;have HA4:Hid _:=JbL HMN.out hbA;have hgr:∃cs,w33.heap[g]?=some (.cells cs 23 (0,0)):=by obtain⟨_,_,e⟩:=Jca HA4.out (k:=g) rfl;exact e
    obtain⟨cs,hcs⟩:=hgr;have zr:=(hbA.cell (p:=⟨g,k,none⟩) hglr).trans hck;have zf:w33.frozen? ⟨g,k,none⟩=false:=Jcn hcs;have HN33:Hid (opX lo w33 (.slice p6 Y2.length c6) Y2):=Jan (JaG HN6.out) hb33;have HO33:Hid (opX lo w33 (.slice p5 Y1.length c5) Y1):=Jan (JaG HN5.out) (hb30.trans ((hb31.trans ((hb32.trans (hb33.mono hb32.size)).mono hb31.size)).mono hb30.size));have HA3:=hdz hA3;have HBA:=hdz hbA;clear hbA hA3 hb30 hb31 hb32 hb33 hcs hb5A hb5B hb5C hB5
    go_simp
    refine hK _ _ (fun _=>?_) ?_
    . exact(Below.heap_setCell w33 ⟨g,k,none⟩ _ b (fun e=>hgb e.symm)).trans HA3.out
    clear hK K;refine JaA (by kernel_rfl) ?_;intro w34 hb34;obtain⟨vs',r1,r2,r3⟩:=HA4.out;obtain⟨s1,s2⟩:=JnK r1 r2 r3 HN33.out k;rw[HSET.out]at s1;have hbn:=(s2.2 b (alt HA3.out) fun e=>hgb (osi e)).trans HA3.out
    have FIN:Hid (tuI lo w b 0 (.slice (some ⟨g,0,none⟩) n c) S.mine x (.cells (Jb2 who u S (.slice (some ⟨g,0,none⟩) n c)) 203 (0,0)) (k+1) (.slice p5 Y1.length c5) w34):=by
     refine⟨HLL.out,(hb34.block b (alt hbn)).trans hbn,?_,?_,?_⟩
     . rw[HTK.out];exact JbL s1 hb34
     . rw [HTK.out]
       exact Jan (Jbb HO33.out s2 fun j _ hj=>by
        obtain rfl:g=j:=osi hj;obtain⟨e1,_,cs',e3⟩:=HGM.out;obtain⟨_,_,cs'',e4⟩:=Jca HA4.out (k:=g) rfl
        exact⟨e1,JaP e4 (by decide)⟩) hb34
     . exact((HSM.out.trans (Jai HBA.out _)).trans s2).trans (Jai hb34 _)
    have HLT2:=hdz hlt';clear r1 r2 r3 s1 s2 hbn hb34 zr zf;go_wp2
    go_roundw
    case rel=>exact⟨k+1,by go_num,FIN.out⟩
    case measure=>have:=HLT2.out;simp[intOf];omega
  . obtain rfl:k=n:=by omega
    have htk:S.mine.take k=S.mine:=List.take_of_length_le (by rw[HN.out];exact nlr _);have hop:=hI.op;have hmn:=hI.mine;rw[htk]at hop hmn;have hdr:S.mine.drop k=[]:=List.drop_of_length_le (by rw[HN.out];exact nlr _);rw[hdr,List.append_nil]at hmn;obtain⟨_,gX,_⟩:=Jd4 S.mine x S.seen HGX.out HK.out.all;have hsz:=HSZ.out;have hpx:=(Jd3 2000 S.mine x S.seen HGX.out HK.out.all HK.out.puts (by rw[HN.out];omega) (by omega)).2;have hTl:=Jg0 2000 S.mine S.seen HK.out.all HK.out.puts;rw[HN.out]at hTl;rw[←HK.out.doc]at gX hTl;have hTr:Lib.Utf8Tabs 2 3 wr:=JfS HT.out hI.same (fun e=>by have:=(HMO.out _ e).1;have:=HGG.out.1;omega) (fun e=>by have:=(HMO.out _ e).1;have:=HGG.out.2;omega);obtain⟨X,hX⟩:∃X,(Jbl S.mine x).2=X:=⟨_,rfl⟩;rw[hX]at gX hpx hop;have HXX:=hdz hX;have CA:Hid _:=Jie _ X S.doc wr hTr hop.1 gX (by omega);have hblr:b<wr.heap.size:=Nat.lt_of_lt_of_le hlt hI.same.size;have w5':=(Ja2 hI.blk).2.2.2.2.2.1;have HMN:=hdz hmn;have HBK:=hdz hI.blk;have HSM:=hdz hI.same;have hki:¬((k:Int)<(k:Int)):=by omega
    clear hI HI gX hop hmn htk hdr hsz hpx hTl hTr hX
    go_wp2_with (go_at_call 29;refine Calls.mono CA.out ?_;rintro e w2 ⟨rfl,hb2⟩;have HB2:=hdz hb2;have hbk2:=(hb2.block b hblr).trans HBK.out;have HBK2:=hdz hbk2;have u5:=(Ja2 hbk2).2.2.2.2.2.1;have uf:=fz hbk2 5;clear hb2 hbk2)
    go_end0;refine⟨rfl,?_⟩;rw[HXX.out];have b1:=heap_setCell_same w2 b 5 _ _ (.string ⟨(Jaa X S.doc).toArray⟩) HBK2.out;have hs1:sameBut w2 (w2.setCell ⟨b,5,none⟩ (.string ⟨(Jaa X S.doc).toArray⟩)) (fun k=>k=b):=Jaj (S:=fun k=>k=b) rfl;refine Jen HLO.out H3.out b1 (JcX (JbL HMN.out HB2.out) hs1 (fun j _ hj=>by obtain rfl:=hj;exact⟨HLO.out,JaP HBK2.out (by decide)⟩) fun j hj e=>?_) ?_ fun j hj=>.inl hj
    . obtain⟨_,_,cs,hc⟩:=HMO.out j hj
      subst e;have:=Jcw H3.out hc;revert this;decide
    . exact((HSM.out.mono fun j _ e=>.inr e).trans (Jai HB2.out _)).comp hs1 fun j _ e=>.inl e
end
end Go.Proofs.YtedgnlgjmnccgabGreatDoor
