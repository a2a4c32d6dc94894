/-
  A part of the texts that the proof uses.
-/
import Derived.Test.YtbkeomcicobohaaGreatDoorPartF
set_option maxRecDepth 100000
set_option maxHeartbeats 40000000
set_option linter.unusedVariables false
namespace Go.Proofs.YtbkeomcicobohaaGreatDoor
open Go.Proofs.Tryz Go.RowKit Go.Maps
section
attribute [local go_sem] Oper.semAt_some
def uB (u:Int):Bool:=decide (u=1\/u=2\/u=3)
theorem Jp0(u:Int):uB u=true↔JaH u:=by unfold uB JaH;exact decide_eq_true_iff
def tzE (rs:List Nat) (u v:Int) (qs:List Pt):Int:=if (uB u && uB v)=true then (if chkE qs (by_ u rs)=0 then turnX rs u v qs else chkE qs (by_ u rs)) else 1
def tzO (rs:List Nat) (u v:Int) (qs:List Pt):List Pt:=if (uB u && uB v)=true then (if chkE qs (by_ u rs)=0 then turnO rs u v qs else []) else []
theorem Jms(rs:List Nat)(h:C1 rs<=1000000)(x:Int):by_ x rs<=3000000:=by
 have h2:=Job rs;have h3:=JjQ rs;have h1:=JdN rs;unfold by_;split<;>(try split)<;>(try split)<;>omega
theorem sh_fine{u:Int}(hu:JaH u){rs:List Nat}{q:List Pt}(hR:∀r∈rs,Jbp r)(h:tzE rs u 1 q=0) :
    good (tzO rs u 1 q) (encs rs)/\Jae (tzO rs u 1 q) (encs rs)=encs (Jep u rs q)/\(∀r∈Jep u rs q,Jbp r)/\shE u rs q=(if C1 (Jep u rs q)<=8000 then 0 else 12)/\shR u rs q=(if C1 (Jep u rs q)<=8000 then Jep u rs q else rs)/\chkE q (by_ u rs)=0/\okZ u rs q=true/\tzO rs u 1 q=inZ u 1 rs q:=by
 have h1:(uB u && uB 1)=true:=by rw[(Jp0 u).2 hu,(Jp0 1).2 (.inl rfl)];rfl
 unfold tzE at h;unfold tzO;rw[h1,if_pos rfl]at h ⊢;have hc:chkE q (by_ u rs)=0:=by
  by_cases hc:chkE q (by_ u rs)=0
  . exact hc
  . rw[if_neg hc]at h;exact absurd h hc
 rw[if_pos hc]at h ⊢;obtain⟨hp1,h2,h3⟩:=Jgk hc;obtain⟨t1,t2⟩:=Jsg hu 1 q rs h3 (Int.le_of_eq h2);have ho:okZ u rs q=true:=by
  rw[t1]at h
  cases e:okZ u rs q with
  | true=>rfl
  | false=>rw[e]at h;cases h
 rw[t2,ho,if_pos rfl];obtain⟨il,ia⟩:=Jtp hu q rs hp1 h2 hR ho;have hE:shE u rs q=(if C1 (Jep u rs q)<=8000 then 0 else 12):=by
  unfold shE plE;rw[if_pos hc,if_pos ho]
 refine⟨il.good,ia,JkR hu q rs h3 (Int.le_of_eq h2) ho hR,hE,?_,hc,rfl,rfl⟩;unfold shR;rw[hE]
 by_cases h8:C1 (Jep u rs q)<=8000
 . rw[if_pos h8,if_pos rfl,if_pos h8]
 . rw[if_neg h8,if_neg (by decide),if_neg h8]
theorem Jto{u:Int}:∀(qs:List Pt)(R:List Nat),(∀q∈qs,oneB q=true)->Jaq (inZ u 1 R qs)=Jaq qs
 | [],_,_=>rfl
 | q :: qs,R,h=>by
  have ih:=Jto (u:=u) qs (Jcc u R (lenP q)) λx hx=>h x (by simp[hx]);have e:∀(p:Pt) (l:List Pt),Jaq (p :: l)=p.put.length+Jaq l:=λp l=>by simp[Jaq]
  rw[inZ,e,e,ih,Jl1 (h q (by simp))]
theorem JpD:∀(qs:List Pt),(∀q∈qs,q.put.length<=300)->Jaq qs<=300*qs.length
 | [],_=>by simp[Jaq]
 | q :: qs,h=>by
  have ih:=JpD qs λx hx=>h x (by simp[hx]);have:=h q (by simp);have e:Jaq (q :: qs)=q.put.length+Jaq qs:=by simp[Jaq]
  rw[e,List.length_cons];omega
def isDoc (s:List UInt8):Prop:=(scan s).2=true/\s.length<=1500
theorem field2c(a b c d:Int)(w:World):(Instr.field 78 (.agg #[I6 a,I6 b,I6 c,I6 d]) 2).run prog w=.ok (I6 c) w:=by kernel_rfl
attribute [local go_sem] field2c
structure told (x:List Pt) (s:List UInt8):Prop where
 good:good x s
 doc:isDoc s
 len:x.length<=61
 puts:Jaq x<=9150
end
section
theorem put_cut(u:List UInt8)(j:Nat)(hj:j+1<=u.length)(ps:List Pt)(r:List UInt8)(h:Left (⟨0,0,u⟩ :: ps) r)(hv:V (u.take (j+1))) :
    (cutP ⟨0,0,u⟩ ((j:Int)+1)).1=⟨0,0,u.take (j+1)⟩/\Left ((cutP ⟨0,0,u⟩ ((j:Int)+1)).2++ps) r/\Jae (⟨0,0,u⟩ :: ps) r=u.take (j+1)++Jae ((cutP ⟨0,0,u⟩ ((j:Int)+1)).2++ps) r/\Jam ((cutP ⟨0,0,u⟩ ((j:Int)+1)).2++ps)+(j+1)=Jam (⟨0,0,u⟩ :: ps):=by
 obtain⟨hl,hV⟩:=Jfp h;have h2:((j:Int)+1).toNat=j+1:=by omega
 have hw:Jam (⟨0,0,u⟩ :: ps)=u.length+Jam ps:=by rw[Ja5,Jjt];omega
 rw[hw,JcN]
 by_cases e:u.length=j+1
 . have e1:cutP ⟨0,0,u⟩ ((j:Int)+1)=(⟨0,0,u⟩,[]):=by unfold cutP;rw[if_pos (by rw[Jjt];omega)]
   rw[e1,List.take_of_length_le (by omega)];exact⟨rfl,hl,rfl,by show Jam ps+(j+1)=_;omega⟩
 . have e1:cutP ⟨0,0,u⟩ ((j:Int)+1)=(⟨0,0,u.take (j+1)⟩,[⟨0,0,u.drop (j+1)⟩]):=by
     unfold cutP;rw[if_neg (by rw[Jjt];omega),if_neg (show ¬0<(⟨0,0,u⟩:Pt).keep from Int.lt_irrefl 0),if_neg (show ¬0<(⟨0,0,u⟩:Pt).drop from Int.lt_irrefl 0),h2]
   have e2:u=u.take (j+1)++u.drop (j+1):=(List.take_append_drop _ _).symm;have h3:V (u.drop (j+1)):=Jwq hV hv;have h4:u.drop (j+1)≠[]:=λe'=>by have:=congrArg List.length e';rw[List.length_drop]at this;simp at this;omega
   rw[e1];refine⟨rfl,⟨?_,?_,h3,?_,?_⟩,?_,?_⟩
   . intro p hp
     rcases List.mem_cons.1 hp with rfl|hp
     . exact .inr (.inr ⟨rfl,rfl,h4⟩)
     . exact hl.one p hp
   . have:=hl.long
     simp only[List.cons_append,List.nil_append];rw[Jby];show(0:Int)+0+_=_;omega
   . show V (r.take 0);rw[List.take_zero];exact JdG
   . exact hl.al
   . show u++Jae ps r=u.take (j+1)++Jae (⟨0,0,u.drop (j+1)⟩ :: ps) r
     rw[JcN,←List.append_assoc,←e2]
   . show Jam (⟨0,0,u.drop (j+1)⟩ :: ps)+(j+1)=_
     rw[Ja5,Jjt,List.length_drop];omega
theorem JfO(d:Bool)(n:Nat):JaU (Jan d (n+1))=d:=by
 have h0:(0:Int)<((n:Int)+1):=by omega
 cases d<;>simp[JaU,Jan,h0]
theorem Jhc(d:Bool)(n:Nat):JbZ (Jan d (n+1)) = !d:=by
 have h0:(0:Int)<((n:Int)+1):=by omega
 cases d<;>simp[JbZ,Jan,h0]
theorem comp_st:∀(f:Nat)(A B:List Pt)(r T D o:List UInt8)(s:NSt),Left A r->Left B (Jae A r)->Jam A+Jam B<=f->St T D r o s ->
    St T T [] (o++Jae B (Jae A r)) (runS JcI (Ja7 JaU Jag f A B) s):=by
 have base:∀(T D o:List UInt8) (s:NSt) (g:Nat),St T D [] o s->St T T [] (o++Jae [] (Jae [] [])) (runS JcI (Ja7 JaU Jag g [] []) s):=by
  intro T D o s g h;have e:Ja7 JaU Jag g [] []=[]:=by cases g<;>rfl
  rw[e];exact h.full.none
 have nil_of:∀{l:List Pt} {r:List UInt8},Left l r->Jam l=0->l=[]:=by
  intro l r h hw
  cases l with
  | nil=>rfl
  | cons p l=>have:=JcA (h.one p (by simp)) l;omega
 intro f
 induction f with
 | zero =>
  intro A B r T D o s hA hB hw h;obtain rfl:=nil_of hA (by omega);obtain rfl:=nil_of hB (by omega);obtain rfl:=JdP hA;exact base T D o s 0 h
 | succ f ih =>
  intro A B r T D o s hA hB hw h;have stepB:∀(v:List UInt8) (B':List Pt),v≠[]->B=⟨0,0,v⟩ :: B'->Ja7 JaU Jag (f+1) A B=(noP,⟨0,0,v⟩) :: Ja7 JaU Jag f A B'->St T T [] (o++Jae B (Jae A r)) (runS JcI (Ja7 JaU Jag (f+1) A B) s):=by
   intro v B' hv e es;subst e;obtain⟨hB',hV⟩:=Jfp hB;have hw':=JcA (hB.one ⟨0,0,v⟩ (by simp)) B';rw[es,Jef,JcN,←List.append_assoc];refine ih A B' r T D (o++v) _ hA hB' (by omega) ?_;have e:JcI (noP,⟨0,0,v⟩)=[⟨0,0,v⟩]:=by simp[JcI,JaU,JbZ,Jag,noP,hv]
   rw[e];exact h.put hV
  cases A with
  | nil =>
   obtain rfl:=JdP hA
   cases B with
   | nil=>exact base T D o s (f+1) h
   | cons q B' =>
    rcases Jbr (hB.one q (by simp)) with ⟨v,hv,rfl⟩|⟨e,k,rfl⟩
    . exact stepB v B' hv rfl (by
        have h2:=Jck hv
        simp only[Ja7,h2,if_true])
    . exact absurd hB JdA
  | cons p A' =>
   rcases Jbr (hA.one p (by simp)) with ⟨u,hu,rfl⟩|⟨d,m,rfl⟩
   . have hdu : JaU ⟨0,0,u⟩=false:=by simp[JaU]
     cases B with
     | nil =>
      have:=JdP hB;rw[JcN]at this;simp[hu]at this
     | cons q B' =>
      rcases Jbr (hB.one q (by simp)) with ⟨v,hv,rfl⟩|⟨e,k,rfl⟩
      . exact stepB v B' hv rfl (by
          have h2:=Jck hv
          simp only[Ja7,hdu,h2,Bool.false_eq_true,if_false,if_true])
      . obtain ⟨m,hm⟩:∃m,u.length=m+1:=⟨u.length - 1,by have:=List.length_pos_iff.2 hu;omega⟩
        have hmin:min (Jaf ⟨0,0,u⟩) (Jaf (Jan e (k+1)))=((min m k:Nat):Int)+1:=by rw[Jjt,JbJ];omega
        obtain⟨j,hj⟩:∃j,min m k=j:=⟨_,rfl⟩;rw[hj]at hmin;have hj1:j<=m:=by omega
        have hj2:j<=k:=by omega
        have huv:=(Jfp hA).2;have hmid:=JcN u A' r
        have hv:V (u.take (j+1)):=by
         have v2:=(JbQ hB).2.2.1;rw[Jb8,hmid]at v2
         by_cases hc:m<=k
         . rw[List.take_of_length_le (by omega)];exact huv
         . obtain rfl:k=j:=by omega
           have e2:((k+1:Nat):Int).toNat=k+1:=by omega
           rw[e2,List.take_append_of_le_length (by omega)]at v2;exact v2
        obtain⟨c1,lA,aA,wA⟩:=put_cut u j (by omega) A' r hA hv;have hx:(u.take (j+1)).length=j+1:=by rw[List.length_take];omega
        have hvm:V ((Jae (⟨0,0,u⟩ :: A') r).take (j+1)):=by rw[aA,List.take_left' hx];exact hv
        obtain⟨lB,aB,_⟩:=Jfb e k j hj2 B' _ hB hvm;rw[aB];rw[aA,List.drop_left' hx,List.take_left' hx]at *;have wB:=JcD e k j hj2;have es:Ja7 JaU Jag (f+1) (⟨0,0,u⟩ :: A') (Jan e (k+1) :: B')=(⟨0,0,u.take (j+1)⟩,Jan e (j+1)) :: Ja7 JaU Jag f ((cutP ⟨0,0,u⟩ ((j:Int)+1)).2++A') ((cutP (Jan e (k+1)) ((j:Int)+1)).2++B'):=by
         have h2:=Jbu e (k+1);simp only[Ja7,hdu,h2,hmin,c1,(JdR e k j hj2).1,Bool.false_eq_true,if_false]
        have hw2:Jam ((cutP ⟨0,0,u⟩ ((j:Int)+1)).2++A')+Jam ((cutP (Jan e (k+1)) ((j:Int)+1)).2++B')<=f:=by
         rw[Jbh (cutP (Jan e (k+1)) ((j:Int)+1)).2,wB];rw[Ja5 (Jan e (k+1)),JbJ]at hw;omega
        rw[es,Jef,←List.append_assoc];refine ih _ _ r T D _ _ lA lB hw2 ?_;have hune:u.take (j+1)≠[]:=λe'=>by rw[e']at hx;simp at hx
        cases e with
        | true =>
         have ec:JcI (⟨0,0,u.take (j+1)⟩,Jan true (j+1))=[]:=by
          have h1:=Jhc true j;have h2:=Jbu true (j+1);simp[JcI,JaU,h2,JbZ];simp[Jan]
         rw[ec,if_pos rfl];exact h.none
        | false =>
         have ec:JcI (⟨0,0,u.take (j+1)⟩,Jan false (j+1))=[⟨0,0,u.take (j+1)⟩]:=by
          have h1:=Jhc false j;simp[JcI,h1]
         rw[ec,if_neg (by decide)];exact h.put hv
   . cases d with
     | true =>
      obtain⟨lA,_,hv,hlen⟩:=JbQ hA;rw[Jb8]at lA hv hlen;have e2:((m+1:Nat):Int).toNat=m+1:=by omega
      rw[e2]at lA hv hlen;have hap:Jae (Jan true (m+1) :: A') r=Jae A' (r.drop (m+1)):=by rw[Jde];simp
      rw[hap]at hB ⊢;have hw':=JcA (hA.one (Jan true (m+1)) (by simp)) A';have es:Ja7 JaU Jag (f+1) (Jan true (m+1) :: A') B=(Jan true (m+1),noP) :: Ja7 JaU Jag f A' B:=by
       have h1:=JfO true m
       cases B<;>simp only[Ja7,h1,if_true]
      have ec:JcI (Jan true (m+1),noP)=[Jan true (m+1)]:=by
       have h1:=JfO true m;simp[JcI,h1]
      rw[es,Jef,ec];refine ih A' B (r.drop (m+1)) T (D++r.take (m+1)) o _ lA hB (by omega) ?_;have h':St T D (r.take (m+1)++r.drop (m+1)) o s:=by rw[List.take_append_drop];exact h
      have:=h'.unit hv true (m+1) (by rw[List.length_take];omega);rw[if_pos rfl,List.append_nil]at this;exact this
     | false =>
      cases B with
      | nil =>
       have:=JdP hB;rw[Jde]at this;have hlen:=(JbQ hA).2.2.2;rw[Jb8]at hlen;have:=congrArg List.length this;rw[if_neg (by decide),List.length_append,List.length_take,List.length_nil]at this;omega
      | cons q B' =>
       rcases Jbr (hB.one q (by simp)) with ⟨v,hv,rfl⟩|⟨e,k,rfl⟩
       . exact stepB v B' hv rfl (by
           have h1:=JfO false m;have h2:=Jck hv
           simp only[Ja7,h1,h2,Bool.false_eq_true,if_false,if_true])
       . have hmin:min (Jaf (Jan false (m+1))) (Jaf (Jan e (k+1)))=((min m k:Nat):Int)+1:=by rw[JbJ,JbJ];omega
         obtain⟨j,hj⟩:∃j,min m k=j:=⟨_,rfl⟩;rw[hj]at hmin;have hj1:j<=m:=by omega
         have hj2:j<=k:=by omega
         have hlenA:=(JbQ hA).2.2.2;rw[Jb8]at hlenA
         have hv:V (r.take (j+1)):=by
          have v1:=(JbQ hA).2.2.1;have v2:=(JbQ hB).2.2.1;rw[Jb8]at v1 v2
          by_cases hc:m<=k
          . obtain rfl:m=j:=by omega
            exact v1
          . obtain rfl:k=j:=by omega
            have e2:((k+1:Nat):Int).toNat=k+1:=by omega
            rw[e2,Jde,if_neg (by decide),List.take_append_of_le_length (by rw[List.length_take];omega),List.take_take,show min (k+1) (m+1)=k+1 by omega]at v2;exact v2
         obtain⟨lA,aA,hlen⟩:=Jfb false m j hj1 A' r hA hv;rw[if_neg (by decide)]at aA;have hx:(r.take (j+1)).length=j+1:=by rw[List.length_take];omega
         have hvm:V ((Jae (Jan false (m+1) :: A') r).take (j+1)):=by rw[aA,List.take_left' hx];exact hv
         obtain⟨lB,aB,_⟩:=Jfb e k j hj2 B' _ hB hvm;rw[aB];rw[aA,List.drop_left' hx,List.take_left' hx]at *;have wA:=JcD false m j hj1;have wB:=JcD e k j hj2;have es:Ja7 JaU Jag (f+1) (Jan false (m+1) :: A') (Jan e (k+1) :: B')=(Jan false (j+1),Jan e (j+1)) :: Ja7 JaU Jag f ((cutP (Jan false (m+1)) ((j:Int)+1)).2++A') ((cutP (Jan e (k+1)) ((j:Int)+1)).2++B'):=by
          have h1:=JfO false m;have h2:=Jbu e (k+1);simp only[Ja7,h1,h2,hmin,(JdR false m j hj1).1,(JdR e k j hj2).1,Bool.false_eq_true,if_false]
         have hw2:Jam ((cutP (Jan false (m+1)) ((j:Int)+1)).2++A')+Jam ((cutP (Jan e (k+1)) ((j:Int)+1)).2++B')<=f:=by
          rw[Jbh,Jbh,wA,wB];rw[Ja5,Ja5,JbJ,JbJ]at hw;omega
         rw[es,Jef,←List.append_assoc];refine ih _ _ (r.drop (j+1)) T (D++r.take (j+1)) _ _ lA lB hw2 ?_;have ec:JcI (Jan false (j+1),Jan e (j+1))=[Jan e (j+1)]:=by
          have h1:=Jhc e j;have h2:=Jhc false j;have h3:=JfO false j
          cases e<;>simp[JcI,h1,h2,h3]
         rw[ec];have h':St T D (r.take (j+1)++r.drop (j+1)) o s:=by rw[List.take_append_drop];exact h
         exact h'.unit hv e (j+1) hx
theorem Jtt{a b:List Pt}{t:List UInt8}(ha:good a t)(hb:good b (Jae a t)) :
    good (JaG (Jj7 a b)) t/\Jae (JaG (Jj7 a b)) t=Jae b (Jae a t):=by
 have na:=ha.norm;have nb:=hb.norm;have la:Left (Jap a) t:=⟨na.one,na.long,na.al⟩;have ea:=JhL ha.one t;have eb:=JhL hb.one (Jae a t);have lb:Left (Jap b) (Jae (Jap a) t):=by rw[ea];exact⟨nb.one,nb.long,nb.al⟩
 have:=(comp_st _ (Jap a) (Jap b) t t [] [] nst0 la lb (nlr _) (St0 t)).good;rw[List.nil_append,ea,eb]at this;exact this
variable {ps : List Pt}
theorem JjH:∀(ps:List Pt)(t:List UInt8),Left ps t->((Jae ps t).length:Int)=(ps.map isP).sum
 | [],t,_=>rfl
 | p :: ps,t,h=>by
  obtain⟨hl,_,_,hlen⟩:=JbQ h;have ih:=JjH ps _ hl;rw[List.map_cons,List.sum_cons,←ih]
  rcases Jbr (h.one p (by simp)) with ⟨u,hu,rfl⟩|⟨d,m,rfl⟩
  . rw[JcN,List.length_append];simp[isP,lenP]
  . rw [Jb8]at hlen ⊢
    have e2:((m+1:Nat):Int).toNat=m+1:=by omega
    rw[e2]at hlen ⊢;rw[Jde,List.length_append]
    cases d with
    | true=>simp[isP,Jan]
    | false =>
     rw[if_neg (by decide),List.length_take];simp only[isP,Jan,List.length_nil,Bool.false_eq_true,if_false];omega
theorem good.left{t:List UInt8}(h:good ps t):Left ps t:=⟨h.one,h.long,h.al⟩
def Jba:List Pt->List Bool
 | []=>[]
 | p :: ps=>List.replicate p.drop.toNat true++(List.replicate p.keep.toNat false++Jba ps)
theorem Je6:∀(a b:List Pt),Jba (a++b)=Jba a++Jba b
 | [],b=>rfl
 | p :: a,b=>by rw[List.cons_append,Jba,Jba,Je6 a b];simp
def actF (x:List Bool) (p:Pt):List Bool:=x++(List.replicate p.drop.toNat true++List.replicate p.keep.toNat false)
theorem actF_ok:ActP actF:=by
 constructor
 . intro x;simp[actF]
 . intro x u v;simp[actF]
 . intro x a b ha hb
   simp only[actF,Int.toNat_zero,List.replicate_zero,List.append_nil,List.append_assoc];rw[show(a+b).toNat=a.toNat+b.toNat by omega,←List.replicate_append_replicate]
 . intro x a b ha hb
   simp only[actF,Int.toNat_zero,List.replicate_zero,List.nil_append,List.append_assoc];rw[show(a+b).toNat=a.toNat+b.toNat by omega,←List.replicate_append_replicate]
 . intro x k d u;simp[actF]
 . intro x d u;simp[actF]
theorem JhO:∀(ps:List Pt)(x:List Bool),ps.foldl actF x=x++Jba ps
 | [],x=>by simp[Jba]
 | p :: ps,x=>by rw[List.foldl_cons,JhO ps,actF,Jba];simp
theorem JkJ(h:∀p∈ps,0<=p.keep/\0<=p.drop):Jba (Jap ps)=Jba ps:=by
 have e:=Jgn actF_ok ps h [];rw[JhO,JhO]at e;simpa using e
theorem JgS(h:∀p∈ps,0<=p.keep/\0<=p.drop):Jaq (Jap ps)=Jaq ps:=by
 have ok:ActP (λ(x:Nat) (p:Pt)=>x+p.put.length):=by
  constructor
  . intro x;simp
  . intro x u v;simp;omega
  . intro x a b _ _;simp
  . intro x a b _ _;simp
  . intro x k d u;simp
  . intro x d u;simp
 have key:∀(l:List Pt) (x:Nat),l.foldl (λx p=>x+p.put.length) x=x+Jaq l:=by
  intro l
  induction l with
  | nil=>intro x;simp[Jaq]
  | cons p l ih=>intro x;rw[List.foldl_cons,ih];simp[Jaq];omega
 have e:=Jgn ok ps h 0;rw[key,key]at e;omega
theorem JdW(d:Bool)(n:Nat)(ps:List Pt):Jba (Jan d n :: ps)=List.replicate n d++Jba ps:=by
 cases d<;>simp[Jba,Jan]
theorem JfL(u:List UInt8)(ps:List Pt):Jba (⟨0,0,u⟩ :: ps)=Jba ps:=by simp[Jba]
theorem Jd6(p:Pt)(ps:List Pt):Jaq (p :: ps)=p.put.length+Jaq ps:=by simp[Jaq]
theorem Jeg(a b:List Pt):Jaq (a++b)=Jaq a+Jaq b:=by simp[Jaq]
theorem JhM:∀(ps:List Pt)(t:List UInt8),Left ps t->(Jae ps t).length=Jaq ps+(Jba ps).count false
 | [],t,_=>rfl
 | p :: ps,t,h=>by
  obtain⟨hl,_,_,hlen⟩:=JbQ h;have ih:=JhM ps _ hl
  rcases Jbr (h.one p (by simp)) with ⟨u,hu,rfl⟩|⟨d,m,rfl⟩
  . have e0:(lenP (⟨0,0,u⟩:Pt)).toNat=0:=rfl
    rw[e0,List.drop_zero]at ih;rw[JcN,JfL,Jd6,List.length_append,ih];show u.length+_=u.length+_+_;omega
  . rw [Jb8]at hlen ih
    have e2:((m+1:Nat):Int).toNat=m+1:=by omega
    rw[e2]at hlen ih;rw[Jde,JdW,Jd6,Jfi,List.length_append,List.count_append,ih]
    cases d with
    | true=>simp[List.count_replicate]
    | false =>
     rw[if_neg (by decide),List.length_take,List.count_replicate];simp;omega
def dflC (F:List Bool) (x:Cel):Bool:=if x.1<0 then false else F[x.1.toNat]?.getD false
theorem Jt7(F:List Bool)(u:List UInt8):(putC u).map (dflC F)=List.replicate u.length false:=by
 unfold putC;rw[List.map_map]
 induction u with
 | nil=>rfl
 | cons c u ih=>rw[List.map_cons,ih];rfl
theorem Jmm(F:List Bool)(d:Bool)(rest:List Bool):∀(k i:Nat),F.drop i=List.replicate k d++rest->(Jew i k).map (dflC F)=List.replicate k d
 | 0,i,_=>rfl
 | k + 1,i,h=>by
  have h1:F[i]?=some d:=by
   have:(F.drop i)[0]?=some d:=by rw[h];simp[List.replicate_succ]
   rw[List.getElem?_drop,Nat.add_zero]at this;exact this
  have h2:F.drop (i+1)=List.replicate k d++rest:=by
   have:=congrArg (List.drop 1) h;rw[List.drop_drop,List.replicate_succ,List.cons_append,List.drop_succ_cons,List.drop_zero]at this;exact this
  have e:dflC F ((i:Int),0)=d:=by unfold dflC;rw[if_neg (by show ¬(i:Int)<0;omega)];simp[h1]
  have ih:=Jmm F d rest k (i+1) h2;rw[Jew,List.map_cons,e,List.replicate_succ]
  congr 1
theorem JmA(d:Bool)(m j:Nat)(hj:j<=m)(ps:List Pt)(i:Int) :
    Jba (Jan d (m+1) :: ps)=List.replicate (j+1) d++Jba ((cutP (Jan d (m+1)) ((j:Int)+1)).2++ps)/\Jaq ((cutP (Jan d (m+1)) ((j:Int)+1)).2++ps)=Jaq ps /\
    midP i (Jan d (m+1) :: ps)=(if d then [] else Jew i (j+1))++midP (i+(j+1:Nat)) ((cutP (Jan d (m+1)) ((j:Int)+1)).2++ps):=by
 have hmu:∀(d:Bool) (n:Nat) (i:Int) (ps:List Pt),midP i (Jan d n :: ps)=(if d then [] else Jew i n)++midP (i+n) ps:=by
  intro d n i ps
  cases d
  . simp[midP,Jan,putC]
  . simp[midP,Jan,putC,Jew]
 rcases JnF d m j hj with ⟨rfl,e⟩|⟨k,rfl,e⟩
 . rw[e,List.nil_append,JdW,hmu]
   exact⟨rfl,rfl,rfl⟩
 . rw [e]
   have e1:j+k+1+1=(j+1)+(k+1):=by omega
   refine⟨?_,?_,?_⟩
   . show _=_++Jba (Jan d (k+1) :: ps)
     rw[JdW,JdW,←List.append_assoc,e1,List.replicate_append_replicate]
   . show Jaq (Jan d (k+1) :: ps)=_
     rw[Jd6,Jfi];simp
   . show _=_++midP _ (Jan d (k+1) :: ps)
     rw[hmu,hmu,e1]
     cases d with
     | true=>simp only[if_true,List.nil_append];congr 1;push_cast;omega
     | false =>
      simp only[Bool.false_eq_true,if_false];rw[JfK,List.append_assoc]
      congr 3
      push_cast;omega
theorem JiI(F:Bool):∀(f:Nat)(A B:List Pt)(r:List UInt8)(FO:List Bool)(pos:Nat),Left A r->Left B r->Jam A+Jam B<=f->FO.drop pos=Jba (if F then A else B) ->
    Jba ((Ja7 Jag Jag f A B).flatMap (tF F))=(midP pos (if F then B else A)).map (dflC FO)/\Jaq ((Ja7 Jag Jag f A B).flatMap (tF F))=Jaq (if F then A else B):=by
 have nil_of:∀{l:List Pt} {r:List UInt8},Left l r->Jam l=0->l=[]:=by
  intro l r h hw
  cases l with
  | nil=>rfl
  | cons p l=>have:=JcA (h.one p (by simp)) l;omega
 have base:∀(FO:List Bool) (pos g:Nat),Jba ((Ja7 Jag Jag g [] []).flatMap (tF F))=(midP pos (if F then [] else [])).map (dflC FO)/\Jaq ((Ja7 Jag Jag g [] []).flatMap (tF F))=Jaq (if F then [] else []):=by
  intro FO pos g;have e:Ja7 Jag Jag g [] []=[]:=by cases g<;>rfl
  rw[e]
  cases F<;>exact⟨rfl,rfl⟩
 have midput:∀(u:List UInt8) (i:Int) (ps:List Pt),midP i (⟨0,0,u⟩ :: ps)=putC u++midP i ps:=by
  intro u i ps;simp[midP,Jew]
 have flkeep:∀(n:Nat) (l:List Pt),Jba (⟨(n:Int),0,[]⟩ :: l)=List.replicate n false++Jba l:=by
  intro n l;simp[Jba]
 intro f
 induction f with
 | zero =>
  intro A B r FO pos hA hB hw h;obtain rfl:=nil_of hA (by omega);obtain rfl:=nil_of hB (by omega);exact base FO pos 0
 | succ f ih =>
  intro A B r FO pos hA hB hw h
  have stepB:∀(v:List UInt8) (B':List Pt),v≠[]->B=⟨0,0,v⟩ :: B'->Ja7 Jag Jag (f+1) A B=(noP,⟨0,0,v⟩) :: Ja7 Jag Jag f A B' ->
      Jba ((Ja7 Jag Jag (f+1) A B).flatMap (tF F))=(midP pos (if F then B else A)).map (dflC FO)/\Jaq ((Ja7 Jag Jag (f+1) A B).flatMap (tF F))=Jaq (if F then A else B):=by
   intro v B' hv e es;subst e;obtain⟨hB',hV⟩:=Jfp hB;have hw':=JcA (hB.one ⟨0,0,v⟩ (by simp)) B';have h':FO.drop pos=Jba (if F then A else B'):=by
    rw[h]
    cases F with
    | true=>rfl
    | false=>exact JfL v B'
   obtain⟨i1,i2⟩:=ih A B' r FO pos hA hB' (by omega) h';rw[es,List.flatMap_cons,Je6,Jeg,i1,i2]
   cases F with
   | true =>
    have e:=Jix true v hv;rw[if_pos rfl]at e;rw[e,if_pos rfl,if_pos rfl,if_pos rfl,midput,List.map_append,Jt7,flkeep];exact⟨by simp[Jba],by simp[Jaq]⟩
   | false =>
    have e:=Jp9 false v hv;rw[if_neg (by decide)]at e;rw[e,if_neg (by decide),if_neg (by decide),if_neg (by decide),Jd6,JfL];exact⟨rfl,by simp[Jaq]⟩
  cases A with
  | nil =>
   obtain rfl:=JdP hA
   cases B with
   | nil=>exact base FO pos (f+1)
   | cons q B' =>
    rcases Jbr (hB.one q (by simp)) with ⟨v,hv,rfl⟩|⟨e,k,rfl⟩
    . exact stepB v B' hv rfl (by
        have h2:=Jck hv
        simp only[Ja7,h2,if_true])
    . exact absurd hB JdA
  | cons p A' =>
   rcases Jbr (hA.one p (by simp)) with ⟨u,hu,rfl⟩|⟨d,m,rfl⟩
   . obtain ⟨hA',hV⟩:=Jfp hA
     have hw':=JcA (hA.one ⟨0,0,u⟩ (by simp)) A';have es:Ja7 Jag Jag (f+1) (⟨0,0,u⟩ :: A') B=(⟨0,0,u⟩,noP) :: Ja7 Jag Jag f A' B:=by
      have h1:=Jck hu
      cases B<;>simp only[Ja7,h1,if_true]
     have h':FO.drop pos=Jba (if F then A' else B):=by
      rw[h]
      cases F with
      | true=>exact JfL u A'
      | false=>rfl
     obtain⟨i1,i2⟩:=ih A' B r FO pos hA' hB (by omega) h';rw[es,List.flatMap_cons,Je6,Jeg,i1,i2]
     cases F with
     | true =>
      have e:=Jp9 true u hu;rw[if_pos rfl]at e;rw[e,if_pos rfl,if_pos rfl,if_pos rfl,Jd6,JfL];exact⟨rfl,by simp[Jaq]⟩
     | false =>
      have e:=Jix false u hu;rw[if_neg (by decide)]at e;rw[e,if_neg (by decide),if_neg (by decide),if_neg (by decide),midput,List.map_append,Jt7,flkeep];exact⟨by simp[Jba],by simp[Jaq]⟩
   . cases B with
     | nil =>
      obtain rfl:=JdP hB;exact absurd hA JdA
     | cons q B' =>
      rcases Jbr (hB.one q (by simp)) with ⟨v,hv,rfl⟩|⟨e,k,rfl⟩
      . exact stepB v B' hv rfl (by
          have h1:=Jbu d (m+1);have h2:=Jck hv
          simp only[Ja7,h1,h2,Bool.false_eq_true,if_false,if_true])
      . have hmin:min (Jaf (Jan d (m+1))) (Jaf (Jan e (k+1)))=((min m k:Nat):Int)+1:=by rw[JbJ,JbJ];omega
        obtain⟨j,hj⟩:∃j,min m k=j:=⟨_,rfl⟩;rw[hj]at hmin;have hj1:j<=m:=by omega
        have hj2:j<=k:=by omega
        have es:Ja7 Jag Jag (f+1) (Jan d (m+1) :: A') (Jan e (k+1) :: B')=(Jan d (j+1),Jan e (j+1)) :: Ja7 Jag Jag f ((cutP (Jan d (m+1)) ((j:Int)+1)).2++A') ((cutP (Jan e (k+1)) ((j:Int)+1)).2++B'):=by
         rw[Ja7,if_neg (by rw[Jbu];decide),if_neg (by rw[Jbu];decide),hmin,(JdR d m j hj1).1,(JdR e k j hj2).1]
        have hv:V (r.take (j+1)):=by
         have v1:=(JbQ hA).2.2.1;have v2:=(JbQ hB).2.2.1;rw[Jb8]at v1 v2
         by_cases hc:m<=k
         . obtain rfl:m=j:=by omega
           exact v1
         . obtain rfl:k=j:=by omega
           exact v2
        obtain⟨lA,_,_⟩:=Jfb d m j hj1 A' r hA hv;obtain⟨lB,_,_⟩:=Jfb e k j hj2 B' r hB hv;obtain⟨fA,pA,mA⟩:=JmA d m j hj1 A' pos;obtain⟨fB,pB,mB⟩:=JmA e k j hj2 B' pos;have wA:=JcD d m j hj1;have wB:=JcD e k j hj2;have hw2:Jam ((cutP (Jan d (m+1)) ((j:Int)+1)).2++A')+Jam ((cutP (Jan e (k+1)) ((j:Int)+1)).2++B')<=f:=by
         rw[Jbh,Jbh,wA,wB];rw[Ja5,Ja5,JbJ,JbJ]at hw;omega
        have hcast:(pos:Int)+((j+1:Nat):Int)=((pos+(j+1):Nat):Int):=by push_cast;rfl
        rw[hcast]at mA mB;have dropR:∀(b:Bool) (l:List Bool),FO.drop pos=List.replicate (j+1) b++l->FO.drop (pos+(j+1))=l:=by
         intro b l hl;have:=congrArg (List.drop (j+1)) hl;rw[List.drop_drop,List.drop_left' (by simp)]at this;exact this
        rw[es,List.flatMap_cons,Je6,Jeg,Jp8]
        cases F with
        | true =>
         rw[if_pos rfl]at h ⊢;rw[if_pos rfl,if_pos rfl,if_pos rfl];rw[fA]at h;obtain⟨i1,i2⟩:=ih _ _ (r.drop (j+1)) FO (pos+(j+1)) lA lB hw2 (by rw[if_pos rfl];exact dropR d _ h);rw[if_pos rfl]at i1 i2;rw[i1,i2,mB,Jd6,Jfi,pA,List.map_append]
         cases e with
         | true=>simp[Jba,Jaq]
         | false =>
          rw[if_neg (by decide),if_neg (by decide),Jmm FO d _ (j+1) pos h,JdW];simp[Jba,Jaq,Jfi]
        | false =>
         simp only[Bool.false_eq_true,if_false]at h ⊢;rw[fB]at h;obtain⟨i1,i2⟩:=ih _ _ (r.drop (j+1)) FO (pos+(j+1)) lA lB hw2 (by rw[if_neg (by decide)];exact dropR e _ h);rw[if_neg (by decide)]at i1 i2;rw[i1,i2,mA,Jd6,Jfi,pB,List.map_append]
         cases d with
         | true=>simp[Jba,Jaq]
         | false =>
          rw[if_neg (by decide),if_neg (by decide),Jmm FO e _ (j+1) pos h,JdW];simp[Jba,Jaq,Jfi]
end
section
variable {x : List Pt}{t : List UInt8}
theorem JvS:∀(ps:List Pt),wts ps=Jav ps+Jaq ps
 | []=>by simp[wts,Jav,Jaq]
 | p :: ps=>by
  have ih:=JvS ps;have e1:wts (p :: ps)=wtP p+wts ps:=by simp[wts]
  rw[e1,Jby,Jd6,ih];unfold wtP lenP
  push_cast;omega
theorem JlZ:∀(ps:List Pt),(∀p∈ps,oneP p)->(ps.length:Int)<=wts ps
 | [],_=>by simp[wts]
 | p :: ps,h=>by
  have ih:=JlZ ps λq hq=>h q (by simp[hq]);have e1:wts (p :: ps)=wtP p+wts ps:=by simp[wts]
  have h1:=Jbg (h p (by simp));have e2:Jaf p=wtP p:=rfl;rw[e1,List.length_cons];push_cast;omega
theorem JrO:∀(ps:List Pt),(∀p∈ps,oneP p)->∀p∈ps,wtP p<=wts ps
 | [],_,p,hp=>by cases hp
 | q :: ps,h,p,hp=>by
  have e1:wts (q :: ps)=wtP q+wts ps:=by simp[wts]
  have h0:=JlZ ps λx hx=>h x (by simp[hx]);have h1:=Jbg (h q (by simp));have e2:Jaf q=wtP q:=rfl
  rcases List.mem_cons.1 hp with rfl|hp
  . omega
  . have:=JrO ps (λx hx=>h x (by simp[hx])) p hp
    omega
theorem good.wt(h:good x t):wts x=t.length+Jaq x:=by rw[JvS,h.long]
theorem good.fine(h:good x t)(hb:t.length+Jaq x<1000000):fineP x:=by
 have h1:=h.wt;have h2:=JlZ x h.one;exact⟨h.one,by omega,by omega⟩
theorem good.wf(h:good x t)(hb:t.length+Jaq x<1000000):∀p∈x,wfP p:=by
 intro p hp;have h1:=h.wt;have h2:=JrO x h.one p hp;obtain⟨k1,k2,_⟩:=Ji1 (h.one p hp);have e:wtP p=p.keep+p.drop+p.put.length:=rfl;exact⟨by omega,by omega,by omega,by omega,by omega⟩
theorem good.lens(h:good x t)(hb:t.length+Jaq x<1000000):(JaS x).1=t.length/\(JaS x).2=(Jae x t).length:=by
 have h1:=JcL (h.fine hb);rw[h1.1,h1.2,h.long,JjH x t h.left];exact⟨rfl,rfl⟩
theorem good.both{a b:List Pt}{t':List UInt8}(ha:good a t)(hb:good b t')(h1:t.length+Jaq a<1000000)(h2:t'.length+Jaq b<1000000):Jcw a b=0:=by
 unfold Jcw;rw[(ha.lens h1).1,(hb.lens h2).1,ha.chk,if_pos rfl,hb.chk]
theorem JoC(h:good x t):Jaq x<=(Jae x t).length:=by
 have:=JhM x t h.left;omega
theorem Jnz:∀(ps:List Pt),(∀p∈ps,0<=p.keep/\0<=p.drop)->((Jba ps).length:Int)=Jav ps
 | [],_=>by simp[Jba,Jav]
 | p :: ps,h=>by
  have ih:=Jnz ps λq hq=>h q (by simp[hq]);have h1:=h p (by simp);rw[Jby,←ih,Jba];simp only[List.length_append,List.length_replicate];unfold lenP;push_cast;omega
theorem Jmu(h:good x t):(Jae x t).length<=t.length+Jaq x:=by
 have h1:=JhM x t h.left;have h2:=List.count_le_length (a:=false) (l:=Jba x);have h3:=Jnz x (JaW h.one);have h4:=h.long;omega
theorem Jju(v:Value)(x:List Pt)(t:List UInt8)(w:World)(hT:Lib.Utf8Tabs 3 4 w)(hr:opAt w v x)(h:good x t)(hb:t.length+Jaq x<1000000) :
    Cg 101 #[v,Sx t] w (Rt w (.tuple #[Sx (Jae x t),.nilIface])):=by
 have hf:=h.fine hb;have:=JjT v x t w hT hr (h.wf hb) (by omega) hf.len (by omega);rw[h.ord,if_pos rfl]at this;exact this
theorem Jkm(F:Bool){a b:List Pt}{t:List UInt8}(ha:good a t)(hb:good b t)(h1:t.length+Jaq a<1000000)(h2:t.length+Jaq b<1000000):Jaq (JaG (Jbj F a b))=Jaq a/\Jba (JaG (Jbj F a b))=(midP 0 b).map (dflC (Jba a)):=by
 have na:=ha.norm;have nb:=hb.norm;have la:=na.left;have lb:=nb.left;have sa:=JaW ha.one;obtain⟨n1,_,_,_⟩:=Jdj (ha.fine h1);obtain⟨m1,_,_,_⟩:=Jdj (hb.fine h2);have hm:JcW Jag (Jap a)=JcW Jag (Jap b):=by
  rw[Je4 _ na.one,Je4 _ nb.one,na.long,nb.long]
 have key:∀(G:Bool) (L:List (Pt×Pt)),(∀p∈L.flatMap (tF G),0<=p.keep/\0<=p.drop)->Jba (JaG (runS (tF G) L nst0))=Jba (L.flatMap (tF G))/\Jaq (JaG (runS (tF G) L nst0))=Jaq (L.flatMap (tF G)):=by
  intro G L h;rw[JpA];exact⟨JkJ h,JgS h⟩
 have fa:=JkJ sa;have pa:=JgS sa;have mb:=JuS b hb.one
 cases F with
 | true =>
  obtain⟨e1,e2⟩:=JiI true (Jam (Jap a)+Jam (Jap b)) (Jap a) (Jap b) t (Jba a) 0 la lb (nlr _) (by rw[List.drop_zero,if_pos rfl,fa]);have hs:∀p∈(Ja7 Jag Jag (Jam (Jap a)+Jam (Jap b)) (Jap a) (Jap b)).flatMap (tF true),0<=p.keep/\0<=p.drop:=by
   obtain⟨_,hok,_,_⟩:=JiV JdQ JdQ (Jam (Jap a)+Jam (Jap b)) (Jap a) (Jap b) n1 m1 hm (nlr _);intro p hp;obtain⟨x,hx,hp⟩:=List.mem_flatMap.1 hp;exact((JiL x (hok x hx)).2 p hp).1
  obtain⟨k1,k2⟩:=key true _ hs;rw[if_pos rfl]at e1 e2;have e0:Jbj true a b=runS (tF true) (Ja7 Jag Jag (Jam (Jap a)+Jam (Jap b)) (Jap a) (Jap b)) nst0:=rfl;rw[e0,k1,k2,e1,e2,pa];refine⟨rfl,?_⟩;show(midP 0 (Jap b)).map _=_;rw[mb]
 | false =>
  obtain⟨e1,e2⟩:=JiI false (Jam (Jap b)+Jam (Jap a)) (Jap b) (Jap a) t (Jba a) 0 lb la (nlr _) (by rw[List.drop_zero,if_neg (by decide),fa]);have hs:∀p∈(Ja7 Jag Jag (Jam (Jap b)+Jam (Jap a)) (Jap b) (Jap a)).flatMap (tF false),0<=p.keep/\0<=p.drop:=by
   obtain⟨_,hok,_,_⟩:=JiV JdQ JdQ (Jam (Jap b)+Jam (Jap a)) (Jap b) (Jap a) m1 n1 hm.symm (nlr _);intro p hp;obtain⟨x,hx,hp⟩:=List.mem_flatMap.1 hp;exact((Jkr x (hok x hx)).2 p hp).1
  obtain⟨k1,k2⟩:=key false _ hs;rw[if_neg (by decide)]at e1 e2;have e0:Jbj false a b=runS (tF false) (Ja7 Jag Jag (Jam (Jap b)+Jam (Jap a)) (Jap b) (Jap a)) nst0:=rfl;rw[e0,k1,k2,e1,e2,pa];refine⟨rfl,?_⟩;show(midP 0 (Jap b)).map _=_;rw[mb]
end
section
variable {t : List UInt8}{ps : List Pt}
theorem Jk2:∀(ps:List Pt)(t:List UInt8),(∀p∈ps,0<=lenP p)->Jav ps=t.length->badO ps t=false->JcQ t=false
 | [],t,_,hl,_=>by
  have:t=[]:=List.eq_nil_of_length_eq_zero (by simp[Jav]at hl;omega);rw[this];rfl
 | p :: ps,t,h,hl,hb=>by
  have h0:=h p (by simp);rw[badO,Bool.or_eq_false_iff]at hb
  by_cases hz:lenP p=0
  . have e:(lenP p).toNat=0:=by omega
    rw[e,List.drop_zero]at hb;exact Jk2 ps t (λq hq=>h q (by simp[hq])) (by rw[Jby]at hl;omega) hb.2
  . cases t with
    | nil=>rfl
    | cons b t =>
     obtain⟨n,hn⟩:∃n,(lenP p).toNat=n+1:=⟨(lenP p).toNat - 1,by omega⟩;rw[hn]at hb;exact hb.1
theorem V_cut{n:Nat}(hV:V t)(hn:n<=t.length)(hb:JcQ (t.drop n)=false):V (t.take n):=by
 obtain⟨rs,hr,rfl⟩:=hV
 rcases Nat.lt_or_ge n (encs rs).length with h|h
 . have h1:(encs rs)[n]?=some (encs rs)[n]:=lgg h
   have h2:(encs rs).drop n=(encs rs)[n] :: (encs rs).drop (n+1):=List.drop_eq_getElem_cons h;rw[h2]at hb;have h3:Jfz (encs rs)[n]=true:=by simpa[JcQ,Jku,Jfz] using hb
   obtain⟨k,hk,e⟩:=Jeo hr h1 h3;have e2:encs rs=encs (rs.take k)++encs (rs.drop k):=by rw[←Jb1,List.take_append_drop]
   refine⟨rs.take k,λr hx=>hr r (List.mem_of_mem_take hx),?_⟩
   conv=>lhs;rw[e2,e]
   rw[List.take_left'];rfl
 . rw[List.take_of_length_le h];exact⟨rs,hr,rfl⟩
theorem al_of:∀(ps:List Pt)(t:List UInt8),V t->(∀p∈ps,V p.put)->(∀p∈ps,0<=lenP p)->Jav ps=t.length->badO ps t=false->al ps t
 | [],_,_,_,_,_,_=>trivial
 | p :: ps,t,hV,hp,h,hl,hb=>by
  have h0:=h p (by simp);have h':∀q∈ps,0<=lenP q:=λq hq=>h q (by simp[hq]);have hs:0<=Jav ps:=by
   clear hl hb hp h
   induction ps with
   | nil=>simp[Jav]
   | cons q ps ih=>rw[Jby];have:=h' q (by simp);have:=ih (λx hx=>h' x (by simp[hx]));omega
  rw[Jby]at hl;rw[badO,Bool.or_eq_false_iff]at hb;have hn:(lenP p).toNat<=t.length:=by omega
  have hd:Jav ps=(t.drop (lenP p).toNat).length:=by rw[List.length_drop];omega
  have hc:=V_cut hV hn (Jk2 ps _ h' hd hb.2);exact⟨hp p (by simp),hc,al_of ps _ (Jwq hV hc) (λq hq=>hp q (by simp[hq])) h' hd hb.2⟩
theorem JkW:∀{ps:List Pt}{N:Int},(∀q∈ps,0<=lenP q)->chk2 ps N=0->Jav ps=N
 | [],N,_,h=>by
  unfold chk2 at h
  split at h
  . rename_i e;simp[Jav,e]
  . cases h
 | p :: ps,N,hl,h=>by
  unfold chk2 at h
  split at h
  . cases h
  . have:=JkW (λq hq=>hl q (by simp[hq])) h
    rw[Jby,this];unfold lenP;omega
theorem JkU{N:Int}(h:chkE ps N=0):(∀p∈ps,oneB p=true/\(scan p.put).2=true)/\Jav ps=N/\∀q∈ps,0<=lenP q:=by
 unfold chkE at h
 split at h
 . rename_i h1
   have h2:=Jhp h1;have h3:∀q∈ps,0<=lenP q:=λq hq=>by
    have:=(Jej (h2 q hq).1).1;unfold Jce at this;unfold lenP;omega
   exact⟨h2,JkW h3 h,h3⟩
 . rename_i h1;exact absurd h h1
theorem JsN{q:Pt}(h:oneB q=true):oneP q:=by
 obtain⟨K,D,U⟩:=q;unfold oneB at h;unfold oneP;simp only at h ⊢
 split at h
 . rename_i e;exact .inl ⟨of_decide_eq_true h,e.1,e.2⟩
 . rename_i e1
   split at h
   . rename_i e;exact .inr (.inl ⟨e.1,of_decide_eq_true h,e.2⟩)
   . rename_i e2
     have h3:=of_decide_eq_true h;exact .inr (.inr ⟨h3.1,h3.2,λe=>e2 ⟨h3.1,e⟩⟩)
theorem Jdu(hV:V t)(h:ordE ps t=0):good ps t:=by
 unfold ordE at h
 by_cases hc:chkE ps (t.length:Int)=0
 . rw [if_pos hc]at h
   have hb:badO ps t=false:=by
    cases e:badO ps t with
    | false=>rfl
    | true=>rw[e]at h;cases h
   obtain⟨h1,h2,h3⟩:=JkU hc;exact⟨λp hp=>JsN (h1 p hp).1,h2,al_of ps t hV (λp hp=>JfR (h1 p hp).2) h3 h2 hb⟩
 . rw[if_neg hc]at h;exact absurd h hc
/-! gaps -/
def gsum (y:List (List UInt8×Bool)) (yl:List UInt8):Int:=(y.map λx=>(x.1.length:Int)+if x.2 then 0 else 1).sum+yl.length
def psum (y:List (List UInt8×Bool)) (yl:List UInt8):Nat:=(y.map λx=>x.1.length).sum+yl.length
def Vg (y:List (List UInt8×Bool)) (yl:List UInt8):Prop:=(∀x∈y,V x.1)/\V yl
theorem JnA(F:Bool):∀(x:List (List UInt8×Bool))(xl:List UInt8)(y:List (List UInt8×Bool))(yl:List UInt8),x.length=y.length->Jav (docT F x xl y yl)=gsum y yl
 | [],xl,[],yl,_=>by
  cases F<;>simp[docT,gsum,Jav,lenP]
 | [],_,_ :: _,_,h=>by simp at h
 | _ :: _,_,[],_,h=>by simp at h
 | (u,d) :: x,xl,(v,e) :: y,yl,h=>by
   have ih:=JnA F x xl y yl (by simpa using h);rw[docT,Jc3,Jc3,ih];have hs:gsum ((v,e) :: y) yl=((v.length:Int)+if e then 0 else 1)+gsum y yl:=by simp[gsum];omega
   rw[hs];have h1:Jav (if F then [⟨0,0,u⟩,⟨(v.length:Int),0,[]⟩] else [⟨(v.length:Int),0,[]⟩,⟨0,0,u⟩])=v.length:=by cases F<;>simp[Jav,lenP]
   have h2:Jav (if e then [] else [Joj d])=if e then 0 else 1:=by cases e<;>cases d<;>simp[Jav,lenP,Joj]
   rw[h1,h2]
theorem Jn8(F:Bool):∀(x:List (List UInt8×Bool))(xl:List UInt8)(y:List (List UInt8×Bool))(yl:List UInt8),x.length=y.length->Jaq (docT F x xl y yl)=psum x xl
 | [],xl,[],yl,_=>by
  cases F<;>simp[docT,psum,Jaq]
 | [],_,_ :: _,_,h=>by simp at h
 | _ :: _,_,[],_,h=>by simp at h
 | (u,d) :: x,xl,(v,e) :: y,yl,h=>by
   have ih:=Jn8 F x xl y yl (by simpa using h);rw[docT,Jeg,Jeg,ih];have hs:psum ((u,d) :: x) xl=u.length+psum x xl:=by simp[psum];omega
   rw[hs];have h1:Jaq (if F then [⟨0,0,u⟩,⟨(v.length:Int),0,[]⟩] else [⟨(v.length:Int),0,[]⟩,⟨0,0,u⟩])=u.length:=by cases F<;>simp[Jaq]
   have h2:Jaq (if e then [] else [Joj d])=0:=by cases e<;>cases d<;>simp[Jaq,Joj]
   rw[h1,h2];omega
def Jjp (p:Pt):Prop:=0<=p.keep/\0<=p.drop/\(p.keep=0\/(p.drop=0/\p.put=[]))/\V p.put
theorem Jn9(F:Bool):∀(x:List (List UInt8×Bool))(xl:List UInt8)(y:List (List UInt8×Bool))(yl:List UInt8),Vg x xl->∀p∈docT F x xl y yl,Jjp p
 | [],xl,y,yl,h,p,hp=>by
  have hp:p∈(if F then [⟨0,0,xl⟩,⟨(yl.length:Int),0,[]⟩] else [⟨(yl.length:Int),0,[]⟩,⟨0,0,xl⟩]:List Pt):=by cases y<;>exact hp
  have h1:Jjp ⟨0,0,xl⟩:=⟨Int.le_refl _,Int.le_refl _,.inl rfl,h.2⟩;have h2:Jjp ⟨(yl.length:Int),0,[]⟩:=⟨Int.natCast_nonneg _,Int.le_refl _,.inr ⟨rfl,rfl⟩,JdG⟩
  cases F<;>simp at hp<;>rcases hp with rfl|rfl<;>assumption
 | (u,d) :: x,xl,[],yl,h,p,hp=>by
   have hp:p∈(if F then [⟨0,0,xl⟩,⟨(yl.length:Int),0,[]⟩] else [⟨(yl.length:Int),0,[]⟩,⟨0,0,xl⟩]:List Pt):=hp;have h1:Jjp ⟨0,0,xl⟩:=⟨Int.le_refl _,Int.le_refl _,.inl rfl,h.2⟩;have h2:Jjp ⟨(yl.length:Int),0,[]⟩:=⟨Int.natCast_nonneg _,Int.le_refl _,.inr ⟨rfl,rfl⟩,JdG⟩
   cases F<;>simp at hp<;>rcases hp with rfl|rfl<;>assumption
 | (u, d) :: x,xl,(v,e) :: y,yl,h,p,hp=>by
   have ih:=Jn9 F x xl y yl ⟨λz hz=>h.1 z (by simp[hz]),h.2⟩;rw[docT]at hp;have h1:Jjp ⟨0,0,u⟩:=⟨Int.le_refl _,Int.le_refl _,.inl rfl,h.1 (u,d) (by simp)⟩;have h2:Jjp ⟨(v.length:Int),0,[]⟩:=⟨Int.natCast_nonneg _,Int.le_refl _,.inr ⟨rfl,rfl⟩,JdG⟩;have h3:Jjp (Joj d):=by
    cases d
    . exact⟨by decide,by decide,.inr ⟨rfl,rfl⟩,JdG⟩
    . exact⟨by decide,by decide,.inl rfl,JdG⟩
   rcases List.mem_append.1 hp with hp|hp
   . rcases List.mem_append.1 hp with hp | hp
     . cases F<;>simp at hp<;>rcases hp with rfl|rfl<;>assumption
     . cases e<;>simp at hp
       rw[hp];exact h3
   . exact ih p hp
theorem Jhi:∀(ps:List Pt)(acc:List UInt8),(∀p∈ps,oneP p)->gsum (Jbd acc ps).1 (Jbd acc ps).2=acc.length+(ps.map isP).sum/\psum (Jbd acc ps).1 (Jbd acc ps).2=acc.length+Jaq ps
 | [],acc,_=>by simp[Jbd,gsum,psum,Jaq]
 | p :: ps,acc,h=>by
  have h':∀q∈ps,oneP q:=λq hq=>h q (by simp[hq])
  rcases Jbr (h p (by simp)) with ⟨u,_,rfl⟩|⟨d,n,rfl⟩
  . obtain⟨i1,i2⟩:=Jhi ps (acc++u) h'
    rw[Jfu,i1,i2];have e1:(List.map isP (⟨0,0,u⟩ :: ps)).sum=u.length+(ps.map isP).sum:=by simp[isP]
    have e2:Jaq (⟨0,0,u⟩ :: ps)=u.length+Jaq ps:=by simp[Jaq]
    rw[e1,e2,List.length_append];exact⟨by omega,by omega⟩
  . obtain ⟨i1,i2⟩:=Jhi ps [] h'
    rw[JcK];have e1:(List.map isP (Jan d (n+1) :: ps)).sum=(if d then 0 else ((n:Int)+1))+(ps.map isP).sum:=by cases d<;>simp[isP,Jan]
    have e2:Jaq (Jan d (n+1) :: ps)=Jaq ps:=by cases d<;>simp[Jaq,Jan]
    have r1:∀k:Nat,((List.replicate k (([]:List UInt8),d)).map λx=>(x.1.length:Int)+if x.2 then 0 else 1).sum=if d then 0 else (k:Int):=by
     intro k
     induction k with
     | zero=>cases d<;>simp
     | succ k ih=>rw[List.replicate_succ,List.map_cons,List.sum_cons,ih];cases d<;>simp<;>omega
    have r2:∀k:Nat,((List.replicate k (([]:List UInt8),d)).map λx=>x.1.length).sum=0:=by
     intro k
     induction k with
     | zero=>rfl
     | succ k ih=>rw[List.replicate_succ,List.map_cons,List.sum_cons,ih];rfl
    rw[e1,e2];unfold gsum at i1 ⊢;unfold psum at i2 ⊢;simp only[List.map_append,List.sum_append,List.map_cons,List.sum_cons,List.cons_append,r1,r2,List.length_nil]at i1 i2 ⊢;constructor
    . cases d<;>simp at *<;>omega
    . omega
theorem Jtx:∀(ps:List Pt)(acc:List UInt8),(∀p∈ps,oneP p)->(∀p∈ps,V p.put)->V acc->Vg (Jbd acc ps).1 (Jbd acc ps).2
 | [],acc,_,_,ha=>⟨λx hx=>(by cases hx),ha⟩
 | p :: ps,acc,h,hv,ha=>by
  have h':∀q∈ps,oneP q:=λq hq=>h q (by simp[hq]);have hv':∀q∈ps,V q.put:=λq hq=>hv q (by simp[hq])
  rcases Jbr (h p (by simp)) with ⟨u,_,rfl⟩|⟨d,n,rfl⟩
  . rw[Jfu]
    exact Jtx ps (acc++u) h' hv' (JdS ha (hv ⟨0,0,u⟩ (by simp)))
  . obtain ⟨i1,i2⟩:=Jtx ps [] h' hv' JdG
    rw[JcK];refine⟨λx hx=>?_,i2⟩
    rcases List.mem_append.1 hx with hx|hx
    . rcases List.mem_cons.1 hx with rfl|hx
      . exact ha
      . rw[(List.mem_replicate.1 hx).2];exact JdG
    . exact i1 x hx
theorem JpZ:∀(ps:List Pt)(s:NSt),(∀p∈ps,Jjp p)->CutS (λ_=>True) s->CutS (λ_=>True) (ps.foldl addP s)
 | [],s,_,h=>h
 | p :: ps,s,hp,h=>by
  obtain⟨k1,k2,k3,k4⟩:=hp p (by simp);exact JpZ ps (addP s p) (λq hq=>hp q (by simp[hq])) (Jj4 h p k1 k2 k3 k4 trivial)
theorem Jwc(h:∀p∈ps,Jjp p):∀p∈Jap ps,V p.put:=by
 have h0:CutS (λ_=>True) nst0:=⟨trivial,trivial,λp hp=>(by cases hp),JdG,⟨λp hp=>(by cases hp),Int.le_refl _⟩⟩;exact(Jhm (JpZ ps nst0 h h0)).2
theorem JuR{p:Pt}(h:oneP p)(hv:V p.put):Jjp p:=by
 obtain⟨k1,k2,k3⟩:=Ji1 h;exact⟨k1,k2,k3,hv⟩
theorem Jsj(F:Bool){a b:List Pt}(fa:fineP a)(fb:fineP b)(va:∀p∈a,V p.put)(hl:Jav a=Jav b) :
    (∀p∈JaG (Jbj F a b),oneP p)/\(∀p∈JaG (Jbj F a b),V p.put)/\Jav (JaG (Jbj F a b))=(b.map isP).sum/\Jaq (JaG (Jbj F a b))=Jaq a:=by
 have sa:=JaW fa.one;have sb:=JaW fb.one;have na:=Jgd a sa;have nb:=Jgd b sb;have hU:Jfo (Jap a)=Jfo (Jap b):=by
  have h1:=Jge (Jap a) (JaW na);have h2:=Jge (Jap b) (JaW nb);rw[Jjn]at h1 h2;omega
 have key:∃x xl y yl,JaG (Jbj F a b)=Jap (docT F x xl y yl)/\x.length=y.length/\gsum y yl=(b.map isP).sum/\psum x xl=Jaq a/\Vg x xl:=by
  refine⟨(Jbd [] (Jap a)).1,(Jbd [] (Jap a)).2,(Jbd [] (Jap b)).1,(Jbd [] (Jap b)).2,?_,hU,?_,?_,?_⟩
  . unfold Jbj Jap
    cases F with
    | true=>rw[if_pos rfl];exact congrArg JaG (Jq2 _ (Jap a) (Jap b) nst0 na nb hU (nlr _))
    | false=>rw[if_neg (by decide)];exact congrArg JaG (Jol (Jam (Jap b)+Jam (Jap a)) (Jap a) (Jap b) nst0 na nb hU (by omega))
  . rw[(Jhi (Jap b) [] nb).1,(Jdj fb).2.2.2];simp
  . rw[(Jhi (Jap a) [] na).2,JgS sa];simp
  . exact Jtx (Jap a) [] na (Jwc λp hp=>JuR (fa.one p hp) (va p hp)) JdG
 obtain⟨x,xl,y,yl,e,h1,h2,h3,h4⟩:=key;have hn:=Jn9 F x xl y yl h4;have hs:∀p∈docT F x xl y yl,0<=p.keep/\0<=p.drop:=λp hp=>⟨(hn p hp).1,(hn p hp).2.1⟩;rw[e];refine⟨Jgd _ hs,Jwc hn,?_,?_⟩
 . rw[Jjn,JnA F x xl y yl h1,h2]
 . rw[JgS hs,Jn8 F x xl y yl h1,h3]
end
section
variable {u who : Int}
structure Cl where
 seen:List UInt8
 doc:List UInt8
 rev:Int
 id:Int
 drops:Int
 mine:List (List Pt)
def allM:List (List Pt)->List UInt8->List UInt8
 | [],t=>t
 | m :: ms,t=>allM ms (Jae m t)
def Jiq:List (List Pt)->List UInt8->Prop
 | [],_=>True
 | m :: ms,t=>good m t/\Jiq ms (Jae m t)
def JbV:List (List Pt)->List Pt->List (List Pt)×List Pt
 | [],x=>([],x)
 | m :: ms,x=>(JaG (Jbj false m x) :: (JbV ms (JaG (Jbj true x m))).1,(JbV ms (JaG (Jbj true x m))).2)
theorem JgI:∀(ms:List (List Pt))(x:List Pt),(JbV ms x).1.length=ms.length
 | [],_=>rfl
 | m :: ms,x=>by rw[JbV,List.length_cons,List.length_cons,JgI ms]
theorem JfW:∀(ms:List (List Pt))(x:List Pt)(t:List UInt8),good x t->Jiq ms t ->
    Jiq (JbV ms x).1 (Jae x t)/\good (JbV ms x).2 (allM ms t)/\Jae (JbV ms x).2 (allM ms t)=allM (JbV ms x).1 (Jae x t)
 | [],x,t,hx,_=>⟨trivial,hx,rfl⟩
 | m :: ms,x,t,hx,h=>by
  obtain⟨hm,hms⟩:=h;have g1:=(JeM false hm hx).1;have g2:=(JeM true hx hm).1;have e:=Jon true hx hm;obtain⟨i1,i2,i3⟩:=JfW ms _ _ g2 hms;have e:Jae (JaG (Jbj false m x)) (Jae x t)=Jae (JaG (Jbj true x m)) (Jae m t):=e;refine⟨⟨g1,?_⟩,i2,?_⟩
  . rw[e];exact i1
  . show _=allM (JbV ms (JaG (Jbj true x m))).1 (Jae (JaG (Jbj false m x)) (Jae x t))
    rw[e];exact i3
theorem JfV(B:Nat):∀(ms:List (List Pt))(x:List Pt)(t:List UInt8),good x t->Jiq ms t->(∀m∈ms,Jaq m<=B)->t.length+Jaq x+ms.length*B<900000->B<=100000 ->
    (∀m∈(JbV ms x).1,Jaq m<=B)/\Jaq (JbV ms x).2=Jaq x
 | [],x,t,_,_,_,_,_=>⟨(λm h=>by cases h),rfl⟩
 | m :: ms,x,t,hx,h,hp,hb,hB=>by
  obtain⟨hm,hms⟩:=h;have hpm:=hp m (by simp);have e0:(m :: ms).length*B=ms.length*B+B:=by rw[List.length_cons,Nat.succ_mul]
  rw[e0]at hb;have h1:t.length+Jaq m<1000000:=by omega
  have h2:t.length+Jaq x<1000000:=by omega
  have g2:=(JeM true hx hm).1;have k1:=(Jkm false hm hx h1 h2).1;have k2:=(Jkm true hx hm h2 h1).1;have hl:=Jmu hm;obtain⟨i1,i2⟩:=JfV B ms _ _ g2 hms (λy hy=>hp y (by simp[hy])) (by rw[k2];omega) hB;refine⟨λy hy=>?_,i2.trans k2⟩
  rcases List.mem_cons.1 hy with rfl|hy
  . rw[k1];exact hpm
  . exact i1 y hy
theorem Jwo:∀(ms:List (List Pt))(t:List UInt8),V t->Jiq ms t->V (allM ms t)
 | [],_,h,_=>h
 | m :: ms,t,h,hg=>Jwo ms _ (JhN hg.1.al) hg.2
theorem JiE(B:Nat):∀(ms:List (List Pt))(t:List UInt8),Jiq ms t->(∀m∈ms,Jaq m<=B)->(allM ms t).length<=t.length+ms.length*B
 | [],_,_,_=>by simp[allM]
 | m :: ms,t,hg,hp=>by
  have i:=JiE B ms _ hg.2 λy hy=>hp y (by simp[hy]);have:=Jmu hg.1;have:=hp m (by simp);rw[List.length_cons,Nat.succ_mul];have e:allM (m :: ms) t=allM ms (Jae m t):=rfl;rw[e];omega
structure okK (B:Nat) (S:Cl):Prop where
 text:V S.seen
 all:Jiq S.mine S.seen
 doc:S.doc=allM S.mine S.seen
 two:S.mine.length<=2
 puts:∀m∈S.mine,Jaq m<=B
theorem okK.V{B:Nat}{S:Cl}(h:okK B S):Go.Proofs.YtbkeomcicobohaaGreatDoor.V S.doc:=by rw[h.doc];exact Jwo _ _ h.text h.all
theorem okK.len{B:Nat}{S:Cl}(h:okK B S):S.doc.length<=S.seen.length+2*B:=by
 rw[h.doc];have h1:=JiE B _ _ h.all h.puts;have h2:=Nat.mul_le_mul_right B h.two;omega
def addM (o:List Pt):List (List Pt)->List (List Pt)
 | []=>[o]
 | [m]=>[m,o]
 | m :: m2 :: _=>[m,JaG (Jj7 m2 o)]
def Jev (p:Pt):Bool:=decide (200<p.put.length)
def edO (u:Int) (S:Cl) (q:List Pt):List Pt:=tzO (Ja0 S.doc) u 1 q
def edE (u:Int) (S:Cl) (q:List Pt):Int :=
 if 60<q.length\/q.any Jev=true then 4 else if tzE (Ja0 S.doc) u 1 q≠0 then tzE (Ja0 S.doc) u 1 q
 else if 2000<(Jae (edO u S q) S.doc).length then 12 else 0
def edS (u:Int) (S:Cl) (q:List Pt):Cl:=if edE u S q=0 then { S with doc:=Jae (edO u S q) S.doc,mine:=addM (edO u S q) S.mine,id:=if S.mine=[] then S.id+1 else S.id } else S
theorem JvM(o:List Pt):∀(ms:List (List Pt))(t:List UInt8),ms.length<=2->Jiq ms t->good o (allM ms t)->Jiq (addM o ms) t/\allM (addM o ms) t=Jae o (allM ms t)/\(addM o ms).length<=2
 | [],t,_,_,ho=>⟨⟨ho,trivial⟩,rfl,by simp[addM]⟩
 | [m],t,_,h,ho=>⟨⟨h.1,ho,trivial⟩,rfl,by simp[addM]⟩
 | [m,m2],t,_,h,ho=>by
  obtain⟨c1,c2⟩:=Jtt h.2.1 ho;exact⟨⟨h.1,c1,trivial⟩,c2,by simp[addM]⟩
 | _ :: _ :: _ :: _,_,h,_,_=>by simp at h
theorem Jpf(hu:JaH u){S:Cl}(h:okK 2000 S){q:List Pt}(he:tzE (Ja0 S.doc) u 1 q=0):good (edO u S q) S.doc/\okZ u (Ja0 S.doc) q=true/\chkE q (by_ u (Ja0 S.doc))=0/\edO u S q=inZ u 1 (Ja0 S.doc) q:=by
 have hd:encs (Ja0 S.doc)=S.doc:=JbD (Joa h.V);obtain⟨h1,_,_,_,_,h6,h7,h8⟩:=sh_fine hu (λr hr=>Jd4 hr) he;rw[hd]at h1;exact⟨h1,h7,h6,h8⟩
theorem ed_no{S:Cl}{q:List Pt}(h:edE u S q=0):¬(60<q.length\/q.any Jev=true)/\tzE (Ja0 S.doc) u 1 q=0/\(Jae (edO u S q) S.doc).length<=2000:=by
 unfold edE at h
 split at h
 . cases h
 rename_i h1
 split at h
 . rename_i h2;exact absurd h h2
 rename_i h2
 split at h
 . cases h
 exact⟨h1,by simpa using h2,by omega⟩
theorem JuM(hu:JaH u){S:Cl}(h:okK 2000 S)(q:List Pt):okK 2000 (edS u S q):=by
 unfold edS
 by_cases he:edE u S q=0
 . rw [if_pos he]
   obtain⟨h1,h2,h3⟩:=ed_no he;obtain⟨g1,_⟩:=Jpf hu h h2;rw[h.doc]at g1;obtain⟨a1,a2,a3⟩:=JvM (edO u S q) S.mine S.seen h.two h.all g1;have hp:Jaq (edO u S q)<=2000:=by
    have:=JoC g1;rw[←h.doc]at this;omega
   refine⟨h.text,a1,by rw[a2,←h.doc],a3,?_⟩;show ∀m∈addM (edO u S q) S.mine,Jaq m<=2000;have hal:=h.all;have hpu:=h.puts;have h2':=h.two;have hdoc:=h.doc;have a2:allM (addM (edO u S q) S.mine) S.seen=Jae (edO u S q) S.doc:=by rw[a2,←h.doc]
   rcases hm:S.mine with _|⟨m,_|⟨m2,_|⟨m3,ms⟩⟩⟩
   . intro y hy;simp only[addM,List.mem_singleton]at hy;rw[hy];exact hp
   . intro y hy
     rw[hm]at hpu;simp only[addM,List.mem_cons,List.not_mem_nil,or_false]at hy
     rcases hy with rfl|rfl
     . exact hpu _ (by simp)
     . exact hp
   . rw [hm]at hpu hal a1 a2
     intro y hy;simp only[addM,List.mem_cons,List.not_mem_nil,or_false]at hy
     rcases hy with rfl|rfl
     . exact hpu _ (by simp)
     . have g:=a1.2.1
       have:=JoC g;have e:Jae (JaG (Jj7 m2 (edO u S q))) (Jae m S.seen)=Jae (edO u S q) S.doc:=a2;rw[e]at this;omega
   . rw[hm]at h2';simp at h2'
 . rw[if_neg he];exact h
/-! Take -/
abbrev JoV (who:Int) (S:Cl) (c i:Int):Prop:=S.mine≠[]/\c=who/\i=S.id
def JdC (S:Cl):List Pt:=S.mine.headD []
def tkE (who:Int) (S:Cl) (rev c i:Int) (x:List Pt):Int :=
 if rev≠S.rev then 0 else if ordE x S.seen≠0 then 15 else if JoV who S c i/\Jae (JdC S) S.seen≠Jae x S.seen then 15 else 0
def tkS (who:Int) (S:Cl) (rev c i:Int) (x:List Pt):Cl :=
 if rev≠S.rev\/tkE who S rev c i x≠0 then S
 else if JoV who S c i then { S with seen:=Jae x S.seen,rev:=S.rev+1,mine:=S.mine.tail,id:=if S.mine.tail≠[] then S.id+1 else S.id }
 else { S with seen:=Jae x S.seen,rev:=S.rev+1,mine:=(JbV S.mine x).1,doc:=Jae (JbV S.mine x).2 S.doc }
theorem tk_no{S:Cl}{rev c i:Int}{x:List Pt}(h:¬(rev≠S.rev\/tkE who S rev c i x≠0)):rev=S.rev/\ordE x S.seen=0/\(JoV who S c i->Jae (JdC S) S.seen=Jae x S.seen):=by
 have h1:rev=S.rev:=by
  by_cases e:rev=S.rev
  . exact e
  . exact absurd (.inl e) h
 have h2:tkE who S rev c i x=0:=by
  by_cases e:tkE who S rev c i x=0
  . exact e
  . exact absurd (.inr e) h
 unfold tkE at h2;rw[if_neg (by simpa using h1)]at h2
 split at h2
 . cases h2
 rename_i h3
 split at h2
 . cases h2
 rename_i h4
 refine⟨h1,by simpa using h3,λho=>?_⟩
 by_cases e:Jae (JdC S) S.seen=Jae x S.seen
 . exact e
 . exact absurd ⟨ho,e⟩ h4
theorem JuL{S:Cl}(h:okK 2000 S)(rev c i:Int)(x:List Pt)(hs:S.seen.length+Jaq x<=500000):okK 2000 (tkS who S rev c i x):=by
 unfold tkS
 by_cases hn:rev≠S.rev\/tkE who S rev c i x≠0
 . rw[if_pos hn];exact h
 rw[if_neg hn];obtain⟨h1,h2,h3⟩:=tk_no hn;have hx:=Jdu h.text h2
 by_cases ho:JoV who S c i
 . rw [if_pos ho]
   have h3:=h3 ho;have hal:=h.all;have hpu:=h.puts;have htw:=h.two;have hd:=h.doc;have hm:=ho.1;unfold JdC at h3
   rcases hm':S.mine with _|⟨m,ms⟩
   . exact absurd hm' hm
   . rw [hm']at hal hpu htw h3 hd
     have h3:Jae m S.seen=Jae x S.seen:=h3;refine⟨JhN hx.al,?_,?_,?_,λy hy=>hpu y (List.mem_cons_of_mem _ hy)⟩
     . show Jiq ms (Jae x S.seen)
       rw[←h3];exact hal.2
     . show S.doc=allM ms (Jae x S.seen)
       rw[←h3];exact hd
     . show ms.length<=2
       simp at htw;omega
 . rw [if_neg ho]
   obtain⟨t1,t2,t3⟩:=JfW S.mine x S.seen hx h.all;obtain⟨p1,p2⟩:=JfV 2000 S.mine x S.seen hx h.all h.puts (by have:=Nat.mul_le_mul_right 2000 h.two;omega) (by omega);refine⟨JhN hx.al,t1,?_,?_,p1⟩
   . show Jae (JbV S.mine x).2 S.doc=_
     rw[h.doc];exact t3
   . show(JbV S.mine x).1.length<=2
     rw[JgI];exact h.two
/-! Refused -/
def rfS (S:Cl) (i:Int):Cl:=if S.mine≠[]/\i=S.id then { S with mine:=[],doc:=S.seen,drops:=S.drops+1 } else S
theorem Jrc{S:Cl}(h:okK 2000 S)(i:Int):okK 2000 (rfS S i):=by
 unfold rfS
 split
 . exact⟨h.text,trivial,rfl,by simp,λm hm=>by cases hm⟩
 . exact h
theorem Jhe{S:Cl}(h:okK 2000 S)(hm:S.mine≠[]):good (JdC S) S.seen/\Jaq (JdC S)<=2000:=by
 unfold JdC;have hal:=h.all;have hpu:=h.puts
 rcases hm':S.mine with _|⟨m,ms⟩
 . exact absurd hm' hm
 . rw[hm']at hal hpu
   exact⟨hal.1,hpu m (by simp)⟩
end
section
variable {w w' : World}{B lo e base n bm : Nat}{v v1 : Value}{ps : List Pt}
structure sameBut (w w':World) (S:Nat->Prop):Prop where
 size:w.heap.size<=w'.heap.size
 block:∀k,k<w.heap.size->¬S k->w'.heap[k]?=w.heap[k]?
 os:w'.os=w.os
 tape:w'.tape=w.tape
 output:w'.output=w.output
theorem Jai(h:Bw w w')(S:Nat->Prop):sameBut w w' S:=⟨h.size,λk hk _=>h.block k hk,h.os,h.tape,h.output⟩
theorem JfA(w:World)(S:Nat->Prop):sameBut w w S:=⟨nlr _,λ_ _ _=>rfl,rfl,rfl,rfl⟩
theorem sameBut.trans{w w' w'':World}{S:Nat->Prop}(h:sameBut w w' S)(h':sameBut w' w'' S):sameBut w w'' S :=
 ⟨Nat.le_trans h.1 h'.1,λk hk hs=>(h'.2 k (Nat.lt_of_lt_of_le hk h.1) hs).trans (h.2 k hk hs),h'.os.trans h.os,h'.tape.trans h.tape,h'.output.trans h.output⟩
theorem sameBut.mono{w w':World}{S S':Nat->Prop}(h:sameBut w w' S)(hs:∀k,k<w.heap.size->S k->S' k):sameBut w w' S' :=
 ⟨h.1,λk hk hn=>h.2 k hk λe=>hn (hs k hk e),h.os,h.tape,h.output⟩
theorem Jat{w:World}{b o:Nat}{v:Value}{S:Nat->Prop}(hS:S b):sameBut w (w.setCell (Ad b o) v) S :=
 ⟨by simp,λk hk hn=>Below.heap_setCell w (Ad b o) v k (λe=>hn (e ▸ hS)),rfl,rfl,rfl⟩
theorem Jbb{w w':World}{row:Option Nat}{S:Nat->Prop}(h:w.grownBy w' row)(hS:∀k,row=some k->S k):sameBut w w' S :=
 ⟨h.size,λk hk hn=>h.block k hk λe=>hn (hS k e.symm),h.os,h.tape,h.output⟩
theorem JcM{w w':World}{S:Nat->Prop}(h:sameBut w w' S){b o:Nat}{v:Value}(hc:w.cell? (Ad b o)=some v)(hS:¬S b):w'.cell? (Ad b o)=some v :=
 (World.cell?_of_block (w:=w) (a:=(Ad b o)) (h.2 b (blt w _ hc) hS)).trans hc
def opX (lo:Nat) (w:World) (v:Value) (ps:List Pt):Prop:=opAt w v ps/\(ps≠[]->∀k,v.ownBlock=some k->k<lo\/∃cs fz,w.heap[k]?=some (.cells cs 96 fz))
def Jdb (w:World) (k:Nat):Prop:=∀cs fz,w.heap[k]?≠some (.cells cs 96 fz)
theorem JbY(h:opN B w v ps):opX lo w v ps:=⟨h.1,λ_ k hk=>.inr (h.2 k hk).2⟩
theorem JsM(h:w.ownsRow B 96 3 v ps.length (JaM ps)):opX lo w v ps:=JbY (Jg6 (nlr B) h)
theorem Jjj{lo:Nat}{w w':World}{v:Value}{ps:List Pt}{S:Nat->Prop}(h:opX lo w v ps)(hs:sameBut w w' S)(hS:∀k,S k->lo<=k/\Jdb w k):opX lo w' v ps:=by
 obtain⟨⟨p,c,rfl,h1,h2,h3⟩,ht⟩:=h;have hn:ps≠[]->∀b o,p=some (Ad b o)->¬S b:=λhne b o e hSb=>by
  obtain⟨s1,s2⟩:=hS b hSb
  rcases ht hne b (by rw[e];rfl) with h|⟨cs,fz,h⟩
  . omega
  . exact s2 cs fz h
 refine⟨⟨p,c,rfl,h1,h2,λhne=>?_⟩,λhne k hk=>?_⟩
 . obtain⟨b,o,e,hb,hc⟩:=h3 hne
   refine⟨b,o,e,Nat.lt_of_lt_of_le hb hs.1,λi q hi=>?_⟩;obtain⟨c0,c1,c2⟩:=hc i q hi;exact⟨JcM hs c0 (hn hne b o e),JcM hs c1 (hn hne b o e),JcM hs c2 (hn hne b o e)⟩
 . rcases ht hne k hk with h|⟨cs,fz,h⟩
   . exact .inl h
   . refine .inr ⟨cs,fz,(hs.2 k (alt h) λhSk=>(hS k hSk).2 cs fz h).trans h⟩
theorem Ja1(h:opX lo w v ps)(hb:Bw w w'):opX lo w' v ps :=
 Jjj (S:=λ_=>False) h (Jai hb _) λ_ h=>h.elim
structure SE where
 c:Int
 i:Int
 op:List Pt
def logC (E:List SE) (vs:List Value):List Value:=(E.zip vs).flatMap λx=>[I6 x.1.c,I6 x.1.i,x.2]
theorem JpS:∀(E:List SE)(vs:List Value)(i:Nat)(x:SE)(v:Value),E[i]?=some x->vs[i]?=some v->(logC E vs)[i*3]?=some (I6 x.c)/\(logC E vs)[i*3+1]?=some (I6 x.i)/\(logC E vs)[i*3+2]?=some v
 | [],_,_,_,_,h,_=>by simp at h
 | _ :: _,[],_,_,_,_,h=>by simp at h
 | y :: E,u :: vs,0,x,v,h,h2=>by
  obtain rfl:y=x:=by simpa using h
  obtain rfl:u=v:=by simpa using h2
  exact⟨rfl,rfl,rfl⟩
 | y :: E,u :: vs,i+1,x,v,h,h2=>by
  obtain⟨a,b,c⟩:=JpS E vs i x v (by simpa using h) (by simpa using h2);have e:logC (y :: E) (u :: vs)=I6 y.c :: I6 y.i :: u :: logC E vs:=rfl;have e1:(i+1)*3=i*3+3:=by omega
  rw[e,e1];exact⟨by simpa using a,by simpa using b,by simpa using c⟩
theorem JsX(E:List SE)(vs:List Value)(h:vs.length=E.length)(x:SE)(v:Value):logC (E++[x]) (vs++[v])=logC E vs++[I6 x.c,I6 x.i,v]:=by
 unfold logC;rw[List.zip_append h.symm,List.flatMap_append];rfl
def JcY (e:TypeId) (lo base:Nat) (w:World) (v1:Value) (E:List SE):Prop :=
 ∃vs,vs.length=E.length/\w.ownsRow base e 3 v1 E.length (logC E vs)/\∀(i:Nat) (x:SE) (v:Value),E[i]?=some x->vs[i]?=some v->opX lo w v x.op
theorem JcP{w w':World}{B e size n:Nat}{v:Value}{xs:List Value}{S:Nat->Prop}(h:w.ownsRow B e size v n xs)(hs:sameBut w w' S)(hS:∀k,v.ownBlock=some k->¬S k):w'.ownsRow B e size v n xs:=by
 obtain⟨h0,hrow⟩:=h;refine⟨h0,?_⟩
 rcases hrow with h1|⟨g,cap,cur,rfl,h2,h3,h4⟩
 . exact .inl h1
 . exact .inr ⟨g,cap,cur,rfl,h2,(hs.2 g (alt h3) (hS g rfl)).trans h3,h4⟩
theorem Jel{e lo base:Nat}{w w':World}{v1:Value}{E:List SE}{S:Nat->Prop}(h:JcY e lo base w v1 E)(hs:sameBut w w' S)(hS:∀k,S k->lo<=k/\Jdb w k/\∀cs fz,w.heap[k]?≠some (.cells cs e fz)):JcY e lo base w' v1 E:=by
 obtain⟨vs,h1,h2,h3⟩:=h;refine⟨vs,h1,JcP h2 hs λk hk hSk=>?_,λi x v hx hv=>Jjj (h3 i x v hx hv) hs λk hk=>⟨(hS k hk).1,(hS k hk).2.1⟩⟩
 rcases h2.2 with ⟨rfl,_⟩|⟨g,cap,cur,rfl,_,hg,_⟩
 . cases hk
 . obtain rfl:g=k:=osi hk
   exact(hS g hSk).2.2 _ _ hg
theorem JcX{E:List SE}(h:JcY e lo base w v1 E)(hb:Bw w w'):JcY e lo base w' v1 E :=
 Jel (S:=λ_=>False) h (Jai hb _) λ_ h=>h.elim
theorem JbH{E:List SE}(h:JcY e lo base w v1 E):∃p c,v1=.slice p E.length c:=by
 obtain⟨vs,_,h2,_⟩:=h;exact Jak h2
theorem Jmb{p:Option Addr}{c:Nat}{E:List SE}(h:JcY e lo base w (.slice p n c) E)(hne:E≠[]):∃g,p=some (Ad g 0)/\g<w.heap.size/\n=E.length/\n<=c/\c<=maxLen/\∀i x,E[i]?=some x->∃v,w.cell? (Ad g (i*3))=some (I6 x.c)/\w.cell? (Ad g (i*3+1))=some (I6 x.i)/\w.cell? (Ad g (i*3+2))=some v/\opX lo w v x.op:=by
 obtain⟨vs,h1,⟨h0,hrow⟩,h3⟩:=h
 rcases hrow with ⟨_,hz⟩|⟨g,cap,cur,hv,h4,h5,h6,h7,h8,h9⟩
 . exact absurd (List.eq_nil_of_length_eq_zero hz) hne
 . injection hv with hp hn hc
   subst hp hn hc;refine⟨g,rfl,(alt h5),rfl,h6,h7,λi x hx=>?_⟩;have hi:i<E.length:=(llt hx);have hiv:i<vs.length:=by omega
   have hv:vs[i]?=some vs[i]:=lgg hiv;obtain⟨k0,k1,k2⟩:=JpS E vs i x vs[i] hx hv
   have hc:∀j u,j<E.length*3->(logC E vs)[j]?=some u->w.cell? (Ad g j)=some u:=λj u hj hu=>by
    have hcur:cur[j]?=some u:=by
     rw[←Array.getElem?_toList];have:=congrArg (·[j]?) h9;simp only[List.getElem?_take,hj,if_true]at this;rw[this,hu]
    unfold World.cell?;simp[h5,hcur]
   exact⟨vs[i],hc _ _ (by omega) k0,hc _ _ (by omega) k1,hc _ _ (by omega) k2,h3 i x vs[i] hx hv⟩
/-! maps of a number to two numbers -/
def JqY (a b:Int):DataW Unit:=.agg [.lit (.int .i64 a),.lit (.int .i64 b)]
def Ju8 (v:Value):Option (DataW Unit×List MemPlace) :=
 match v with
 | .agg cs=>(match cs.toList with
  | [.int k a,.int k' b]=>if k=.i64/\k'=.i64 then some (JqY a b,[]) else none
  | _=>none)
 | _=>none
theorem JpH(a b:Int):Ju8 (.agg #[I6 a,I6 b])=some (JqY a b,[]):=rfl
theorem JsH{a b:Int}{ps:List MemPlace}(h:Ju8 v=some (JqY a b,ps)):v=.agg #[I6 a,I6 b]:=by
 unfold Ju8 at h
 split at h
 . rename_i cs
   split at h
   . rename_i k x k' y e
     split at h
     . rename_i hk
       simp only[Option.some.injEq,Prod.mk.injEq,JqY,DataW.agg.injEq,List.cons.injEq,DataW.lit.injEq,Lit.int.injEq,true_and,and_true]at h;obtain⟨⟨h1,h2⟩,_⟩:=h;rw[hk.1,hk.2,h1,h2]at e;have:cs=#[I6 a,I6 b]:=by
        apply Array.toList_inj.1;rw[e]
       rw[this]
     . cases h
   . cases h
 . cases h
def rng (c:Int):Prop:=-9223372036854775808<=c/\c<9223372036854775808
theorem JvZ{c:Int}(h:rng c):(Lit.int .i64 c).wf=true:=by
 unfold rng at h;simp[Lit.wf,IntKind.min,IntKind.max,IntKind.signed,IntKind.bits];omega
abbrev Told:=Int->Option (Int×Int)
def got (M:Told) (c:Int):Int×Int:=(M c).getD (0,0)
def upd (M:Told) (c:Int) (x:Int×Int):Told:=λk=>if k=c then some x else M k
def Jf0 (n:Nat) (w:World) (bm:Nat) (M:Told):Prop :=
 ∃D,w.ownsMap prog 3 Ju8 bm n D/\∀c,rng c->D.atKey (.int .i64 c) (JqY 0 0)=JqY (got M c).1 (got M c).2/\Maps.has D (.int .i64 c)=(M c).isSome
theorem Jwf:Keyed prog 3:=int_keyed underlying3
theorem JoX(w:World):Jf0 0 (w.alloc (.map #[] 0)) w.heap.size λ_=>none :=
 ⟨.map [],World.ownsMap_made w _ _ _,λc _=>⟨rfl,rfl⟩⟩
theorem JdU{n:Nat}{w w':World}{bm:Nat}{M:Told}{S:Nat->Prop}(h:Jf0 n w bm M)(hs:sameBut w w' S)(hS:¬S bm):Jf0 n w' bm M:=by
 obtain⟨D,h1,h2⟩:=h;refine⟨D,?_,h2⟩;have hlt:=h1.lt;obtain⟨es,clock,hb,F,hn,hD⟩:=h1;exact⟨es,clock,(hs.2 bm hlt hS).trans hb,F,hn,hD⟩
theorem Jjx{M:Told}(h:Jf0 n w bm M){t e:TypeId}(ht:prog.underlying t=some (.map 3 e))(hz:(zeroValue e).run prog w=.ok (.agg #[.int .i64 0,.int .i64 0]) w){c:Int}(hc:rng c) :
    (Instr.lookup t (.map (some bm)) (.int .i64 c) false).run prog w=.ok (.agg #[.int .i64 (got M c).1,.int .i64 (got M c).2]) w:=by
 obtain⟨D,h1,h2⟩:=h;obtain⟨v,ps,hrun,hv⟩:=h1.lookup Jwf ht hz (JpH 0 0) (keyOf_int_mk underlying3 (JvZ hc));rw[(h2 c hc).1]at hv;rw[hrun,JsH hv]
theorem Jrl{M:Told}(h:Jf0 n w bm M)(hn:n<1000000000){t e:TypeId}(ht:prog.underlying t=some (.map 3 e)){c:Int}(hc:rng c)(a b:Int) :
    ∃w',(Instr.mapUpdate t (.map (some bm)) (I6 c) (.agg #[I6 a,I6 b])).run prog w=.ok () w'/\Jf0 (n+1) w' bm (upd M c (a,b))/\w.mapTurned w' bm:=by
 obtain⟨D,h1,h2⟩:=h;obtain⟨w',hrun,ho,ht'⟩:=h1.store Jwf ht (by unfold maxLen;omega) (keyOf_int_mk underlying3 (JvZ hc)) (JpH a b);have hM:=h1.isMap;refine⟨w',hrun,⟨_,ho,λk hk=>?_⟩,ht'⟩
 by_cases hkc:k=c
 . subst hkc
   have hkl:WideAt.IsKeyLit (Lit.int .i64 k):=by trivial
   have g1:got (upd M k (a,b)) k=(a,b):=by simp[got,upd]
   have g2:(upd M k (a,b) k).isSome=true:=by simp[upd]
   rw[g1,g2];exact⟨atKey_put_same hM hkl _ _,has_put_same hM hkl _⟩
 . have hne:(Lit.int .i64 k)≠(Lit.int .i64 c):=λe=>by injection e with _ e2;exact hkc e2
   have g1:got (upd M c (a,b)) k=got M k:=by simp[got,upd,hkc]
   have g2:(upd M c (a,b) k).isSome=(M k).isSome:=by simp[upd,hkc]
   rw[g1,g2];exact⟨(atKey_put_other hne _ _).trans (h2 k hk).1,(has_put_other hne _).trans (h2 k hk).2⟩
theorem Jok(h:w.mapTurned w' bm){S:Nat->Prop}(hS:S bm):sameBut w w' S:=Jbb h.grown λk e=>by
 obtain rfl:=osi e;exact hS
end
section
attribute [local go_sem] Oper.semAt_some
theorem Jgi(u:List UInt8)(hu:u.length<=10000000)(w:World):Cg 48 #[Sx u] w (Rt w (Sx u)):=by
 have c:=stringslite_Clone ⟨u.toArray⟩ w (by simp[ByteArray.size];omega);have C:=hdz c;clear c
 go_enter func48,ntmps48
 go_wp2_with (go_at_call 89;refine Calls.mono C.out ?_;rintro e w1 ⟨rfl,hb1⟩)
 go_ret;exact⟨rfl,hb1⟩
theorem JnO(l:List Pt)(q:Pt):JaM (l++[q])=JaM l++JaL q:=by simp[JaM]
theorem JeW(w:World)(n:Nat)(hn:w.heap.size=n)(l:List Value)(t:TypeId):∀j u,l[j]?=some u->(w.alloc (Oc l.toArray t)).cell? (((Ad n 0):Addr).add j)=some u:=by
 subst hn;intro j u hj;rw[Addr.add_lit,Nat.zero_add];have h:=heap_alloc_new w (Oc l.toArray t);unfold World.cell?;rw[h];simpa using hj
theorem JlQ{w:World}{B e size n b o:Nat}{v:Value}{xs:List Value}(h:w.ownsRow B e size v n xs)(hb:∀j,v.ownBlock=some j->j<b)(u:Value):(w.setCell (Ad b o) u).ownsRow B e size v n xs :=
 JcP (S:=λk=>k=b) h (Jat rfl) λk hk e=>by have:=hb k hk;omega
theorem JoI(v:Value)(ps:List Pt)(w:World)(hr:opAt w v ps)(hpl:∀q∈ps,q.put.length<=10000000)(hl:ps.length<=10000000) :
    Cg 257 #[v] w λe w'=>∃v',e=.returned v'/\w'.ownsRow w.heap.size 96 3 v' ps.length (JaM ps)/\Bw w w':=by
 have HOP:Hid (opAt w v ps):=hr;have HPL:Hid (∀q∈ps,q.put.length<=10000000):=hpl;obtain⟨p,c,rfl,r1,r2,_⟩:=hr;unfold maxLen at r2;obtain⟨n,hn⟩:∃n,ps.length=n:=⟨_,rfl⟩;have HN:Hid (ps.length=n):=hn;rw[hn]at r1 hl ⊢;obtain⟨i0,hi,hz0,hz1,hz2⟩:=info_parts Jcm;clear hpl hn
 go_enter func257,ntmps257
 go_wp2
 go_loopw [3,8] (λv3 i wr=>∃k:Nat,i=.int .i64 k/\k<=n/\wr.ownsRow w.heap.size 96 3 v3 k (JaM (ps.take k))/\Bw w wr) (λ_ i _=>n - (intOf i).toNat)
 case atStart=>exact⟨0,rfl,Nat.zero_le _,World.ownsRow_nil _ _ _ _,brf _ _⟩
 case round =>
  obtain⟨k,rfl,hk,hown,hbw⟩:=hrel;obtain⟨pv,cv,rfl⟩:=Jak hown;have HOW:Hid (wr.ownsRow w.heap.size 96 3 (.slice pv k cv) k (JaM (ps.take k))):=hown;have HBW:=hdz hbw;have hws:=hbw.size;have HWS:Hid (w.heap.size<=wr.heap.size):=hws
  by_cases hlt:k<n
  . have hkr:k<ps.length:=by rw[HN.out];exact hlt
    have hne:ps≠[]:=by intro e;rw[e]at hkr;exact absurd hkr (Nat.not_lt_zero _)
    obtain⟨p0,c0,hvv,_,_,hcell⟩:=HOP.out;obtain⟨b0,o,rfl,hb0,hcell⟩:=hcell hne;obtain⟨f0,f1,f2⟩:=hcell k ps[k] (lgg hkr);have g0:=(zC HBW.out b0 (o+k*3) hb0).trans f0;have g1:=(zC HBW.out b0 (o+k*3+1) hb0).trans f1;have g2:=(zC HBW.out b0 (o+k*3+2) hb0).trans f2;obtain rfl:p=some (Ad b0 o):=by injection hvv
    have hplq:=HPL.out _ (List.getElem_mem hkr);have HTK:Hid (JaM (ps.take (k+1))=JaM (ps.take k)++JaL ps[k]):=show _=_ by rw[List.take_succ_eq_append_getElem hkr,JnO]
    have hki:(k:Int)<(n:Int):=by omega
    clear hcell hvv f0 f1 f2 hne hown hbw;generalize ps[k]=q at *;obtain⟨K,D,U⟩:=q;simp only at g0 g1 g2 hplq;have CL:=hdz λwx=>Jgi U hplq wx;obtain⟨β,hβ⟩:∃β,wr.heap.size=β:=⟨_,rfl⟩;have HBT:Hid (wr.heap.size=β):=hβ
    go_wp2_with (first
     | (go_at_call 48;refine(CL.out _).mono ?_;rintro e w2 ⟨rfl,hb2⟩;have hbox:w2.heap[β]?=some (Oc #[I6 K,I6 D,Sx U] 96):=(hb2.block β (by rw[wsa,HBT.out];omega)).trans (by have:=heap_alloc_new wr (Oc #[I6 K,I6 D,Sx U] 96);rwa[HBT.out]at this);have x0:=cQ hbox 0 rfl;have x1:=cQ hbox 1 rfl;have x2:=cQ hbox 2 rfl;have xf:w2.frozen? (Ad β 2)=false:=by unfold World.frozen?;simp[hbox]
        have HB2:Hid (Bw w w2):=(HBW.out.alloc HWS.out _).trans (hb2.mono (by rw[wsa];have:=HWS.out;omega));have HO2:Hid (w2.ownsRow w.heap.size 96 3 (.slice pv k cv) k (JaM (ps.take k))):=Jbl (HOW.out.alloc _) hb2;have hs2:β+1<=w2.heap.size:=by have:=hb2.size;rw[wsa,HBT.out]at this;exact this
        have HS2:Hid (β+1<=w2.heap.size):=hs2;have HNE:Hid (∀j,(Value.slice pv k cv).ownBlock=some j->j<β):=λj hj=>HBT.out ▸ (HOW.out.lt j hj).2
        clear hb2 hbox)
     | (at_builtin;refine wpList_append_own _ rfl _ _ 94 rfl w.heap.size 96 i0 (.agg #[I6 0,I6 0,.string ⟨#[]⟩]) 3 32 underlying94 hi hz0 hz1 hz2 rfl (by decide) _ _ _ rfl ((JlQ HO2.out HNE.out _).alloc _) (Ad w2.heap.size 0) 1 1 (JaL ⟨K,D,U⟩) rfl rfl (JeW _ _ (by first | rfl | simp) _ _) (Jb2 _) (by unfold maxLen;omega) (by omega) (by have:=HWS.out;have:=HS2.out;have:=HBT.out;simp;omega) ?_))
    intro v' w3 hown' hg' _;obtain⟨p',c',rfl⟩:=Jak hown';have HO3:Hid (w3.ownsRow w.heap.size 96 3 (.slice p' (k+1) c') (k+1) (JaM (ps.take k)++JaL ⟨K,D,U⟩)):=hown';have HB3:Hid (Bw w w3):=((HB2.out.setCell (p:=(Ad β 2)) (by show w.heap.size<=β;have:=HWS.out;have:=HBT.out;omega) _).alloc (by rw[World.size_setCell];exact HB2.out.size) _).grown hg' (by simp;have:=HB2.out.size;omega) λj hj=>(HO2.out.lt j hj).1;clear hown' hg' x0 x1 x2 xf g0 g1 g2;go_wp2;refine⟨⟨k+1,by go_num,by omega,?_,HB3.out⟩,by simp[intOf];omega⟩;rw[HTK.out];exact HO3.out
  . obtain rfl:k=n:=by omega
    have hki:¬((k:Int)<(k:Int)):=by omega
    have HTK:Hid (ps.take k=ps):=show _=_ by rw[←HN.out];exact List.take_length
    clear hown hbw;go_wp2;go_ret;have:=HOW.out;rw[HTK.out]at this;exact⟨_,rfl,this,HBW.out⟩
variable {ps : List Pt}{len : Int}{lo n c : Nat}{w : World}{p : Option Addr}{E : List SE}
structure okOp (ps:List Pt) (len:Int):Prop where
 one:∀p∈ps,oneP p
 put:∀p∈ps,V p.put
 long:Jav ps=len
theorem Jlz:∀(ps:List Pt),wts ps=Jav ps+Jaq ps
 | []=>by simp[wts,Jav,Jaq]
 | p :: ps=>by
  have ih:=Jlz ps;have e1:wts (p :: ps)=wtP p+wts ps:=by simp[wts]
  have e2:Jaq (p :: ps)=p.put.length+Jaq ps:=by simp[Jaq]
  rw[e1,e2,Jby,ih];unfold wtP lenP;omega
theorem JlY:∀(ps:List Pt),(∀p∈ps,oneP p)->(ps.length:Int)<=wts ps
 | [],_=>by simp[wts]
 | p :: ps,h=>by
  have ih:=JlY ps λq hq=>h q (by simp[hq]);have e1:wts (p :: ps)=wtP p+wts ps:=by simp[wts]
  have h1:=Jbg (h p (by simp));have e2:Jaf p=wtP p:=rfl;rw[e1,List.length_cons];omega
theorem Je1(p:Pt):∀(qs:List Pt),p∈qs->p.put.length<=Jaq qs
 | [],h=>by cases h
 | q :: qs,h=>by
  have e:Jaq (q :: qs)=q.put.length+Jaq qs:=by simp[Jaq]
  rw[e]
  rcases List.mem_cons.1 h with rfl|h
  . omega
  . have:=Je1 p qs h;omega
theorem okOp.fine(h:okOp ps len)(hb:len+Jaq ps<1000000):fineP ps:=by
 have h1:=Jlz ps;have h2:=JlY ps h.one;have h3:=h.long;exact⟨h.one,by omega,by omega⟩
theorem okOp.chk(h:okOp ps len):chkE ps len=0:=Jwj h.one h.put h.long
theorem okOp.wf(h:okOp ps len)(hb:len+Jaq ps<1000000):∀p∈ps,wfP p:=λp hp=>by
 have h1:=Ji1 (h.one p hp);have h2:=Je1 p ps hp
 have h3:lenP p<=Jav ps:=by
  have:=h.one;clear hb h2 h1;revert hp this;generalize h.long=hl;clear hl;intro hp hone;clear h
  induction ps with
  | nil=>cases hp
  | cons q ps ih =>
   rw[Jby];have hq:=Jjk (hone q (by simp));have hr:=JgY (ps:=ps) λx hx=>hone x (by simp[hx])
   rcases List.mem_cons.1 hp with rfl|hp
   . omega
   . have:=ih hp (λx hx=>hone x (by simp[hx]));omega
 have h4:=h.long;unfold lenP at h3;exact⟨by omega,by omega,by omega,by omega,by omega⟩
theorem okOp.lens(h:okOp ps len)(hb:len+Jaq ps<1000000):(JaS ps).1=len:=by
 have hs:=JaW h.one;have h1:=(JkE ps hs (by have:=Jlz ps;have:=h.long;omega)).1;have h2:=Jge ps hs;rw[h1,Jkw];have h3:=h.long;have h4:((Jbd [] ps).1.length:Int)=Jfo ps:=rfl;rw[h4,h2,h3]
theorem okOp.turn{a b:List Pt}(ha:okOp a len)(hb:okOp b len)(h1:len+Jaq a<1000000)(h2:len+Jaq b<1000000):Jcw a b=0/\Jom a b=0:=by
 have e1:Jcw a b=0:=by
  unfold Jcw;rw[ha.lens h1,hb.lens h2,if_pos ha.chk,hb.chk]
 refine⟨e1,?_⟩;unfold Jom;rw[if_pos e1,if_pos (by rw[ha.lens h1,hb.lens h2])]
theorem okOp.trans{a b:List Pt}{len:Int}(ha:okOp a len)(hb:okOp b len)(h1:len+Jaq a<1000000)(h2:len+Jaq b<1000000):okOp (JaG (Jbj false a b)) ((b.map isP).sum)/\Jaq (JaG (Jbj false a b))=Jaq a:=by
 obtain⟨k1,k2,k3,k4⟩:=Jsj false (ha.fine h1) (hb.fine h2) ha.put (ha.long.trans hb.long.symm);exact⟨⟨k1,k2,k3⟩,k4⟩
theorem Jjl(h:chkE ps len=0):okOp ps len:=by
 obtain⟨h1,h2,h3⟩:=JkU h;exact⟨λp hp=>JsN (h1 p hp).1,λp hp=>JfR (h1 p hp).2,h2⟩
def Jf1:Int->List SE->Prop
 | _,[]=>True
 | len,x :: E=>okOp x.op len/\Jaq x.op<=40000/\0<=(x.op.map isP).sum/\(x.op.map isP).sum<=3000/\Jf1 ((x.op.map isP).sum) E
def endE:Int->List SE->Int
 | len,[]=>len
 | _,x :: E=>endE ((x.op.map isP).sum) E
def Jbq (ps:List Pt) (E:List SE):List Pt:=E.foldl (λa x=>JaG (Jbj false a x.op)) ps
theorem Jl5:∀(E:List SE)(ps:List Pt)(len:Int),okOp ps len->Jaq ps<=40000->len<=3000->Jf1 len E->okOp (Jbq ps E) (endE len E)/\Jaq (Jbq ps E)=Jaq ps
 | [],ps,len,h,_,_,_=>⟨h,rfl⟩
 | x :: E,ps,len,h,hp,hl,hc=>by
  obtain⟨c1,c2,c3,c4,c5⟩:=hc;obtain⟨k1,k2⟩:=h.trans c1 (by omega) (by omega);obtain⟨i1,i2⟩:=Jl5 E _ _ k1 (by omega) c4 c5;exact⟨i1,i2.trans k2⟩
theorem Jq4(ps:List Pt)(E:List SE)(k:Nat)(hk:k<E.length):Jbq ps (E.take (k+1))=JaG (Jbj false (Jbq ps (E.take k)) E[k].op):=by
 unfold Jbq;rw[List.take_succ_eq_append_getElem hk,List.foldl_append];rfl
theorem JiB:∀(E:List SE)(len:Int)(k:Nat)(hk:k<E.length),Jf1 len E->len<=3000->Jf1 len (E.take k)/\okOp E[k].op (endE len (E.take k))/\Jaq E[k].op<=40000/\endE len (E.take k)<=3000/\((0<=len)->0<=endE len (E.take k))
 | [],_,k,hk,_,_=>by simp at hk
 | x :: E,len,0,_,h,hl=>⟨trivial,h.1,h.2.1,hl,λh=>h⟩
 | x :: E,len,k+1,hk,h,hl=>by
  obtain⟨c1,c2,c3,c4,c5⟩:=h;obtain⟨i1,i2,i3,i4,i5⟩:=JiB E _ k (by simpa using hk) c5 c4;exact⟨⟨c1,c2,c3,c4,i1⟩,i2,i3,i4,λ_=>i5 c3⟩
def Jnm (lo:Nat) (w:World) (p:Option Addr) (n c:Nat) (E:List SE):Prop :=
 n=E.length/\n<=c/\c<=maxLen/\(E≠[]->∃g o,p=some (Ad g o)/\g<w.heap.size/\∀(i:Nat) (x:SE),E[i]?=some x->∃v,w.cell? (Ad g (o+i*3))=some (I6 x.c)/\w.cell? (Ad g (o+i*3+1))=some (I6 x.i)/\w.cell? (Ad g (o+i*3+2))=some v/\opX lo w v x.op)
theorem Ji4{e base:Nat}(h:JcY e lo base w (.slice p n c) E):Jnm lo w p n c E:=by
 by_cases hne:E=[]
 . subst hne
   obtain⟨vs,_,⟨_,hrow⟩,_⟩:=h
   rcases hrow with ⟨hv,_⟩|⟨g,cap,cur,hv,_,_,h6,h7,_⟩
   . injection hv with h1 h2 h3
     subst h2 h3;exact⟨rfl,nlr _,Nat.zero_le _,λh=>absurd rfl h⟩
   . injection hv with h1 h2 h3
     subst h2 h3;exact⟨rfl,h6,h7,λh=>absurd rfl h⟩
 . obtain ⟨g,h1,h2,h3,h4,h5,h6⟩:=Jmb h hne
   exact ⟨h3,h4,h5,λ_=>⟨g,0,h1,h2,λi x hx=>by
    obtain⟨v,k0,k1,k2,k3⟩:=h6 i x hx;rw[Nat.zero_add];exact⟨v,k0,k1,k2,k3⟩⟩⟩
theorem JoP{w':World}(h:Jnm lo w p n c E)(hb:Bw w w'):Jnm lo w' p n c E:=by
 obtain⟨h1,h2,h3,h4⟩:=h;refine⟨h1,h2,h3,λhne=>?_⟩;obtain⟨g,o,k1,k2,k3⟩:=h4 hne;refine⟨g,o,k1,Nat.lt_of_lt_of_le k2 hb.size,λi x hx=>?_⟩;obtain⟨v,j0,j1,j2,j3⟩:=k3 i x hx;exact⟨v,(zC hb g (o+i*3) k2).trans j0,(zC hb g (o+i*3+1) k2).trans j1,(zC hb g (o+i*3+2) k2).trans j2,Ja1 j3 hb⟩
theorem Jnl{m:Nat}(h:Jnm lo w p n c E)(hm:m<=n):Jnm lo w (if c=m then p else Option.map (λx=>x.add (m*3)) p) (n - m) (c - m) (E.drop m):=by
 obtain⟨rfl,h2,h3,h4⟩:=h;refine⟨by rw[List.length_drop],by omega,by omega,λhne=>?_⟩;have hlt:m<E.length:=by
  rcases Nat.lt_or_ge m E.length with h|h
  . exact h
  . exact absurd (List.drop_eq_nil_of_le h) hne
 obtain⟨g,o,rfl,k2,k3⟩:=h4 (λe=>by subst e;simp at hlt);rw[if_neg (by omega)];refine⟨g,o+m*3,by simp[Addr.add_lit],k2,λi x hx=>?_⟩;rw[List.getElem?_drop]at hx;obtain⟨v,j0,j1,j2,j3⟩:=k3 (m+i) x hx;have e:o+m*3+i*3=o+(m+i)*3:=by omega
 rw[e];exact⟨v,j0,j1,j2,j3⟩
theorem Jq3(lo:Nat)(v:Value)(ps:List Pt)(p:Option Addr)(n c:Nat)(E:List SE)(len:Int)(w:World)(hT:Lib.Utf8Tabs 3 4 w)(hr:opAt w v ps)(hE:Jnm lo w p n c E)(hok:okOp ps len)(hpu:Jaq ps<=40000)(hl0:0<=len)(hl:len<=3000)(hch:Jf1 len E)(hn:n<=1000) :
    Cg 256 #[v,.slice p n c] w λe w'=>∃v',e=.returned (.tuple #[v',.nilIface])/\opN w.heap.size w' v' (Jbq ps E)/\Bw w w':=by
 have hlen:ps.length<=100000:=by have:=Jlz ps;have:=JlY ps hok.one;have:=hok.long;omega
 have CO:Hid _:=JoI v ps w hr (λq hq=>by have:=Je1 q ps hq;omega) (by omega);have HE:Hid (Jnm lo w p n c E):=hE;have HT:=hdz hT;have HCH:Hid (okOp ps len/\Jaq ps<=40000/\0<=len/\len<=3000/\Jf1 len E):=⟨hok,hpu,hl0,hl,hch⟩;obtain⟨h1,h2,h3,_⟩:=hE;have HN:Hid (n=E.length):=h1;unfold maxLen at h3;obtain⟨pv,cv,rfl,_⟩:=hr;have hni:(n:Int)<=1000:=by omega
 clear hT hok hpu hl0 hl hch h1 hlen
 go_enter func256,ntmps256
 go_wp2_with (go_at_call 257;refine Calls.mono CO.out ?_;rintro e w1 ⟨v1,rfl,ho1,hb1⟩;have HO1:Hid (opN w.heap.size w1 v1 ps):=Jg6 (nlr _) ho1;have HB1:=hdz hb1;clear ho1 hb1)
 go_loopw [0,14] (λv0 i wr=>∃k:Nat,i=.int .i64 k/\k<=n/\opN w.heap.size wr v0 (Jbq ps (E.take k))/\Bw w wr) (λ_ i _=>n - (intOf i).toNat)
 case atStart=>exact⟨0,rfl,Nat.zero_le _,HO1.out,HB1.out⟩
 case round =>
  obtain⟨k,rfl,hk,hop',hbw⟩:=hrel;obtain⟨L0,hL0⟩:∃L,(Jbq ps (E.take k)).length=L:=⟨_,rfl⟩;have hop:=hop';obtain⟨⟨p0,c0,rfl,_⟩,_⟩:=hop';have HOP:Hid (opN w.heap.size wr (.slice p0 (Jbq ps (E.take k)).length c0) (Jbq ps (E.take k))):=hop;have HBW:=hdz hbw;rw[hL0]
  by_cases hlt:k<n
  . have hkr:k<E.length:=by rw[←HN.out];exact hlt
    have hne:E≠[]:=by intro e;rw[e]at hkr;exact absurd hkr (Nat.not_lt_zero _)
    have hcell:=HE.out.2.2.2;obtain⟨g,o,rfl,hg,hcell⟩:=hcell hne;obtain⟨ve,f0,f1,f2,f3⟩:=hcell k E[k] (lgg hkr);have g0:=(zC HBW.out g (o+k*3) hg).trans f0;have g1:=(zC HBW.out g (o+k*3+1) hg).trans f1;have g2:=(zC HBW.out g (o+k*3+2) hg).trans f2;have HX:Hid (opAt wr ve E[k].op):=JaJ f3.1 HBW.out (nlr _);have hki:(k:Int)<(n:Int):=by omega
    obtain⟨c1,c2,c3,c4,c5⟩:=HCH.out;obtain⟨t1,t2,t3,t4,t5⟩:=JiB E len k hkr c5 c4;obtain⟨s1,s2⟩:=Jl5 (E.take k) ps len c1 c2 c4 t1;have b1:endE len (E.take k)+Jaq (Jbq ps (E.take k))<1000000:=by omega
    have b2:endE len (E.take k)+Jaq E[k].op<1000000:=by omega
    obtain⟨e1,e2⟩:=s1.turn t2 b1 b2;have HTK:Hid (Jbq ps (E.take (k+1))=JaG (Jbj false (Jbq ps (E.take k)) E[k].op)):=Jq4 ps E k hkr;have CT:Hid (∀wx,Bw wr wx->Cg 259 #[.slice p0 (Jbq ps (E.take k)).length c0,ve,.bool false] wx λe w'=>∃v',e=.returned (.tuple #[v',.nilIface])/\opN wx.heap.size w' v' (Jbq ps (E.take (k+1)))/\Bw wx w'):=λwx hb=>by
     have f1:=s1.fine b1;have f2:=t2.fine b2;have:=Jkn _ ve false (Jbq ps (E.take k)) E[k].op wx (Go.Proofs.Utf8Tabs_below HT.out (HBW.out.trans (hb.mono HBW.out.size))) (JaJ HOP.out.1 hb (nlr _)) (JaJ HX.out hb (nlr _)) (s1.wf b1) (t2.wf b2) f1.len f2.len λ_=>⟨f1,f2⟩;rw[e2,if_pos rfl]at this;rw[HTK.out];exact this
    have hsh:∃p c,ve=.slice p E[k].op.length c:=by obtain⟨p,c,e,_⟩:=HX.out;exact⟨p,c,e⟩
    obtain⟨pe,ce,rfl⟩:=hsh;rw[hL0]at CT HOP;generalize E[k].op.length=L1 at *;generalize E[k]=x at *;obtain⟨xc,xi,xo⟩:=x;simp only at g0 g1;clear hcell f0 f1 f2 f3 hne c1 c2 c3 c4 c5 t1 t2 t3 t4 t5 s1 s2 b1 b2 e1 e2 hop hbw
    go_wp2_with (go_at_call 259;refine(CT.out _ (zA _ _)).mono ?_;rintro e w3 ⟨v3,rfl,ho3,hb3⟩;have HB3:Hid (Bw w w3):=(HBW.out.alloc HBW.out.size _).trans (hb3.mono (by rw[wsa];have:=HBW.out.size;omega));have HO3:Hid (opN w.heap.size w3 v3 (Jbq ps (E.take (k+1)))):=ho3.mono (by rw[wsa];have:=HBW.out.size;omega);clear hb3 ho3)
    exact⟨⟨k+1,by go_num,by omega,HO3.out,HB3.out⟩,by simp[intOf];omega⟩
  . obtain rfl:k=n:=by omega
    have hki:¬((k:Int)<(k:Int)):=by omega
    have HTK:Hid (E.take k=E):=show _=_ by rw[HN.out];exact List.take_length
    clear hop hbw;go_wp2
    go_ret2
    have:=HOP.out;rw[hL0,HTK.out]at this;exact⟨_,rfl,this,HBW.out⟩
end
section
variable {w w' : World}{n bm e lo base : Nat}{M : Told}{v1 : Value}{E : List SE}{t : List UInt8}{l0 : Int}
theorem sameBut.comp{w w' w'':World}{S S':Nat->Prop}(h:sameBut w w' S)(h':sameBut w' w'' S')(hs:∀k,k<w.heap.size->S' k->S k):sameBut w w'' S :=
 ⟨Nat.le_trans h.1 h'.1,λk hk hn=>(h'.2 k (Nat.lt_of_lt_of_le hk h.1) λe=>hn (hs k hk e)).trans (h.2 k hk hn),h'.os.trans h.os,h'.tape.trans h.tape,h'.output.trans h.output⟩
theorem Ja8{w:World}{k:Nat}{cs:Array Value}{T:TypeId}{fz:Nat×Nat}(h:w.heap[k]?=some (.cells cs T fz))(hT:T≠96):Jdb w k:=λcs' fz' e=>by
 rw[h]at e;injection e with e;injection e with _ e2;exact hT e2
theorem Jb0{k:Nat}(h:Jf0 n w k M):∀cs T fz,w.heap[k]?≠some (.cells cs T fz):=λcs T fz e=>by
 obtain⟨D,⟨es,clock,hb,_⟩,_⟩:=h;rw[hb]at e;injection e with e
 cases e
theorem Jnu(h:Jf0 n w bm M):bm<w.heap.size:=by
 obtain⟨D,h1,_⟩:=h;exact h1.lt
theorem Jg8(h:JcY e lo base w v1 E){k:Nat}(hk:v1.ownBlock=some k):base<=k/\k<w.heap.size/\∃cs,w.heap[k]?=some (Oc cs e):=by
 obtain⟨vs,_,h2,_⟩:=h
 rcases h2.2 with ⟨rfl,_⟩|⟨g,cap,cur,rfl,h3,h4,_⟩
 . cases hk
 . obtain rfl:g=k:=osi hk
   exact⟨h3,(alt h4),_,h4⟩
theorem Jjw(e lo base:Nat)(w:World):JcY e lo base w (.slice none 0 0) []:=⟨[],rfl,World.ownsRow_nil _ _ _ _,λi x v hx=>by simp at hx⟩
theorem JbI{lo:Nat}{w w':World}{v:Value}{ps:List Pt}{S:Nat->Prop}(h:opX lo w v ps)(hs:sameBut w w' S)(hS:∀k,k<w.heap.size->S k->lo<=k/\Jdb w k):opX lo w' v ps :=
 Jjj (S:=λk=>k<w.heap.size/\S k) h ⟨hs.1,λk hk hn=>hs.2 k hk λe=>hn ⟨hk,e⟩,hs.os,hs.tape,hs.output⟩ λk e=>hS k e.1 e.2
theorem JhA{v2 vx:Value}{x:SE}(he:e≠96)(hlb:lo<=base){vs:List Value}(h1:vs.length=E.length)(h2:w.ownsRow base e 3 v1 E.length (logC E vs))
    (h3:∀(i:Nat) (y:SE) (v:Value),E[i]?=some y->vs[i]?=some v->opX lo w v y.op) (hx:opX lo w vx x.op) (hg:w.grownBy w' v1.ownBlock) (hnew:w'.ownsRow base e 3 v2 (E.length+1) (logC E vs++[I6 x.c,I6 x.i,vx])):JcY e lo base w' v2 (E++[x]):=by
 have hk:=λk=>Jg8 (k:=k) ⟨vs,h1,h2,h3⟩;have hs:sameBut w w' λk=>v1.ownBlock=some k:=Jbb hg λk e=>e;have hS:∀k,k<w.heap.size->v1.ownBlock=some k->lo<=k/\Jdb w k:=λk _ hkk=>by
  obtain⟨a,b,cs,c⟩:=hk k hkk;exact⟨Nat.le_trans hlb a,Ja8 c he⟩
 refine⟨vs++[vx],by simp[h1],?_,λi y v hy hv=>?_⟩
 . rw[JsX E vs h1,List.length_append]
   exact hnew
 . rcases Nat.lt_or_ge i E.length with hi | hi
   . rw[List.getElem?_append_left hi]at hy
     rw[List.getElem?_append_left (by omega)]at hv;exact JbI (h3 i y v hy hv) hs hS
   . have : i=E.length:=by
       rcases Nat.lt_or_ge E.length i with h|h
       . rw[List.getElem?_append_right hi]at hy
         obtain⟨j,hj⟩:∃j,i - E.length=j+1:=⟨i - E.length - 1,by omega⟩;rw[hj]at hy;simp at hy
       . omega
     subst this;rw[List.getElem?_append_right (nlr _),Nat.sub_self]at hy;rw[List.getElem?_append_right (by omega),h1,Nat.sub_self]at hv;obtain rfl:x=y:=by simpa using hy
     obtain rfl:vx=v:=by simpa using hv
     exact JbI hx hs hS
def Jcv (lo n:Nat) (w:World) (b bm:Nat) (t:List UInt8) (E:List SE) (M:Told):Prop :=
 lo<=b/\lo<=bm/\(∃v1,w.heap[b]?=some (Oc #[Sx t,v1,.map (some bm)] 84)/\JcY 154 lo lo w v1 E)/\Jf0 n w bm M
def JdK (lo:Nat) (w:World) (bm k:Nat):Prop:=lo<=k/\(k=bm\/∃cs T,w.heap[k]?=some (Oc cs T)/\(T=84\/T=154))
theorem JaB{w:World}{k:Nat}{cs cs':Array Value}{T T':TypeId}{fz fz':Nat×Nat}(h:w.heap[k]?=some (.cells cs T fz))(h':w.heap[k]?=some (.cells cs' T' fz')):T=T':=by
 rw[h]at h';injection h' with e;injection e with _ e2
theorem Jc4{b:Nat}(h:Jcv lo n w b bm t E M)(hb:Bw w w'):Jcv lo n w' b bm t E M:=by
 obtain⟨h1,h2,⟨v1,h3,h4⟩,h5⟩:=h;exact⟨h1,h2,⟨v1,(hb.block b (alt h3)).trans h3,JcX h4 hb⟩,JdU (S:=λ_=>False) h5 (Jai hb _) id⟩
def doE (l0:Int) (t:List UInt8) (E:List SE) (rev:Int) (ps:List Pt):Int :=
 if rev<0\/(E.length:Int)<rev then 2 else if 300<=E.length then 4
 else if chkE ps (endE l0 (E.take rev.toNat))≠0 then chkE ps (endE l0 (E.take rev.toNat))
 else if ordE (Jbq ps (E.drop rev.toNat)) t≠0 then ordE (Jbq ps (E.drop rev.toNat)) t
 else if 2000<(Jae (Jbq ps (E.drop rev.toNat)) t).length then 12 else 0
structure okS (l0:Int) (t:List UInt8) (E:List SE):Prop where
 text:V t
 room:t.length<=2000
 pos:0<=l0
 top:l0<=3000
 chain:Jf1 l0 E
 last:endE l0 E=t.length
theorem JkY:∀(E:List SE)(l0:Int)(x:SE),Jf1 l0 E->okOp x.op (endE l0 E)->Jaq x.op<=40000->0<=(x.op.map isP).sum->(x.op.map isP).sum<=3000->Jf1 l0 (E++[x])/\endE l0 (E++[x])=(x.op.map isP).sum
 | [],l0,x,_,h1,h2,h3,h4=>⟨⟨h1,h2,h3,h4,trivial⟩,rfl⟩
 | y :: E,l0,x,h,h1,h2,h3,h4=>by
  obtain⟨c1,c2,c3,c4,c5⟩:=h;obtain⟨i1,i2⟩:=JkY E _ x c5 h1 h2 h3 h4;exact⟨⟨c1,c2,c3,c4,i1⟩,i2⟩
theorem JhJ:∀(E:List SE)(l0:Int)(k:Nat),Jf1 l0 E->Jf1 (endE l0 (E.take k)) (E.drop k)/\endE (endE l0 (E.take k)) (E.drop k)=endE l0 E
 | E,l0,0,h=>⟨h,rfl⟩
 | [],l0,k+1,_=>⟨trivial,rfl⟩
 | y :: E,l0,k+1,h=>JhJ E _ k h.2.2.2.2
theorem Jen:∀(E:List SE)(l0:Int)(k:Nat),Jf1 l0 E->0<=l0->l0<=3000->0<=endE l0 (E.take k)/\endE l0 (E.take k)<=3000
 | E,l0,0,_,h,h'=>⟨h,h'⟩
 | [],l0,k+1,_,h,h'=>⟨h,h'⟩
 | y :: E,l0,k+1,h,_,_=>Jen E _ k h.2.2.2.2 h.2.2.1 h.2.2.2.1
theorem JnC(h:okS l0 t E){ps:List Pt}{k:Nat}(hp:Jaq ps<=40000)(hc:chkE ps (endE l0 (E.take k))=0):okOp (Jbq ps (E.drop k)) t.length/\Jaq (Jbq ps (E.drop k))=Jaq ps:=by
 obtain⟨c1,c2⟩:=JhJ E l0 k h.chain;obtain⟨e1,e2⟩:=Jen E l0 k h.chain h.pos h.top;obtain⟨k1,k2⟩:=Jl5 (E.drop k) ps _ (Jjl hc) hp e2 c1;rw[c2,h.last]at k1;exact⟨k1,k2⟩
theorem do_next(h:okS l0 t E){ps:List Pt}{c i rev:Int}(hp:Jaq ps<=40000)(hd:doE l0 t E rev ps=0) :
    okS l0 (Jae (Jbq ps (E.drop rev.toNat)) t) (E++[⟨c,i,Jbq ps (E.drop rev.toNat)⟩]):=by
 unfold doE at hd
 split at hd
 . cases hd
 split at hd
 . cases hd
 split at hd
 . rename_i h1;exact absurd hd h1
 rename_i hc
 split at hd
 . rename_i h1;exact absurd hd h1
 rename_i ho
 split at hd
 . cases hd
 rename_i hl
 have hc:chkE ps (endE l0 (E.take rev.toNat))=0:=by simpa using hc
 have ho:ordE (Jbq ps (E.drop rev.toNat)) t=0:=by simpa using ho
 obtain⟨k1,k2⟩:=JnC h hp hc;have hg:=Jdu h.text ho;have hlen:=JjH _ t hg.left;obtain⟨i1,i2⟩:=JkY E l0 ⟨c,i,Jbq ps (E.drop rev.toNat)⟩ h.chain (by rw[h.last];exact k1) (by rw[k2];exact hp) (by rw[←hlen];omega) (by rw[←hlen];omega);exact⟨JhN hg.al,by omega,h.pos,h.top,i1,by rw[i2,hlen]⟩
end
section
attribute [local go_sem] Oper.semAt_some
theorem JiS(lo n:Nat)(w:World)(b bm:Nat)(t:List UInt8)(E:List SE)(M:Told)(h:Jcv lo n w b bm t E M) :
    Cg 169 #[Pd b 0] w λe w'=>w'=w/\∃v1,e=.returned v1/\w.cell? (Ad b 1)=some v1/\JcY 154 lo lo w v1 E:=by
 obtain⟨_,_,⟨v1,h3,h4⟩,_⟩:=h;obtain⟨p,c,rfl⟩:=JbH h4;have x1:=cQ h3 1 rfl;have H4:=hdz h4;clear h3 h4
 go_enter func169,ntmps169
 go_wp2;go_ret;exact⟨rfl,_,rfl,x1,H4.out⟩
theorem Jkv(lo n:Nat)(w:World)(b bm:Nat)(t:List UInt8)(E:List SE)(M:Told)(h:Jcv lo n w b bm t E M) :
    Cg 115 #[Pd b 0] w λe w'=>w'=w/\e=.returned (I6 E.length):=by
 have C:Hid _:=JiS lo n w b bm t E M h;clear h
 go_enter func115,ntmps115
 go_wp2_with (go_at_call 169;refine Calls.mono C.out ?_;rintro e w1 ⟨hw,v1,rfl,hc,hl⟩;obtain rfl:=hw.symm;obtain⟨p,c,rfl⟩:=JbH hl;clear hc hl)
 go_ret;exact⟨rfl,rfl⟩
theorem Joo(lo n:Nat)(w:World)(b bm:Nat)(t:List UInt8)(E:List SE)(M:Told)(h:Jcv lo n w b bm t E M) :
    Cg 116 #[Pd b 0] w λe w'=>w'=w/\e=.returned (Sx t):=by
 obtain⟨_,_,⟨v1,h3,h4⟩,_⟩:=h;have x1:=cQ h3 0 rfl;clear h3 h4
 go_enter func116,ntmps116
 go_wp2;go_ret;exact⟨rfl,rfl⟩
theorem run_ti{P:Program}{w:World}{t:TypeId}{i:TypeInfo}(h:P.info? t=some i):(typeInfo t).run P w=.ok i w:=by simp[typeInfo,h]
theorem Ju1{P:Program}{w:World}{t:TypeId}{i:TypeInfo}{z:Value}(h:P.info? t=some i)(hz:i.zero=some z):(zeroValue t).run P w=.ok z w:=by
 simp[zeroValue,Sem.run_bind,run_ti h,hz]
theorem JiF{t:TypeId}{z:Value}(h:(prog.info? t).map (·.zero)=some (some z))(w:World):(zeroValue t).run prog w=.ok z w:=by
 obtain⟨i,hi,hz⟩:=Option.map_eq_some_iff.1 h;exact Ju1 hi hz
theorem Jtm:(prog.info? 271).map (·.zero)=some (some (.agg #[I6 0,I6 0])):=by kernel_rfl
theorem Jp4(w:World):(zeroValue 271).run prog w=.ok (.agg #[I6 0,I6 0]) w:=JiF Jtm w
theorem JiQ(lo n:Nat)(w:World)(b bm:Nat)(t:List UInt8)(E:List SE)(M:Told)(h:Jcv lo n w b bm t E M){l0:Int}(hk:okS l0 t E)(k:Nat)(hkl:k<=E.length)(hn:E.length<=1000) :
    Cg 255 #[Pd b 0,I6 k] w (Rt w (I6 (endE l0 (E.take k)))):=by
 obtain⟨_,_,⟨v1,h3,h4⟩,_⟩:=h;obtain⟨p,c,rfl⟩:=JbH h4;have x0:=cQ h3 0 rfl;have x1:=cQ h3 1 rfl
 by_cases he:k=E.length
 . have hz:(ByteArray.mk t.toArray).size=t.length:=by simp[ByteArray.size]
   have hv:endE l0 (E.take k)=t.length:=by rw[he,List.take_length];exact hk.last
   rw[hv];subst he;clear h3 h4 hk hv hkl
   go_enter func255,ntmps255
   go_wp2;go_ret;exact⟨rfl,brf _ _⟩
 . have hlt:k<E.length:=by omega
   have hne:E≠[]:=by intro e;rw[e]at hlt;exact absurd hlt (Nat.not_lt_zero _)
   obtain⟨g,rfl,hg,_,_,_,hcell⟩:=Jmb h4 hne;obtain⟨ve,_,_,f2,f3⟩:=hcell k E[k] (lgg hlt);obtain⟨t1,t2,t3,t4,t5⟩:=JiB E l0 k hlt hk.chain hk.top;have hb1:endE l0 (E.take k)+Jaq E[k].op<1000000:=by omega
   have hle:=(t2.fine hb1).len;have CL:Hid _:=Jct ve E[k].op w f3.1 hle;have HV:Hid ((JaS E[k].op).1=endE l0 (E.take k)):=t2.lens hb1;have hsh:∃p c,ve=.slice p E[k].op.length c:=by obtain⟨p,c,e,_⟩:=f3.1;exact⟨p,c,e⟩
   obtain⟨pe,ce,rfl⟩:=hsh;have hki:((k:Int)==(E.length:Int))=false:=by simp;omega
   have hki2:(k:Int)<(E.length:Int):=by omega
   generalize endE l0 (E.take k)=R at *;generalize E[k]=x at *;generalize E.length=n at *;clear h3 h4 hk hcell t1 t2 t3 t4 t5 hb1 f3 hne
   go_enter func255,ntmps255
   go_wp2_with (go_at_call 100;refine Calls.mono CL.out ?_;rintro e w1 ⟨rfl,hb1⟩;have HB1:=hdz hb1;clear hb1)
   go_ret;refine⟨?_,HB1.out⟩;have:=HV.out
   first | rfl | (simp;done) | (rw[←this];rfl) | (subst this;rfl)
variable {lo n b bm : Nat}{w : World}{t : List UInt8}{E : List SE}{M : Told}{l0 : Int}
theorem Jjy:(prog.info? 154).map (λi=>(i.zero,i.size,i.bytes))=some (some (.agg #[I6 0,I6 0,.slice none 0 0]),3,40):=by kernel_rfl
theorem Jj0{n:Int}(h:n≠0):errV n=.iface 25 (I6 n):=if_neg h
def doT (l0:Int) (t:List UInt8) (E:List SE) (rev:Int) (ps:List Pt):List UInt8:=if doE l0 t E rev ps=0 then Jae (Jbq ps (E.drop rev.toNat)) t else t
def doL (l0:Int) (t:List UInt8) (E:List SE) (c i rev:Int) (ps:List Pt):List SE:=if doE l0 t E rev ps=0 then E++[⟨c,i,Jbq ps (E.drop rev.toNat)⟩] else E
theorem Jj2{w':World}{c i rev:Int}{ps:List Pt}(h:Jcv lo n w b bm t E M)(hb:Bw w w')(hd:doE l0 t E rev ps≠0) :
    Jcv lo n w' b bm (doT l0 t E rev ps) (doL l0 t E c i rev ps) M/\sameBut w w' (JdK lo w bm):=by
 unfold doT doL;rw[if_neg hd,if_neg hd];exact⟨Jc4 h hb,Jai hb _⟩
theorem Jos(h:Jcv lo n w b bm t E M)(c i rev:Int)(v:Value)(hr:rev<0\/(E.length:Int)<rev) :
    Cg 216 #[Pd b 0,I6 c,I6 i,I6 rev,v] w (Rt w (errV 2)):=by
 obtain⟨_,_,⟨v1,h3,h4⟩,_⟩:=h;obtain⟨p,c1,rfl⟩:=JbH h4;have x1:=cQ h3 1 rfl;have hV:errV 2=.iface 25 (I6 2):=rfl;rw[hV];clear h3 h4 hV
 by_cases h0:rev<0
 . clear hr
   go_enter func216,ntmps216
   go_wp2;go_ret;exact⟨rfl,brf _ _⟩
 . have h1:(E.length:Int)<rev:=by omega
   clear hr
   go_enter func216,ntmps216
   go_wp2;go_ret;exact⟨rfl,brf _ _⟩
theorem Jot(h:Jcv lo n w b bm t E M){l0:Int}(hk:okS l0 t E)(c i:Int)(k:Nat)(v:Value)(ps:List Pt)(hT:Lib.Utf8Tabs 3 4 w)(hr:opAt w v ps)(hwf:∀p∈ps,wfP p)(hl:ps.length<=1000000)(hkl:k<=E.length)(hn:E.length<300)(hc:chkE ps (endE l0 (E.take k))≠0) :
    Cg 216 #[Pd b 0,I6 c,I6 i,I6 (k:Int),v] w (Rt w (errV (chkE ps (endE l0 (E.take k))))):=by
 have CS:Hid _:=JiQ lo n w b bm t E M h hk k hkl (by omega);have hle:=Jen E l0 k hk.chain hk.pos hk.top;have CC:Hid (∀wx,Bw w wx->Cg 137 #[v,I6 (endE l0 (E.take k))] wx (Rt wx (errV (chkE ps (endE l0 (E.take k)))))):=λwx hb =>
  Jdl v ps _ wx (Go.Proofs.Utf8Tabs_below hT hb) (JaJ hr hb (nlr _)) hwf (by omega) (by omega)
 obtain⟨_,_,⟨v1,h3,h4⟩,_⟩:=h;obtain⟨p,c1,rfl⟩:=JbH h4;have x1:=cQ h3 1 rfl;rw[Jj0 hc]at CC ⊢;have hk0:¬(k:Int)<0:=by omega
 have hk1:¬(E.length:Int)<(k:Int):=by omega
 have hk2:¬(300:Int)<=(E.length:Int):=by omega
 obtain⟨pv,cv,rfl,_⟩:=hr;generalize chkE ps (endE l0 (E.take k))=X at *;generalize endE l0 (E.take k)=R at *;clear h3 h4 hk hT hwf hle hc
 go_enter func216,ntmps216
 go_wp2_with (first
  | (go_at_call 255;refine Calls.mono CS.out ?_;rintro e w1 ⟨rfl,hb1⟩;have HB1:=hdz hb1;clear hb1)
  | (go_at_call 137;refine(CC.out _ HB1.out).mono ?_;rintro e w2 ⟨rfl,hb2⟩;have HB2:=hdz (HB1.out.trans (hb2.mono HB1.out.size));clear hb2))
 go_ret;exact⟨rfl,HB2.out⟩
theorem Jsy(h:Jcv lo n w b bm t E M)(c i:Int)(k:Nat)(v:Value)(hkl:k<=E.length)(hn:300<=E.length)(hn2:E.length<=1000) :
    Cg 216 #[Pd b 0,I6 c,I6 i,I6 (k:Int),v] w (Rt w (errV 4)):=by
 obtain⟨_,_,⟨v1,h3,h4⟩,_⟩:=h;obtain⟨p,c1,rfl⟩:=JbH h4;have x1:=cQ h3 1 rfl;have hV:errV 4=.iface 25 (I6 4):=rfl;rw[hV];have hk0:¬(k:Int)<0:=by omega
 have hk1:¬(E.length:Int)<(k:Int):=by omega
 have hk2:(300:Int)<=(E.length:Int):=by omega
 clear h3 h4 hV
 go_enter func216,ntmps216
 go_wp2;go_ret;exact⟨rfl,brf _ _⟩
def JrL (w:World) (l0:Int) (E:List SE) (k:Nat) (p:Option Addr) (c1:Nat) (v:Value) (ps:List Pt):Prop:=∀wx,Bw w wx->Cg 256 #[v,.slice (if c1=k then p else Option.map (λx=>x.add (k*3)) p) (E.length - k) (c1 - k)] wx λe w'=>∃p' c',e=.returned (.tuple #[.slice p' (Jbq ps (E.drop k)).length c',.nilIface])/\opN wx.heap.size w' (.slice p' (Jbq ps (E.drop k)).length c') (Jbq ps (E.drop k))/\Bw wx w'
def Jlw (w:World) (t:List UInt8) (q:List Pt):Prop:=∀wx v',Bw w wx->opAt wx v' q->Cg 101 #[v',Sx t] wx (Rt wx (.tuple #[Sx (if ordE q t=0 then Jae q t else []),errV (ordE q t)]))
theorem do_C(hk:okS l0 t E)(k:Nat){p:Option Addr}{c1:Nat}(hlog:Jnm lo w p E.length c1 E){v:Value}{ps:List Pt}(hT:Lib.Utf8Tabs 3 4 w)(hr:opAt w v ps)(hpu:Jaq ps<=40000)(hkl:k<=E.length)(hn:E.length<300)(hc:chkE ps (endE l0 (E.take k))=0):JrL w l0 E k p c1 v ps/\Jlw w t (Jbq ps (E.drop k)):=by
 have hle:=Jen E l0 k hk.chain hk.pos hk.top;obtain⟨q1,q2⟩:=JnC hk hpu hc;have hrm:=hk.room;have hb1:(t.length:Int)+Jaq (Jbq ps (E.drop k))<1000000:=by omega
 have hlen:=(q1.fine hb1).len;refine⟨λwx hb=>?_,λwx v' hb ho=>JjT v' _ t wx (Go.Proofs.Utf8Tabs_below hT hb) ho (q1.wf hb1) (by omega) hlen (by omega)⟩;refine(Jq3 lo v ps _ _ _ (E.drop k) (endE l0 (E.take k)) wx (Go.Proofs.Utf8Tabs_below hT hb) (JaJ hr hb (nlr _)) (Jnl (JoP hlog hb) hkl) (Jjl hc) hpu hle.1 hle.2 (JhJ E l0 k hk.chain).1 (by omega)).mono ?_;rintro e w' ⟨v',rfl,ho,hb'⟩;obtain⟨p',c',rfl,_⟩:=ho.1;exact⟨p',c',rfl,ho,hb'⟩
structure DoStart (lo n:Nat) (w:World) (b bm:Nat) (t:List UInt8) (E:List SE) (M:Told) (l0:Int) (k:Nat) (v:Value) (ps:List Pt) (p:Option Addr) (c1:Nat):Prop where
 size:Cg 255 #[Pd b 0,I6 k] w (Rt w (I6 (endE l0 (E.take k))))
 check:∀wx,Bw w wx->Cg 137 #[v,I6 (endE l0 (E.take k))] wx (Rt wx .nilIface)
 turn:JrL w l0 E k p c1 v ps
 apply:Jlw w t (Jbq ps (E.drop k))
 block:w.heap[b]?=some (Oc #[Sx t,.slice p E.length c1,.map (some bm)] 84)
theorem Jvx(h:Jcv lo n w b bm t E M){l0:Int}(hk:okS l0 t E)(k:Nat)(v:Value)(ps:List Pt)(hT:Lib.Utf8Tabs 3 4 w)(hr:opAt w v ps)(hwf:∀p∈ps,wfP p)(hl:ps.length<=1000000)(hpu:Jaq ps<=40000)(hkl:k<=E.length)(hn:E.length<300)(hc:chkE ps (endE l0 (E.take k))=0) :
    ∃p c1,DoStart lo n w b bm t E M l0 k v ps p c1/\JcY 154 lo lo w (.slice p E.length c1) E:=by
 have cs:=JiQ lo n w b bm t E M h hk k hkl (by omega);have hle:=Jen E l0 k hk.chain hk.pos hk.top;obtain⟨_,_,⟨v1,h3,h4⟩,_⟩:=h;obtain⟨p,c1,rfl⟩:=JbH h4;obtain⟨k1,k2⟩:=do_C hk k (Ji4 h4) hT hr hpu hkl hn hc;refine⟨p,c1,⟨cs,λwx hb=>?_,k1,k2,h3⟩,h4⟩;have:=Jdl v ps (endE l0 (E.take k)) wx (Go.Proofs.Utf8Tabs_below hT hb) (JaJ hr hb (nlr _)) hwf (by omega) (by omega);rw[hc]at this;exact this
theorem Jou(c i:Int)(k:Nat)(v:Value)(ps:List Pt){p:Option Addr}{c1:Nat}(hr:opAt w v ps)(hkl:k<=E.length)(hn:E.length<300)(hc1:E.length<=c1)(S:DoStart lo n w b bm t E M l0 k v ps p c1)(ho:ordE (Jbq ps (E.drop k)) t≠0) :
    Cg 216 #[Pd b 0,I6 c,I6 i,I6 (k:Int),v] w (Rt w (errV (ordE (Jbq ps (E.drop k)) t))):=by
 obtain⟨s1,s2,s3,s4,h3⟩:=S;have CS:=hdz s1;have CC:Hid (∀wx,Bw w wx->Cg 137 #[v,I6 (endE l0 (E.take k))] wx (Rt wx .nilIface)):=s2;have CT:Hid (JrL w l0 E k p c1 v ps):=s3;have CA:Hid (Jlw w t (Jbq ps (E.drop k))):=s4;have hbl:=(alt h3);have x0:=cQ h3 0 rfl;have x1:=cQ h3 1 rfl;have HB:Hid (b<w.heap.size):=hbl;have X0:Hid (w.cell? (Ad b 0)=some (.string ⟨t.toArray⟩)):=x0;have X1:Hid (w.cell? (Ad b 1)=some (.slice p E.length c1)):=x1;unfold JrL at CT;unfold Jlw at CA;rw[if_neg ho,Jj0 ho]at CA;rw[Jj0 ho];have hk0:¬(k:Int)<0:=by omega
 have hk1:¬(E.length:Int)<(k:Int):=by omega
 have hk2:¬(300:Int)<=(E.length:Int):=by omega
 have hk3:(k:Int)<=(E.length:Int):=by omega
 obtain⟨pv,cv,rfl,_⟩:=hr;generalize ordE (Jbq ps (E.drop k)) t=X at *;generalize endE l0 (E.take k)=R at *;generalize Jbq ps (E.drop k)=q at *;obtain⟨qn,hqn⟩:∃m,q.length=m:=⟨_,rfl⟩;rw[hqn]at CT;have en:Sx []=.string ⟨#[]⟩:=rfl;rw[en]at CA;clear h3 s1 s2 s3 s4 ho hbl en
 go_enter func216,ntmps216
 go_wp2_with (first
  | (go_at_call 255;refine Calls.mono CS.out ?_;rintro e w1 ⟨rfl,hb1⟩;have HB1:=hdz hb1;clear hb1)
  | (go_at_call 137;refine(CC.out _ HB1.out).mono ?_;rintro e w2 ⟨rfl,hb2⟩;have HB2:=hdz (HB1.out.trans (hb2.mono HB1.out.size));have y1:w2.cell? (Ad b 1)=some (.slice p E.length c1):=(zC HB2.out b 1 HB.out).trans X1.out;clear hb2)
  | (go_at_call 256;refine(CT.out _ HB2.out).mono ?_;rintro e w3 ⟨p',c',rfl,ho3,hb3⟩;have HO3:Hid (opAt w3 (.slice p' qn c') q):=ho3.1;have HB3:=hdz (HB2.out.trans (hb3.mono HB2.out.size));have y0:w3.cell? (Ad b 0)=some (.string ⟨t.toArray⟩):=(zC HB3.out b 0 HB.out).trans X0.out;clear hb3 ho3)
  | (go_at_call 101;refine(CA.out _ _ HB3.out HO3.out).mono ?_;rintro e w4 ⟨rfl,hb4⟩;have HB4:=hdz (HB3.out.trans (hb4.mono HB3.out.size));clear hb4))
 all_goals
  go_ret;exact⟨rfl,HB4.out⟩
end
section
variable {w : World}{e TS lo b : Nat}{x0 m v1 : Value}{E : List SE}
theorem JaP{w:World}{b o:Nat}{cs:Array Value}{T:TypeId}(h:w.heap[b]?=some (Oc cs T)):w.frozen? (Ad b o)=false:=by unfold World.frozen?;simp[h]
theorem Jfy{k:Nat}{o o':Obj}(h:w.heap[k]?=some o):(w.alloc o').heap[k]?=some o :=
 (((brf w.heap.size w).alloc (nlr _) o').block k (alt h)).trans h
theorem JuU{vx:Value}{x:SE}(he:e≠96)(hTS:TS≠96)(hne:TS≠e)(hlo:lo<=b)(hb:w.heap[b]?=some (Oc #[x0,v1,m] TS))(hl:JcY e lo lo w v1 E)(hx:opX lo w vx x.op) :
    ∃ vs,vs.length=E.length/\(w.alloc (Oc #[I6 x.c,I6 x.i,vx] e)).ownsRow lo e 3 v1 E.length (logC E vs)/\∀w6 v2,w6.ownsRow lo e 3 v2 (E.length+1) (logC E vs++[I6 x.c,I6 x.i,vx])->(w.alloc (Oc #[I6 x.c,I6 x.i,vx] e)).grownBy w6 v1.ownBlock ->
     w6.cell? (Ad b 1)=some v1/\w6.frozen? (Ad b 1)=false/\(w6.setCell (Ad b 1) v2).heap[b]?=some (Oc #[x0,v2,m] TS)/\JcY e lo lo (w6.setCell (Ad b 1) v2) v2 (E++[x])/\sameBut w (w6.setCell (Ad b 1) v2) (λk=>k=b\/v1.ownBlock=some k):=by
 have hbw:Bw w (w.alloc (Oc #[I6 x.c,I6 x.i,vx] e)):=zA _ _;obtain⟨vs,h1,h2,h3⟩:=JcX hl hbw;have hown:=λk=>Jg8 (k:=k) hl;refine⟨vs,h1,h2,λw6 v2 hnew hg=>?_⟩;have h6:=JhA (x:=x) he (nlr _) h1 h2 h3 (Ja1 hx hbw) hg hnew;have hnb:some b≠v1.ownBlock:=λe=>by
  obtain⟨_,_,cs,hc⟩:=hown b e.symm;exact hne (JaB hb hc)
 have hb6:w6.heap[b]?=some (Oc #[x0,v1,m] TS):=(hg.block b (Array.getElem?_eq_some_iff.1 (Jfy hb)).1 hnb).trans (Jfy hb);refine⟨chp hb6 1,JaP hb6,heap_setCell_same w6 b 1 _ TS v2 hb6,Jel (S:=λk=>k=b) h6 (Jat rfl) λk hk=>?_,?_⟩
 . obtain rfl:=hk
   exact⟨hlo,Ja8 hb6 hTS,λcs fz hc=>hne (JaB hb6 hc)⟩
 . exact((Jai hbw _).comp (Jbb (S:=λk=>k=b\/v1.ownBlock=some k) hg λk e=>.inr e) λk _ h=>h).comp (Jat (S:=λk=>k=b\/v1.ownBlock=some k) (.inl rfl)) λk _ h=>h
theorem Juu(hTS:TS≠96)(hne:TS≠e)(hlo:lo<=b)(hb:w.heap[b]?=some (Oc #[x0,v1,m] TS))(hl:JcY e lo lo w v1 E)(u:Value) :
    w.frozen? (Ad b 0)=false/\(w.setCell (Ad b 0) u).heap[b]?=some (Oc #[u,v1,m] TS)/\JcY e lo lo (w.setCell (Ad b 0) u) v1 E :=
 ⟨JaP hb,heap_setCell_same w b 0 _ TS u hb,Jel (S:=λk=>k=b) hl (Jat rfl) λk hk=>by
  obtain rfl:=hk;exact⟨hlo,Ja8 hb hTS,λcs fz hc=>hne (JaB hb hc)⟩⟩
end
section
attribute [local go_sem] Oper.semAt_some
variable {lo n b bm : Nat}{w : World}{t : List UInt8}{E : List SE}{M : Told}{l0 : Int}
theorem Jj1(a b:Int)(p:Option Addr)(n c:Nat):∀u∈[I6 a,I6 b,.slice p n c],u.oneCell'=true:=λu hu=>by
 simp only[List.mem_cons,List.mem_nil_iff,or_false]at hu
 rcases hu with rfl|rfl|rfl<;>rfl
theorem JqC(c i:Int)(k:Nat)(v:Value)(ps:List Pt){p:Option Addr}{c1:Nat}(hr:opAt w v ps)(hkl:k<=E.length)(hn:E.length<300)(hc1:E.length<=c1)(S:DoStart lo n w b bm t E M l0 k v ps p c1)(ho:ordE (Jbq ps (E.drop k)) t=0)(hz:2000<(Jae (Jbq ps (E.drop k)) t).length) :
    Cg 216 #[Pd b 0,I6 c,I6 i,I6 (k:Int),v] w (Rt w (errV 12)):=by
 obtain⟨s1,s2,s3,s4,h3⟩:=S;have CS:=hdz s1;have CC:=hdz s2;have CT:=hdz s3;have CA:=hdz s4;have hbl:=(alt h3);have x0:=cQ h3 0 rfl;have x1:=cQ h3 1 rfl;have HB:=hdz hbl;have X0:=hdz x0;have X1:=hdz x1;unfold JrL at CT;unfold Jlw at CA;rw[if_pos ho,ho,show errV 0=.nilIface from rfl]at CA;have hV:errV 12=.iface 25 (I6 12):=rfl;rw[hV];have hk0:¬(k:Int)<0:=by omega
 have hk1:¬(E.length:Int)<(k:Int):=by omega
 have hk2:¬(300:Int)<=(E.length:Int):=by omega
 have hk3:(k:Int)<=(E.length:Int):=by omega
 obtain⟨pv,cv,rfl,_⟩:=hr;generalize endE l0 (E.take k)=R at *;generalize Jbq ps (E.drop k)=q at *;generalize Jae q t=s' at *;have hz1:(ByteArray.mk s'.toArray).size=s'.length:=by simp[ByteArray.size]
 have hz2:(2000:Int)<(s'.length:Int):=by omega
 obtain⟨qn,hqn⟩:∃m,q.length=m:=⟨_,rfl⟩;rw[hqn]at CT;clear h3 s1 s2 s3 s4 ho hbl hV hz
 go_enter func216,ntmps216
 go_wp2_with (first
  | (go_at_call 255;refine Calls.mono CS.out ?_;rintro e w1 ⟨rfl,hb1⟩;have HB1:=hdz hb1;clear hb1)
  | (go_at_call 137;refine(CC.out _ HB1.out).mono ?_;rintro e w2 ⟨rfl,hb2⟩;have HB2:=hdz (HB1.out.trans (hb2.mono HB1.out.size));have y1:w2.cell? (Ad b 1)=some (.slice p E.length c1):=(zC HB2.out b 1 HB.out).trans X1.out;clear hb2)
  | (go_at_call 256;refine(CT.out _ HB2.out).mono ?_;rintro e w3 ⟨p',c',rfl,ho3,hb3⟩;have HO3:=hdz ho3.1;have HB3:=hdz (HB2.out.trans (hb3.mono HB2.out.size));have y0:w3.cell? (Ad b 0)=some (Sx t):=(zC HB3.out b 0 HB.out).trans X0.out;clear hb3 ho3)
  | (go_at_call 101;refine(CA.out _ _ HB3.out HO3.out).mono ?_;rintro e w4 ⟨rfl,hb4⟩;have HB4:=hdz (HB3.out.trans (hb4.mono HB3.out.size));clear hb4))
 all_goals
  go_ret;exact⟨rfl,HB4.out⟩
theorem Juy(c i:Int)(k:Nat)(v:Value)(ps:List Pt){p:Option Addr}{c1:Nat}(hr:opAt w v ps)(hkl:k<=E.length)(hn:E.length<300)(hc1:E.length<=c1)(S:DoStart lo n w b bm t E M l0 k v ps p c1)(ho:ordE (Jbq ps (E.drop k)) t=0)(hz:(Jae (Jbq ps (E.drop k)) t).length<=2000)(hs:Jcv lo n w b bm t E M)(hlg:JcY 154 lo lo w (.slice p E.length c1) E) :
    Cg 216 #[Pd b 0,I6 c,I6 i,I6 (k:Int),v] w λe w'=>e=.returned .nilIface/\Jcv lo n w' b bm (Jae (Jbq ps (E.drop k)) t) (E++[⟨c,i,Jbq ps (E.drop k)⟩]) M/\sameBut w w' (JdK lo w bm):=by
 obtain⟨s1,s2,s3,s4,h3⟩:=S;have CS:=hdz s1;have CC:=hdz s2;have CT:=hdz s3;have CA:=hdz s4;have hbl:=(alt h3);have x0:=cQ h3 0 rfl;have x1:=cQ h3 1 rfl;have HB:=hdz hbl;have X0:=hdz x0;have X1:=hdz x1;unfold JrL at CT;unfold Jlw at CA;rw[if_pos ho,ho,show errV 0=.nilIface from rfl]at CA;have hk0:¬(k:Int)<0:=by omega
 have hk1:¬(E.length:Int)<(k:Int):=by omega
 have hk2:¬(300:Int)<=(E.length:Int):=by omega
 have hk3:(k:Int)<=(E.length:Int):=by omega
 obtain⟨i0,hi,hq0,hq1,hq2⟩:=info_parts Jjy
 have PUSH:Hid (∀(q:List Pt) (s':List UInt8) w4 v',Bw w w4->opX lo w4 v' q->w4.frozen? (Ad b 0)=false/\(w4.setCell (Ad b 0) (Sx s')).cell? (Ad b 1)=some (.slice p E.length c1)/\∃vs,vs.length=E.length/\((w4.setCell (Ad b 0) (Sx s')).alloc (Oc #[I6 c,I6 i,v'] 154)).ownsRow lo 154 3 (.slice p E.length c1) E.length (logC E vs)/\∀w6 v2,w6.ownsRow lo 154 3 v2 (E.length+1) (logC E vs++[I6 c,I6 i,v'])->((w4.setCell (Ad b 0) (Sx s')).alloc (Oc #[I6 c,I6 i,v'] 154)).grownBy w6 (Value.slice p E.length c1).ownBlock ->
     w6.cell? (Ad b 1)=some (.slice p E.length c1)/\w6.frozen? (Ad b 1)=false/\Jcv lo n (w6.setCell (Ad b 1) v2) b bm s' (E++[⟨c,i,q⟩]) M/\sameBut w (w6.setCell (Ad b 1) v2) (JdK lo w bm)):=λq s' w4 v' hb4 hx=>by
  obtain⟨g1,g2,_,g4⟩:=hs;have hb4':w4.heap[b]?=some (Oc #[Sx t,.slice p E.length c1,.map (some bm)] 84):=(hb4.block b hbl).trans h3;obtain⟨t1,t2,t3⟩:=Juu (e:=154) (by decide) (by decide) g1 hb4' (JcX hlg hb4) (Sx s');obtain⟨vs,u1,u2,u3⟩:=JuU (x:=⟨c,i,q⟩) (vx:=v') (by decide) (by decide) (by decide) g1 t2 t3 (JbI hx (Jat (S:=λk=>k=b) rfl) λk _ hk=>by obtain rfl:=hk;exact⟨g1,Ja8 hb4' (by decide)⟩);refine⟨t1,chp t2 1,vs,u1,u2,λw6 v2 hn6 hg6=>?_⟩;obtain⟨y1,y2,y3,y4,y5⟩:=u3 w6 v2 hn6 hg6;have hS:sameBut w (w6.setCell (Ad b 1) v2) (λk=>k=b\/(Value.slice p E.length c1).ownBlock=some k):=((Jai hb4 _).comp (Jat (S:=λk=>k=b\/(Value.slice p E.length c1).ownBlock=some k) (.inl rfl)) λk _ h=>h).comp y5 λk _ h=>h
  have hcell:∀k,(k=b\/(Value.slice p E.length c1).ownBlock=some k)->lo<=k/\∃cs T,w.heap[k]?=some (Oc cs T)/\(T=84\/T=154):=λk hk=>by
   rcases hk with rfl|hk
   . exact⟨g1,_,_,h3,.inl rfl⟩
   . obtain⟨a1,_,cs,a2⟩:=Jg8 hlg hk
     exact⟨a1,cs,_,a2,.inr rfl⟩
  refine⟨y1,y2,⟨g1,g2,⟨v2,y3,y4⟩,JdU g4 hS λhk=>?_⟩,hS.mono λk _ hk=>⟨(hcell k hk).1,.inr (hcell k hk).2⟩⟩;obtain⟨_,cs,T,hc,_⟩:=hcell bm hk;exact Jb0 g4 _ _ _ hc
 obtain⟨pv,cv,rfl,_⟩:=hr;generalize endE l0 (E.take k)=R at *;generalize Jbq ps (E.drop k)=q at *;generalize Jae q t=s' at *;have hz1:(ByteArray.mk s'.toArray).size=s'.length:=by simp[ByteArray.size]
 have hz2:¬(2000:Int)<(s'.length:Int):=by omega
 obtain⟨qn,hqn⟩:∃m,q.length=m:=⟨_,rfl⟩;rw[hqn]at CT;have HLO:Hid (lo<=b):=hs.1;clear h3 s1 s2 s3 s4 ho hbl hz hs hlg
 go_enter func216,ntmps216
 go_wp2_with (first
  | (go_at_call 255;refine Calls.mono CS.out ?_;rintro e w1 ⟨rfl,hb1⟩;have HB1:=hdz hb1;clear hb1)
  | (go_at_call 137;refine(CC.out _ HB1.out).mono ?_;rintro e w2 ⟨rfl,hb2⟩;have HB2:=hdz (HB1.out.trans (hb2.mono HB1.out.size));have y1:w2.cell? (Ad b 1)=some (.slice p E.length c1):=(zC HB2.out b 1 HB.out).trans X1.out;clear hb2)
  | (go_at_call 256;refine(CT.out _ HB2.out).mono ?_;rintro e w3 ⟨p',c',rfl,ho3,hb3⟩;have HO3:=hdz ho3.1;have HX3:Hid (opX lo w3 (.slice p' qn c') q):=JbY ho3;have HB3:=hdz (HB2.out.trans (hb3.mono HB2.out.size));have y0:w3.cell? (Ad b 0)=some (Sx t):=(zC HB3.out b 0 HB.out).trans X0.out;clear hb3 ho3)
  | (go_at_call 101;refine(CA.out _ _ HB3.out HO3.out).mono ?_;rintro e w4 ⟨rfl,hb4⟩;have HB4:=hdz (HB3.out.trans (hb4.mono HB3.out.size));obtain⟨zf,z1,vs,z2,z3,z4⟩:=PUSH.out q s' w4 _ HB4.out (Ja1 HX3.out hb4);have Z3:=hdz z3;have Z4:=hdz z4;have z0:w4.cell? (Ad b 0)=some (Sx t):=(zC HB4.out b 0 HB.out).trans X0.out;have HLS:Hid (lo<=b/\b<w4.heap.size):=⟨HLO.out,Nat.lt_of_lt_of_le HB.out HB4.out.size⟩;clear hb4 z3 z4)
  | (at_builtin;refine wpList_append_own _ rfl _ _ 82 rfl lo 154 i0 (.agg #[I6 0,I6 0,.slice none 0 0]) 3 40 underlying82 hi hq0 hq1 hq2 rfl (by decide) _ _ _ rfl Z3.out (Ad w4.heap.size 0) 1 1 [I6 c,I6 i,.slice p' qn c'] rfl rfl (JeW _ _ (by first | rfl | simp) _ _) (Jj1 _ _ _ _ _) (by unfold maxLen;omega) (by omega) (by have:=HLS.out;simp;omega) ?_))
 all_goals
  intro v2 w6 hown' hg' _
  have hg2:((w4.setCell (Ad b 0) (Sx s')).alloc (Oc #[I6 c,I6 i,.slice p' qn c'] 154)).grownBy w6 (Value.slice p E.length c1).ownBlock:=by
   first
    | exact hg'
    | (have e:c1=k:=by assumption
       rw[e];exact hg')
  obtain⟨y1,y2,y3,y4⟩:=Z4.out w6 v2 hown' hg2;have Y3:=hdz y3;have Y4:=hdz y4;obtain⟨p6,c6,rfl⟩:=Jak hown';clear hown' hg' hg2 y3 y4;go_wp2;go_ret;exact⟨rfl,Y3.out,Y4.out⟩
end
section
attribute [local go_sem] Oper.semAt_some
variable {lo n b bm : Nat}{w : World}{t : List UInt8}{E : List SE}{M : Told}
theorem Jsz(h:Jcv lo n w b bm t E M){l0:Int}(hk:okS l0 t E)(c i rev:Int)(v:Value)(ps:List Pt)(hT:Lib.Utf8Tabs 3 4 w)(hr:opAt w v ps)(hwf:∀p∈ps,wfP p)(hl:ps.length<=1000000)(hpu:Jaq ps<=40000)(hn:E.length<=300) :
    Cg 216 #[Pd b 0,I6 c,I6 i,I6 rev,v] w λe w'=>e=.returned (errV (doE l0 t E rev ps))/\Jcv lo n w' b bm (doT l0 t E rev ps) (doL l0 t E c i rev ps) M/\sameBut w w' (JdK lo w bm):=by
 by_cases h1:rev<0\/(E.length:Int)<rev
 . have hd:doE l0 t E rev ps=2:=if_pos h1
   refine(Jos h c i rev v h1).mono ?_;rintro e w' ⟨rfl,hb⟩;exact⟨by rw[hd],Jj2 h hb (by rw[hd];decide)⟩
 . obtain ⟨k,rfl⟩:∃k:Nat,rev=(k:Int):=⟨rev.toNat,by omega⟩
   have hkl:k<=E.length:=by omega
   have ek:((k:Int)).toNat=k:=rfl
   by_cases hfull:300<=E.length
   . have hd:doE l0 t E k ps=4:=by
       unfold doE;rw[if_neg h1,if_pos hfull]
     refine(Jsy h c i k v hkl hfull (by omega)).mono ?_;rintro e w' ⟨rfl,hb⟩;exact⟨by rw[hd],Jj2 h hb (by rw[hd];decide)⟩
   have e2:¬(300<=E.length):=hfull;have hn:E.length<300:=by omega
   by_cases hc:chkE ps (endE l0 (E.take k))=0
   . obtain ⟨p,c1,S,hlg⟩:=Jvx h hk k v ps hT hr hwf hl hpu hkl hn hc
     have hc1:E.length<=c1:=(Ji4 hlg).2.1
     by_cases ho:ordE (Jbq ps (E.drop k)) t=0
     . by_cases hz:2000<(Jae (Jbq ps (E.drop k)) t).length
       . have hd:doE l0 t E k ps=12:=by
           unfold doE;rw[if_neg h1,if_neg e2,ek,if_neg (by rw[hc];decide),if_neg (by rw[ho];decide),if_pos hz]
         refine(JqC c i k v ps hr hkl hn hc1 S ho hz).mono ?_;rintro e w' ⟨rfl,hb⟩;exact⟨by rw[hd],Jj2 h hb (by rw[hd];decide)⟩
       . have hd:doE l0 t E k ps=0:=by
           unfold doE;rw[if_neg h1,if_neg e2,ek,if_neg (by rw[hc];decide),if_neg (by rw[ho];decide),if_neg hz]
         refine(Juy c i k v ps hr hkl hn hc1 S ho (by omega) h hlg).mono ?_;rintro e w' ⟨rfl,ha,hb⟩;refine⟨by rw[hd];rfl,?_,hb⟩;unfold doT doL;rw[if_pos hd,if_pos hd];exact ha
     . have hd:doE l0 t E k ps=ordE (Jbq ps (E.drop k)) t:=by
         unfold doE;rw[if_neg h1,if_neg e2,ek,if_neg (by rw[hc];decide),if_pos ho]
       refine(Jou c i k v ps hr hkl hn hc1 S ho).mono ?_;rintro e w' ⟨rfl,hb⟩;exact⟨by rw[hd],Jj2 h hb (by rw[hd];exact ho)⟩
   . have hd:doE l0 t E k ps=chkE ps (endE l0 (E.take k)):=by
       unfold doE;rw[if_neg h1,if_neg e2,ek,if_pos hc]
     refine(Jot h hk c i k v ps hT hr hwf hl hkl hn hc).mono ?_;rintro e w' ⟨rfl,hb⟩;exact⟨by rw[hd],Jj2 h hb (by rw[hd];exact hc)⟩
theorem JiP(n:Int)(w:World)(hg:JbM w):Cg 93 #[errV n] w (Rt w (I6 n)):=by
 unfold errV
 by_cases h:n=0
 . subst h
   rw[if_pos rfl];refine(JvP w).mono ?_;rintro e w' ⟨rfl,rfl⟩;exact⟨rfl,brf _ _⟩
 . rw[if_neg h]
   exact JjO n w hg
theorem JqB(bm:Nat)(w:World):(binOp .eql 81 (.map (some bm)) (.map none)).run prog w=.ok (.bool false) w:=by kernel_rfl
attribute [local go_sem] JqB
theorem Jop(h:Jcv lo n w b bm t E M)(c i rev:Int)(hc:rng c)(v:Value)(hi:i<=(got M c).1) :
    Cg 165 #[Pd b 0,I6 c,I6 i,I6 rev,v] w (Rt w (errV (if i<(got M c).1 then 8 else (got M c).2))):=by
 obtain⟨_,_,⟨v1,h3,h4⟩,h5⟩:=h;have x2:=cQ h3 2 rfl;have L:Hid _:=Jjx h5 (t:=81) underlying81 (Jp4 w) hc;obtain⟨gp,hgp⟩:∃x,got M c=x:=⟨_,rfl⟩;rw[hgp]at hi L ⊢;obtain⟨g1,g2⟩:=gp;simp only at hi L ⊢;clear h3 h4 h5
 by_cases h1:i<g1
 . rw[if_pos h1,show errV 8=.iface 25 (I6 8) from rfl]
   go_enter func165,ntmps165
   go_wp2_with (rw[L.out])
   go_ret;exact⟨rfl,zA _ _⟩
 . rw [if_neg h1]
   have h2:¬g1<i:=by omega
   by_cases hz:g2=0
   . subst hz
     rw[show errV 0=.nilIface from rfl]
     go_enter func165,ntmps165
     go_wp2_with (rw[L.out])
     go_ret;exact⟨rfl,zA _ _⟩
   . rw[Jj0 hz]
     have hz2:(g2==0)=false:=by simpa using hz
     go_enter func165,ntmps165
     go_wp2_with (rw[L.out])
     go_ret;exact⟨rfl,zA _ _⟩
theorem Jfr{lo n:Nat}{w w':World}{b bm:Nat}{t:List UInt8}{E:List SE}{M:Told}{S:Nat->Prop}(h:Jcv lo n w b bm t E M)(hs:sameBut w w' S)(hS:∀k,k<w.heap.size->S k->lo<=k/\∃cs T fz,w.heap[k]?=some (.cells cs T fz)/\T≠96/\T≠84/\T≠154):Jcv lo n w' b bm t E M:=by
 obtain⟨h1,h2,⟨v1,h3,h4⟩,h5⟩:=h;have hs':sameBut w w' (λk=>k<w.heap.size/\S k):=⟨hs.1,λk hk hn=>hs.2 k hk λe=>hn ⟨hk,e⟩,hs.os,hs.tape,hs.output⟩;refine⟨h1,h2,⟨v1,(hs'.2 b (alt h3) λhk=>?_).trans h3,Jel h4 hs' λk hk=>?_⟩,JdU h5 hs' λhk=>?_⟩
 . obtain⟨_,cs,T,fz,hc,_,t2,_⟩:=hS b hk.1 hk.2
   exact t2 (JaB h3 hc).symm
 . obtain⟨a,cs,T,fz,hc,t1,_,t3⟩:=hS k hk.1 hk.2
   exact⟨a,Ja8 hc t1,λcs' fz' hc'=>t3 (JaB hc hc')⟩
 . obtain⟨_,cs,T,fz,hc,_⟩:=hS bm hk.1 hk.2
   exact Jb0 h5 _ _ _ hc
theorem JjG{w w':World}{S:Nat->Prop}(h:JbM w)(hs:sameBut w w' S)(hS:¬S 2):JbM w':=JcM hs h hS
theorem JgL{w w':World}{S:Nat->Prop}(h:Lib.Utf8Tabs 3 4 w)(hs:sameBut w w' S)(h1:¬S 3)(h2:¬S 4):Lib.Utf8Tabs 3 4 w' :=
 ⟨λc hc=>JcM hs (h.1 c hc) h1,λi hi=>⟨JcM hs (h.2 i hi).1 h2,JcM hs (h.2 i hi).2 h2⟩⟩
theorem Joq(h:Jcv lo n w b bm t E M){l0:Int}(hk:okS l0 t E)(c i rev:Int)(hc:rng c)(v:Value)(ps:List Pt)(hg:JbM w)(hG:2<lo)(hT:Lib.Utf8Tabs 3 4 w)(hr:opAt w v ps)(hwf:∀p∈ps,wfP p)(hl:ps.length<=1000000)(hpu:Jaq ps<=40000)(hn:E.length<=300)(hnn:n<1000000000)(hi:(got M c).1<i) :
    Cg 165 #[Pd b 0,I6 c,I6 i,I6 rev,v] w λe w'=>e=.returned (errV (doE l0 t E rev ps))/\Jcv lo (n+1) w' b bm (doT l0 t E rev ps) (doL l0 t E c i rev ps) (upd M c (i,doE l0 t E rev ps))/\sameBut w w' (JdK lo w bm):=by
 have CD:Hid (∀wx,Bw w wx->Cg 216 #[Pd b 0,I6 c,I6 i,I6 rev,v] wx λe w'=>e=.returned (errV (doE l0 t E rev ps))/\Jcv lo n w' b bm (doT l0 t E rev ps) (doL l0 t E c i rev ps) M/\sameBut wx w' (JdK lo wx bm)):=λwx hb =>
  Jsz (Jc4 h hb) hk c i rev v ps (Go.Proofs.Utf8Tabs_below hT hb) (JaJ hr hb (nlr _)) hwf hl hpu hn
 have HG:Hid (JbM w/\2<lo):=⟨hg,hG⟩;have hsh:∃p c,v=.slice p ps.length c:=by obtain⟨p,c,e,_⟩:=hr;exact⟨p,c,e⟩
 obtain⟨pv,cv,rfl⟩:=hsh;obtain⟨hlo,_,⟨v1,h3,h4⟩,h5⟩:=h;have x2:=cQ h3 2 rfl;have L:Hid _:=Jjx h5 (t:=81) underlying81 (Jp4 w) hc;have HLS:Hid (lo<=w.heap.size):=Nat.le_of_lt (Nat.lt_of_le_of_lt hlo (alt h3));have HC:Hid (rng c):=hc;obtain⟨gp,hgp⟩:∃x,got M c=x:=⟨_,rfl⟩;rw[hgp]at hi L;obtain⟨g1,g2⟩:=gp;simp only at hi L;have hi2:¬i<g1:=by omega
 obtain⟨β,hβ⟩:∃β,w.heap.size=β:=⟨_,rfl⟩;have HBT:Hid (w.heap.size=β):=hβ;generalize hd:doE l0 t E rev ps=d at *;generalize doT l0 t E rev ps=t' at *;generalize doL l0 t E c i rev ps=E' at *;have hbβ:b≠β:=λe=>Nat.lt_irrefl _ (by have:=(alt h3);rw[hβ,←e]at this;exact this)
 have BOX:Hid (∀w1 w2,sameBut (w.alloc (Oc #[I6 g1,I6 g2] 271)) w1 (JdK lo (w.alloc (Oc #[I6 g1,I6 g2] 271)) bm)->Jcv lo n w1 b bm t' E' M->Bw w1 w2->w2.heap[β]?=some (Oc #[I6 g1,I6 g2] 271)/\w2.cell? (Ad b 2)=some (.map (some bm))/\Jcv lo n w2 b bm t' E' M/\sameBut w w2 (JdK lo w bm)):=λw1 w2 hs1 hi1 hb2=>by
  have hal:=heap_alloc_new w (Oc #[I6 g1,I6 g2] 271);have hbw:Bw w (w.alloc (Oc #[I6 g1,I6 g2] 271)):=zA _ _;have hi2:=Jc4 hi1 hb2
  have hb1:w1.heap[β]?=some (Oc #[I6 g1,I6 g2] 271):=by
   rw[←hβ];refine(hs1.2 _ (by simp) λhk=>?_).trans hal
   rcases hk.2 with e|⟨cs,T,hc,ht⟩
   . exact Jb0 (JdU (S:=λ_=>False) h5 (Jai hbw _) id) _ _ _ (e ▸ hal)
   . have:=JaB hal hc
     subst this;revert ht;decide
  obtain⟨_,_,⟨v2,e3,_⟩,_⟩:=id hi2;refine⟨(hb2.block β (alt hb1)).trans hb1,chp e3 2,hi2,?_⟩;refine((Jai hbw (JdK lo w bm)).comp hs1 λk hk hS=>⟨hS.1,hS.2.imp id λ⟨cs,T,hc,ht⟩=>⟨cs,T,(hbw.block k hk).symm.trans hc,ht⟩⟩).comp (Jai hb2 (λ_=>False)) λ_ _ h=>h.elim
 clear h3 h4 h5 hgp hk hg hG hT hr hwf hl hpu hn hc hlo
 go_enter func165,ntmps165
 go_wp2_with (first
  | (rw[L.out])
  | (go_at_call 216;refine(CD.out _ (zA _ _)).mono ?_;rintro e w1 ⟨rfl,hs1,hb1⟩;have HS1:=hdz hs1;have HB1:=hdz hb1;have HGW:Hid (JbM w1):=JjG (JaQ HG.out.1 (zA _ _)) hb1 (λhk=>absurd hk.1 (Nat.not_le.2 HG.out.2));clear hs1 hb1)
  | (go_at_call 93;refine(JiP d _ HGW.out).mono ?_;rintro e w2 ⟨rfl,hb2⟩;obtain⟨b1,b2,b3,b4⟩:=BOX.out _ w2 HB1.out HS1.out hb2;have B1:=hdz b1;have B3:=hdz b3;have B4:=hdz b4;have x0:=cQ b1 0 rfl;have x1:=cQ b1 1 rfl;have f0:=fZ b1 0;have f1:=fZ b1 1;clear hb2 b1 b3 b4))
 obtain⟨W,hW⟩:∃W,W=(w2.setCell (Ad β 0) (I6 i)).setCell (Ad β 1) (I6 d):=⟨_,rfl⟩;have W3:W.heap[β]?=some (Oc #[I6 i,I6 d] 271):=by
  rw[hW];exact heap_setCell_same _ β 1 _ _ _ (heap_setCell_same _ β 0 _ _ _ B1.out)
 have hsW:sameBut w2 W (λk=>k=β):=by rw[hW];exact(Jat (S:=λk=>k=β) rfl).trans (Jat (S:=λk=>k=β) rfl)
 have hloβ:lo<=β:=HBT.out ▸ HLS.out;have HW:Hid (Jcv lo n W b bm t' E' M):=Jfr B3.out hsW λk _ hk=>by
  obtain rfl:=hk;exact⟨hloβ,_,_,_,B1.out,by decide,by decide,by decide⟩
 rw[←hW];have HSW:Hid (sameBut w W (JdK lo w bm)):=sameBut.comp B4.out hsW λk hk e=>by
  have:=HBT.out;omega
 have Y:∃v1,W.heap[b]?=some (Oc #[Sx t',v1,.map (some bm)] 84):=by
  obtain⟨_,_,⟨v1,e3,_⟩,_⟩:=HW.out;exact⟨v1,e3⟩
 obtain⟨v3,hY⟩:=Y;have y2:=cQ hY 2 rfl;have z0:=cQ W3 0 rfl;have z1:=cQ W3 1 rfl;have hLd:Jf0 n W.drew bm M:=HW.out.2.2.2;obtain⟨w5,hput,hl5,ht5⟩:=Jrl hLd (by omega) (t:=81) underlying81 HC.out i d;have hs5:sameBut W w5 (λk=>k=bm):=have h:sameBut W.drew w5 (λk=>k=bm):=Jok (w:=W.drew) ht5 rfl;⟨h.1,h.2,h.os,h.tape,h.output⟩;have hβm:β≠bm:=λe=>Jb0 HW.out.2.2.2 _ _ _ (e ▸ W3);have W5:w5.heap[β]?=some (Oc #[I6 i,I6 d] 271):=(hs5.2 β (alt W3) hβm).trans W3;have u1:=cQ W5 1 rfl;have FIN:Hid (Jcv lo (n+1) w5 b bm t' E' (upd M c (i,d))/\sameBut w w5 (JdK lo w bm)):=by
  obtain⟨e1,e2,⟨v4,e3,e4⟩,e5⟩:=HW.out;refine⟨⟨e1,e2,⟨v4,(hs5.2 b (alt e3) λe=>Jb0 e5 _ _ _ (e ▸ e3)).trans e3,Jel e4 hs5 λk hk=>?_⟩,hl5⟩,sameBut.comp HSW.out hs5 λk _ hk=>by obtain rfl:=hk;exact⟨e2,.inl rfl⟩⟩;obtain rfl:=hk;exact⟨e2,λcs fz=>Jb0 e5 _ _ _,λcs fz=>Jb0 e5 _ _ _⟩
 have HPUT:=hdz hput;clear hW W3 hsW hLd hput hl5 ht5 hs5 W5 hY x0 x1 f0 f1 b2
 by_cases hz:d=0
 . subst hz
   rw[show errV 0=.nilIface from rfl]at *
   go_region_with (rw[HPUT.out])
   all_goals
    go_wp2;go_ret;exact⟨rfl,FIN.out⟩
 . have hz2:(d==0)=false:=by simpa using hz
   go_region_with (rw[HPUT.out])
   all_goals
    go_wp2;go_ret;refine⟨?_,FIN.out⟩
    first | rfl | (rw[Jj0 hz];rfl)
end
section
attribute [local go_sem] Oper.semAt_some
theorem Jsx{lo n:Nat}{w:World}{b bm:Nat}{t:List UInt8}{E:List SE}{M:Told}(h:Jcv lo n w b bm t E M){l0:Int}(hok:okS l0 t E)(k:Nat)(hk:k<=E.length)(hn:E.length<=1000) :
    Cg 217 #[Pd b 0,I6 (k:Int)] w λe w'=>∃v',e=.returned (.tuple #[v',.nilIface])/\JcY 154 lo w.heap.size w' v' (E.drop k)/\Bw w w':=by
 have CR:Hid _:=Jkv lo n w b bm t E M h;have CD:Hid _:=JiS lo n w b bm t E M h;obtain⟨hlo,_,⟨v1,h3,h4⟩,_⟩:=h;obtain⟨p,c1,rfl⟩:=JbH h4;have x1:=cQ h3 1 rfl;have HX1:=hdz x1;have HE:=hdz (Jnl (Ji4 h4) hk);have HLO:Hid (lo<=w.heap.size):=Nat.le_of_lt (Nat.lt_of_le_of_lt hlo (alt h3));have hc1:=(Ji4 h4).2.1;have HOK:Hid (∀x∈E.drop k,(∀q∈x.op,q.put.length<=10000000)/\x.op.length<=10000000):=λx hx=>by
  obtain⟨j,hj,rfl⟩:=List.getElem_of_mem (List.mem_of_mem_drop hx);obtain⟨t1,t2,t3,t4,t5⟩:=JiB E l0 j hj hok.chain hok.top;have hb1:endE l0 (E.take j)+Jaq E[j].op<1000000:=by omega
  exact⟨λq hq=>by have:=Je1 q _ hq;omega,Nat.le_of_lt (t2.fine hb1).len⟩
 have hdl:(E.drop k).length=E.length - k:=List.length_drop;generalize hF:E.drop k=F at *;have h0:¬(k:Int)<0:=by omega
 have h1:¬(E.length:Int)<(k:Int):=by omega
 have h2:(k:Int)<=(E.length:Int):=by omega
 have HN:=hdz hdl.symm;have HNN:Hid (F.length<=1000):=by rw[hdl];exact Nat.le_trans (Nat.sub_le _ _) hn
 obtain⟨i0,hi,hq0,hq1,hq2⟩:=info_parts Jjy;have HI:=hdz hi;have HQ0:=hdz hq0;have HQ1:=hdz hq1;have HQ2:=hdz hq2;clear hi hq0 hq1 hq2;clear h3 h4 hok hdl hlo x1;have hFL:=HN.out;have hni:(F.length:Int)<=1000:=by have:=HNN.out;omega
 by_cases hck:c1=k
 . rw [if_pos hck, hck,Nat.sub_self,hFL]at HE
   rw[hck]at HX1
   go_enter func217,ntmps217
   go_wp2_with (first
    | (go_at_call 115;refine Calls.mono CR.out ?_;rintro e w1 ⟨hw,rfl⟩;obtain rfl:=hw.symm)
    | (go_at_call 169;refine Calls.mono CD.out ?_;rintro e w1 ⟨hw,v1',rfl,hcc,_⟩;obtain rfl:=hw.symm;rw[HX1.out]at hcc;obtain rfl:=(osi hcc).symm;clear hcc))
   all_goals
    go_loopw [6,23] (λv6 i wr=>∃j:Nat,i=.int .i64 j/\j<=F.length/\JcY 154 lo w.heap.size wr v6 (F.take j)/\Bw w wr) (λ_ i _=>F.length - (intOf i).toNat)
    case atStart=>exact⟨0,rfl,Nat.zero_le _,Jjw _ _ _ _,brf _ _⟩
    case round =>
     obtain⟨j,rfl,hj,hown,hbw⟩:=hrel;obtain⟨p6,c6,rfl⟩:=JbH hown;have hjl:(F.take j).length=j:=by rw[List.length_take];omega
     rw[hjl];have HOW:Hid (JcY 154 lo w.heap.size wr (.slice p6 j c6) (F.take j)):=by
      have:=hown;rw[hjl]at this;exact this
     have HBW:=hdz hbw;have hws:=hbw.size;have HWS:=hdz hws;have HJL:=hdz hjl;have hjle:=hown
     by_cases hlt:j<F.length
     . have hne : F≠[]:=by intro e;rw[e]at hlt;exact absurd hlt (Nat.not_lt_zero _)
       have hcell0:=HE.out.2.2.2;obtain⟨g,o,ePP,hg,hcell⟩:=hcell0 hne;clear hcell0;subst ePP;obtain⟨ve,f0,f1,f2,f3⟩:=hcell j F[j] (lgg hlt);have g0:=(zC HBW.out g (o+j*3) hg).trans f0;have g1:=(zC HBW.out g (o+j*3+1) hg).trans f1;have g2:=(zC HBW.out g (o+j*3+2) hg).trans f2;have HX:Hid (opAt wr ve F[j].op):=JaJ f3.1 HBW.out (nlr _);have HTK:=hdz (List.take_succ_eq_append_getElem hlt);have HPL:Hid _:=HOK.out F[j] (List.getElem_mem hlt);have hki:(j:Int)<(F.length:Int):=by omega
       have hsh:∃p c,ve=.slice p F[j].op.length c:=by obtain⟨p,c,e,_⟩:=HX.out;exact⟨p,c,e⟩
       obtain⟨pe,ce,rfl⟩:=hsh;clear hcell f0 f1 f2 f3 hne hown hbw hjle;generalize F[j]=x at *;obtain⟨xc,xi,xo⟩:=x;simp only at g0 g1 g2 HX HPL;obtain⟨xn,hxn⟩:∃m,xo.length=m:=⟨_,rfl⟩;rw[hxn]at g2 HX;have HXN:=hdz hxn
       have CO:Hid (∀wx,Bw wr wx->Cg 257 #[.slice pe xn ce] wx λe w'=>∃p' c',e=.returned (.slice p' xn c')/\opX lo w' (.slice p' xn c') xo/\Bw wx w'):=λwx hb =>
        (JoI _ xo wx (JaJ HX.out hb (nlr _)) HPL.out.1 HPL.out.2).mono λe w' ⟨v',e1,ho,hb'⟩=>by
          obtain⟨p',c',rfl⟩:=Jak ho;rw[HXN.out]at e1 ho;exact⟨p',c',e1,JsM (by rw[HXN.out];exact ho),hb'⟩
       obtain⟨β,hβ⟩:∃β,wr.heap.size=β:=⟨_,rfl⟩;have HBT:=hdz hβ;clear hxn hjl hFL hck HN HOK
       go_wp2_with (first
        | (go_at_call 257;refine(CO.out _ (zA _ _)).mono ?_;rintro e w2 ⟨p',c',rfl,hx2,hb2⟩;have hbox:w2.heap[β]?=some (.cells #[I6 xc,I6 xi,.slice pe xn ce] 154 (0,0)):=(hb2.block β (by rw[wsa,HBT.out];omega)).trans (by have:=heap_alloc_new wr (.cells #[I6 xc,I6 xi,.slice pe xn ce] 154);rwa[HBT.out]at this);have y0:=cQ hbox 0 rfl;have y1:=cQ hbox 1 rfl;have y2:=cQ hbox 2 rfl;have xf:=fZ hbox 2;have HB2:Hid (Bw w w2):=(HBW.out.alloc HWS.out _).trans (hb2.mono (by rw[wsa];have:=HWS.out;omega));have hs2:β+1<=w2.heap.size:=by have:=hb2.size;rw[wsa,HBT.out]at this;exact this
           have HS2:=hdz hs2;have HLW:Hid (lo<=β):=by have:=HLO.out;have:=HWS.out;have:=HBT.out;show lo<=β;omega
           have hlg2:JcY 154 lo w.heap.size w2 (.slice p6 j c6) (F.take j):=JcX (JcX HOW.out (zA _ _)) hb2;have hnp:Jdb w2 β:=Ja8 hbox (by decide);have hset:sameBut w2 (w2.setCell (Ad β 2) (.slice p' xn c')) (λk=>k=β):=Jat rfl
           have hlg3:∃vs,vs.length=(F.take j).length/\((w2.setCell (Ad β 2) (.slice p' xn c')).alloc (.cells #[I6 xc,I6 xi,.slice p' xn c'] 154)).ownsRow w.heap.size 154 3 (.slice p6 j c6) j (logC (F.take j) vs)/\∀w6 v2,w6.ownsRow w.heap.size 154 3 v2 (j+1) (logC (F.take j) vs++[I6 xc,I6 xi,.slice p' xn c'])->((w2.setCell (Ad β 2) (.slice p' xn c')).alloc (.cells #[I6 xc,I6 xi,.slice p' xn c'] 154)).grownBy w6 (Value.slice p6 j c6).ownBlock->JcY 154 lo w.heap.size w6 v2 (F.take j++[⟨xc,xi,xo⟩]):=by
            obtain⟨vs,q1,q2,q3⟩:=hlg2;have hbw3:Below (w2.setCell (Ad β 2) (.slice p' xn c')).heap.size (w2.setCell (Ad β 2) (.slice p' xn c')) ((w2.setCell (Ad β 2) (.slice p' xn c')).alloc (.cells #[I6 xc,I6 xi,.slice p' xn c'] 154)):=zA _ _;have hmv:∀{v q},opX lo w2 v q->opX lo ((w2.setCell (Ad β 2) (.slice p' xn c')).alloc (.cells #[I6 xc,I6 xi,.slice p' xn c'] 154)) v q:=λhx=>Ja1 (Jjj hx hset λk hk=>by obtain rfl:=hk;exact⟨HLW.out,hnp⟩) hbw3;have hnb:∀k,(Value.slice p6 j c6).ownBlock=some k->k<β:=λk hk=>by
             have:=(Jg8 HOW.out hk).2.1;have:=HBT.out;omega
            have q2':=Jbl (JlQ q2 hnb (.slice p' xn c')) hbw3;rw[HJL.out]at q2';refine⟨vs,q1,q2',λw6 v2 hn6 hg6=>?_⟩;refine JhA (x:=⟨xc,xi,xo⟩) (by decide) HLO.out q1 (by rw[HJL.out];exact q2') (λi y v hy hv=>hmv (q3 i y v hy hv)) (hmv hx2) hg6 ?_;rw[HJL.out];exact hn6
           obtain⟨vs,m1,m2,m3⟩:=hlg3;have M2:=hdz m2;have M3:=hdz m3
           clear hb2 hbox hlg2 hnp hset m2 m3 hx2)
        | (at_builtin;refine wpList_append_own _ rfl _ _ 82 rfl w.heap.size 154 i0 (.agg #[I6 0,I6 0,.slice none 0 0]) 3 40 underlying82 HI.out HQ0.out HQ1.out HQ2.out rfl (by decide) _ _ _ rfl M2.out (Ad w2.heap.size 0) 1 1 [I6 xc,I6 xi,.slice p' xn c'] rfl rfl (JeW _ _ (by first | rfl | simp) _ _) (Jj1 _ _ _ _ _) (by have:=HNN.out;unfold maxLen;omega) (by have:=HNN.out;omega) (by have:=HB2.out.size;simp;omega) ?_))
       all_goals
        intro v2 w6 hown' hg' _;obtain⟨p7,c7,rfl⟩:=Jak hown';have HO3:Hid (JcY 154 lo w.heap.size w6 (.slice p7 (j+1) c7) (F.take (j+1))):=by
         rw[HTK.out];exact M3.out w6 _ hown' hg'
        have HB3:Hid (Bw w w6):=((HB2.out.setCell (p:=(Ad β 2)) (by show w.heap.size<=β;have:=HWS.out;have:=HBT.out;omega) _).alloc (by rw[World.size_setCell];exact HB2.out.size) _).grown hg' (by simp;have:=HB2.out.size;omega) λk hk=>(Jg8 HOW.out hk).1;clear hown' hg' y0 y1 y2 xf g0 g1 g2;go_wp2;exact⟨⟨j+1,by go_num,by omega,HO3.out,HB3.out⟩,by simp[intOf];omega⟩
     . obtain rfl:j=F.length:=by omega
       have hki:¬((F.length:Int)<(F.length:Int)):=by omega
       have HTK:Hid (F.take F.length=F):=List.take_length;clear hown hbw hjle;go_wp2
       go_ret2
       have:=HOW.out;rw[HTK.out]at this;exact⟨_,rfl,this,HBW.out⟩
 . rw [if_neg hck, hFL]at HE
   go_enter func217,ntmps217
   go_wp2_with (first
    | (go_at_call 115;refine Calls.mono CR.out ?_;rintro e w1 ⟨hw,rfl⟩;obtain rfl:=hw.symm)
    | (go_at_call 169;refine Calls.mono CD.out ?_;rintro e w1 ⟨hw,v1',rfl,hcc,_⟩;obtain rfl:=hw.symm;rw[HX1.out]at hcc;obtain rfl:=(osi hcc).symm;clear hcc))
   all_goals
    generalize Option.map (λx=>x.add (k*3)) p=P at *
    go_loopw [6,23] (λv6 i wr=>∃j:Nat,i=.int .i64 j/\j<=F.length/\JcY 154 lo w.heap.size wr v6 (F.take j)/\Bw w wr) (λ_ i _=>F.length - (intOf i).toNat)
    case atStart=>exact⟨0,rfl,Nat.zero_le _,Jjw _ _ _ _,brf _ _⟩
    case round =>
     obtain⟨j,rfl,hj,hown,hbw⟩:=hrel;obtain⟨p6,c6,rfl⟩:=JbH hown;have hjl:(F.take j).length=j:=by rw[List.length_take];omega
     rw[hjl];have HOW:Hid (JcY 154 lo w.heap.size wr (.slice p6 j c6) (F.take j)):=by
      have:=hown;rw[hjl]at this;exact this
     have HBW:=hdz hbw;have hws:=hbw.size;have HWS:=hdz hws;have HJL:=hdz hjl;have hjle:=hown
     by_cases hlt:j<F.length
     . have hne : F≠[]:=by intro e;rw[e]at hlt;exact absurd hlt (Nat.not_lt_zero _)
       have hcell0:=HE.out.2.2.2;obtain⟨g,o,ePP,hg,hcell⟩:=hcell0 hne;clear hcell0;subst ePP;obtain⟨ve,f0,f1,f2,f3⟩:=hcell j F[j] (lgg hlt);have g0:=(zC HBW.out g (o+j*3) hg).trans f0;have g1:=(zC HBW.out g (o+j*3+1) hg).trans f1;have g2:=(zC HBW.out g (o+j*3+2) hg).trans f2;have HX:Hid (opAt wr ve F[j].op):=JaJ f3.1 HBW.out (nlr _);have HTK:=hdz (List.take_succ_eq_append_getElem hlt);have HPL:Hid _:=HOK.out F[j] (List.getElem_mem hlt);have hki:(j:Int)<(F.length:Int):=by omega
       have hsh:∃p c,ve=.slice p F[j].op.length c:=by obtain⟨p,c,e,_⟩:=HX.out;exact⟨p,c,e⟩
       obtain⟨pe,ce,rfl⟩:=hsh;clear hcell f0 f1 f2 f3 hne hown hbw hjle;generalize F[j]=x at *;obtain⟨xc,xi,xo⟩:=x;simp only at g0 g1 g2 HX HPL;obtain⟨xn,hxn⟩:∃m,xo.length=m:=⟨_,rfl⟩;rw[hxn]at g2 HX;have HXN:=hdz hxn
       have CO:Hid (∀wx,Bw wr wx->Cg 257 #[.slice pe xn ce] wx λe w'=>∃p' c',e=.returned (.slice p' xn c')/\opX lo w' (.slice p' xn c') xo/\Bw wx w'):=λwx hb =>
        (JoI _ xo wx (JaJ HX.out hb (nlr _)) HPL.out.1 HPL.out.2).mono λe w' ⟨v',e1,ho,hb'⟩=>by
          obtain⟨p',c',rfl⟩:=Jak ho;rw[HXN.out]at e1 ho;exact⟨p',c',e1,JsM (by rw[HXN.out];exact ho),hb'⟩
       obtain⟨β,hβ⟩:∃β,wr.heap.size=β:=⟨_,rfl⟩;have HBT:=hdz hβ;clear hxn hjl hFL hck HN HOK
       go_wp2_with (first
        | (go_at_call 257;refine(CO.out _ (zA _ _)).mono ?_;rintro e w2 ⟨p',c',rfl,hx2,hb2⟩;have hbox:w2.heap[β]?=some (.cells #[I6 xc,I6 xi,.slice pe xn ce] 154 (0,0)):=(hb2.block β (by rw[wsa,HBT.out];omega)).trans (by have:=heap_alloc_new wr (.cells #[I6 xc,I6 xi,.slice pe xn ce] 154);rwa[HBT.out]at this);have y0:=cQ hbox 0 rfl;have y1:=cQ hbox 1 rfl;have y2:=cQ hbox 2 rfl;have xf:=fZ hbox 2;have HB2:Hid (Bw w w2):=(HBW.out.alloc HWS.out _).trans (hb2.mono (by rw[wsa];have:=HWS.out;omega));have hs2:β+1<=w2.heap.size:=by have:=hb2.size;rw[wsa,HBT.out]at this;exact this
           have HS2:=hdz hs2;have HLW:Hid (lo<=β):=by have:=HLO.out;have:=HWS.out;have:=HBT.out;show lo<=β;omega
           have hlg2:JcY 154 lo w.heap.size w2 (.slice p6 j c6) (F.take j):=JcX (JcX HOW.out (zA _ _)) hb2;have hnp:Jdb w2 β:=Ja8 hbox (by decide);have hset:sameBut w2 (w2.setCell (Ad β 2) (.slice p' xn c')) (λk=>k=β):=Jat rfl
           have hlg3:∃vs,vs.length=(F.take j).length/\((w2.setCell (Ad β 2) (.slice p' xn c')).alloc (.cells #[I6 xc,I6 xi,.slice p' xn c'] 154)).ownsRow w.heap.size 154 3 (.slice p6 j c6) j (logC (F.take j) vs)/\∀w6 v2,w6.ownsRow w.heap.size 154 3 v2 (j+1) (logC (F.take j) vs++[I6 xc,I6 xi,.slice p' xn c'])->((w2.setCell (Ad β 2) (.slice p' xn c')).alloc (.cells #[I6 xc,I6 xi,.slice p' xn c'] 154)).grownBy w6 (Value.slice p6 j c6).ownBlock->JcY 154 lo w.heap.size w6 v2 (F.take j++[⟨xc,xi,xo⟩]):=by
            obtain⟨vs,q1,q2,q3⟩:=hlg2;have hbw3:Below (w2.setCell (Ad β 2) (.slice p' xn c')).heap.size (w2.setCell (Ad β 2) (.slice p' xn c')) ((w2.setCell (Ad β 2) (.slice p' xn c')).alloc (.cells #[I6 xc,I6 xi,.slice p' xn c'] 154)):=zA _ _;have hmv:∀{v q},opX lo w2 v q->opX lo ((w2.setCell (Ad β 2) (.slice p' xn c')).alloc (.cells #[I6 xc,I6 xi,.slice p' xn c'] 154)) v q:=λhx=>Ja1 (Jjj hx hset λk hk=>by obtain rfl:=hk;exact⟨HLW.out,hnp⟩) hbw3;have hnb:∀k,(Value.slice p6 j c6).ownBlock=some k->k<β:=λk hk=>by
             have:=(Jg8 HOW.out hk).2.1;have:=HBT.out;omega
            have q2':=Jbl (JlQ q2 hnb (.slice p' xn c')) hbw3;rw[HJL.out]at q2';refine⟨vs,q1,q2',λw6 v2 hn6 hg6=>?_⟩;refine JhA (x:=⟨xc,xi,xo⟩) (by decide) HLO.out q1 (by rw[HJL.out];exact q2') (λi y v hy hv=>hmv (q3 i y v hy hv)) (hmv hx2) hg6 ?_;rw[HJL.out];exact hn6
           obtain⟨vs,m1,m2,m3⟩:=hlg3;have M2:=hdz m2;have M3:=hdz m3
           clear hb2 hbox hlg2 hnp hset m2 m3 hx2)
        | (at_builtin;refine wpList_append_own _ rfl _ _ 82 rfl w.heap.size 154 i0 (.agg #[I6 0,I6 0,.slice none 0 0]) 3 40 underlying82 HI.out HQ0.out HQ1.out HQ2.out rfl (by decide) _ _ _ rfl M2.out (Ad w2.heap.size 0) 1 1 [I6 xc,I6 xi,.slice p' xn c'] rfl rfl (JeW _ _ (by first | rfl | simp) _ _) (Jj1 _ _ _ _ _) (by have:=HNN.out;unfold maxLen;omega) (by have:=HNN.out;omega) (by have:=HB2.out.size;simp;omega) ?_))
       all_goals
        intro v2 w6 hown' hg' _;obtain⟨p7,c7,rfl⟩:=Jak hown';have HO3:Hid (JcY 154 lo w.heap.size w6 (.slice p7 (j+1) c7) (F.take (j+1))):=by
         rw[HTK.out];exact M3.out w6 _ hown' hg'
        have HB3:Hid (Bw w w6):=((HB2.out.setCell (p:=(Ad β 2)) (by show w.heap.size<=β;have:=HWS.out;have:=HBT.out;omega) _).alloc (by rw[World.size_setCell];exact HB2.out.size) _).grown hg' (by simp;have:=HB2.out.size;omega) λk hk=>(Jg8 HOW.out hk).1;clear hown' hg' y0 y1 y2 xf g0 g1 g2;go_wp2;exact⟨⟨j+1,by go_num,by omega,HO3.out,HB3.out⟩,by simp[intOf];omega⟩
     . obtain rfl:j=F.length:=by omega
       have hki:¬((F.length:Int)<(F.length:Int)):=by omega
       have HTK:Hid (F.take F.length=F):=List.take_length;clear hown hbw hjle;go_wp2
       go_ret2
       have:=HOW.out;rw[HTK.out]at this;exact⟨_,rfl,this,HBW.out⟩
structure okD (l0:Int) (t:List UInt8) (E:List SE) (D:List (List UInt8)):Prop where
 len:D.length=E.length+1
 at_:∀k,k<=E.length->∃d,D[k]?=some d/\(d.length:Int)=endE l0 (E.take k)
 last:D[E.length]?=some t
def doD (l0:Int) (t:List UInt8) (E:List SE) (D:List (List UInt8)) (rev:Int) (ps:List Pt):List (List UInt8):=if doE l0 t E rev ps=0 then D++[Jae (Jbq ps (E.drop rev.toNat)) t] else D
theorem JuN{l0:Int}{t:List UInt8}{E:List SE}{D:List (List UInt8)}(h:okS l0 t E)(hD:okD l0 t E D){ps:List Pt}{c i rev:Int}(hp:Jaq ps<=40000):okS l0 (doT l0 t E rev ps) (doL l0 t E c i rev ps)/\okD l0 (doT l0 t E rev ps) (doL l0 t E c i rev ps) (doD l0 t E D rev ps):=by
 unfold doT doL doD
 by_cases hd:doE l0 t E rev ps=0
 . rw [if_pos hd,if_pos hd,if_pos hd]
   have hn:=do_next (c:=c) (i:=i) h hp hd;refine⟨hn,⟨by simp[hD.len],λk hk=>?_,?_⟩⟩
   . rw [List.length_append,List.length_singleton]at hk
     rcases Nat.lt_or_ge k (E.length+1) with hlt|hge
     . obtain⟨d,h1,h2⟩:=hD.at_ k (by omega)
       refine⟨d,by rw[List.getElem?_append_left (by rw[hD.len];exact hlt)];exact h1,?_⟩;rw[List.take_append_of_le_length (by omega)];exact h2
     . obtain rfl:k=E.length+1:=by omega
       refine⟨_,by rw[List.getElem?_append_right (by rw[hD.len];exact nlr _),hD.len,Nat.sub_self];rfl,?_⟩;have e:(E++[(⟨c,i,Jbq ps (E.drop rev.toNat)⟩:SE)]).take (E.length+1)=E++[⟨c,i,Jbq ps (E.drop rev.toNat)⟩]:=List.take_of_length_le (by simp);rw[e];exact hn.last.symm
   . rw[List.length_append,List.length_singleton,List.getElem?_append_right (by rw[hD.len];exact nlr _),hD.len,Nat.sub_self]
     rfl
 . rw[if_neg hd,if_neg hd,if_neg hd]
   exact⟨h,hD⟩
theorem JqA(t:TypeId)(w:World):(Instr.makeMap t none).run prog w=.ok (.map (some w.heap.size)) (w.alloc (.map #[] 0)):=rfl
attribute [local go_sem] JqA
theorem Jq9(s:List UInt8)(hs:s.length<=1000000)(hsc:(scan s).2=false)(w:World)(hT:Lib.Utf8Tabs 3 4 w):Cg 23 #[Sx s] w λe w'=>∃x w1,e=.returned (.tuple #[.pointer none,x])/\isAt w w1 x (Jgq s)/\Bw w1 w'/\Bw w w':=by
 have cC:Hid (Cg 47 #[Sx s] w λe w'=>∃b,e=.returned (.tuple #[cnt 0 0 0 0,.iface 229 (Pd b 0)])/\isAt w w' (.iface 229 (Pd b 0)) (Jgq s)/\Bw w w') :=
  (JfS ⟨s.toArray⟩ (by simp[ByteArray.size];omega) w hT).mono λe w' ⟨v,x,h1,h2,h3⟩=>by
    have e0:(ByteArray.mk s.toArray).data.toList=s:=rfl;rw[e0]at h3
    rcases h3 with ⟨h4,_⟩|⟨_,rfl,h5⟩
    . rw[hsc]at h4;cases h4
    . have h6:=h5
      obtain⟨b,rfl,_⟩:=h6;exact⟨b,h1,h5,h2⟩
 unfold cnt at cC;clear hT hs hsc;generalize ByteArray.mk s.toArray=S at *
 go_enter func23,ntmps23
 go_wp2_with (go_at_call 47;refine Calls.mono cC.out ?_;rintro e w1 ⟨b,rfl,hi,hb1⟩;have HI:=hdz hi;have HB1:=hdz hb1;clear hi hb1)
 go_ret2
 exact⟨_,w1,rfl,HI.out,zA _ _,HB1.out.alloc HB1.out.size _⟩
theorem Jf6(s:List UInt8)(hs:s.length<=1000000)(hsc:(scan s).2=true)(w:World)(hT:Lib.Utf8Tabs 3 4 w):Cg 47 #[Sx s] w λe w'=>∃n1 n2 n3 n4,e=.returned (.tuple #[.agg #[I6 n1,I6 n2,I6 n3,I6 n4],.nilIface])/\Bw w w' :=
 (JfS ⟨s.toArray⟩ (by simp[ByteArray.size];omega) w hT).mono λe w' ⟨v,x,h1,h2,h3⟩=>by
   have e0:(ByteArray.mk s.toArray).data.toList=s:=rfl;rw[e0]at h3
   rcases h3 with ⟨_,rfl,rfl⟩|⟨h4,_⟩
   . exact⟨_,_,_,_,h1,h2⟩
   . rw[hsc]at h4;cases h4
theorem JiR(lo:Nat)(s:List UInt8)(hz:s.length<=2000)(hsc:(scan s).2=true)(w:World)(hlo:lo<=w.heap.size)(hT:Lib.Utf8Tabs 3 4 w):Cg 23 #[Sx s] w λe w'=>∃b bm,e=.returned (.tuple #[Pd b 0,.nilIface])/\Jcv lo 0 w' b bm s [] (λ_=>none)/\bm<w'.heap.size/\Bw w w':=by
 have cC:Hid _:=Jf6 s (by omega) hsc w hT;have CL:=hdz λwx=>Jgi s (by omega) wx;have hz1:(ByteArray.mk s.toArray).size=s.length:=by simp[ByteArray.size]
 have hz2:¬(2000:Int)<(s.length:Int):=by omega
 have HLO:=hdz hlo;clear hT hsc hz hlo
 go_enter func23,ntmps23
 go_wp2_with (first
  | (go_at_call 47;refine Calls.mono cC.out ?_;rintro e w1 ⟨n1,n2,n3,n4,rfl,hb1⟩;have HB1:=hdz hb1;clear hb1)
  | (go_at_call 48;refine(CL.out _).mono ?_;rintro e w2 ⟨rfl,hb2⟩;have HB2:Hid (Bw w w2):=(HB1.out.alloc HB1.out.size _).trans (hb2.mono (by rw[wsa];have:=HB1.out.size;omega));clear hb2))
 go_ret2
 have hs2:=HB2.out.size;have hl2:=HLO.out;have hA:Below (w2.alloc (.map #[] 0)).heap.size (w2.alloc (.map #[] 0)) ((w2.alloc (.map #[] 0)).alloc (Oc #[Sx s,.slice none 0 0,.map (some w2.heap.size)] 84)):=zA _ _;have hnew:=heap_alloc_new (w2.alloc (.map #[] 0)) (Oc #[Sx s,.slice none 0 0,.map (some w2.heap.size)] 84);rw[wsa]at hnew;exact⟨w2.heap.size+1,w2.heap.size,rfl,⟨by omega,by omega,⟨_,hnew,Jjw _ _ _ _⟩,JdU (S:=λ_=>False) (JoX w2) (Jai hA _) id⟩,by simp;omega,(HB2.out.alloc HB2.out.size _).alloc (by rw[wsa];omega) _⟩
end
end Go.Proofs.YtbkeomcicobohaaGreatDoor
