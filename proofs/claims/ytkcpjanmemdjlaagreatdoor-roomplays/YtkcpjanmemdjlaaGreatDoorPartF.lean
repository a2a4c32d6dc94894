/-
  A part of the texts that the proof uses.
-/
import Derived.Test.YtkcpjanmemdjlaaGreatDoorPartE
set_option maxRecDepth 100000
set_option maxHeartbeats 40000000
set_option linter.all false
namespace Go.Proofs.YtkcpjanmemdjlaaGreatDoor
open Go.Proofs.Tryz Go.RowKit Go.Maps
section
open Go.Deep Go.ChangeShapes Go.WideShapes
def Q7 (p:Pt):Prop:=-9223372036854775808<=p.keep/\p.keep<9223372036854775808/\-9223372036854775808<=p.drop/\p.drop<9223372036854775808
theorem ej{H:Type}{d:DataW H}{l:List (DataW H)}(h:d∈l):Rows.uptoBulk d<=Rows.uptoBulkAll l:=by
 induction l with
 | nil=>cases h
 | cons x r ih =>
  simp only[Rows.uptoBulkAll]
  rcases List.mem_cons.1 h with e|e
  . subst e;omega
  . have:=ih e;omega
theorem kd:prog.cellsOf 87=3:=by kernel_rfl
theorem iP:prog.cellsOf 3=1:=by kernel_rfl
theorem iQ:prog.cellsOf 9=1:=by kernel_rfl
theorem fm{H:Type}{enc:TypeId×Value->H}{W:World}{base:Nat}{E:Nat->Bool}{g:Bool}{n:Nat}{a:Addr}{h:List Value}{y:DataW H×List MemPlace}
    (B:W.cells? base a 3=some h) (C:DataW.trod enc prog W base E g n 87 h=some y) :
    ∃ q:Pt,a.spot=none/\W.cell? (Ad a.block a.off)=some (I6 q.keep)/\W.cell? (Ad a.block (a.off+1))=some (I6 q.drop)/\W.cell? (Ad a.block (a.off+2))=some (.string ⟨q.put.toArray⟩)/\Q7 q/\q.put.length<=maxLen /\
     y.1=.agg [.lit (.int .i64 q.keep),.lit (.int .i64 q.drop),.lit (.string q.put)]:=by
 obtain⟨_,f,c⟩:=World.cells?_some B;obtain⟨J,I,G,m,rfl,_,r,j,l⟩:=trod_struct3 underlying87 C;rw[iP]at r j;rw[iQ]at l
 match h,f with
 | [c0,c1,c2],_ =>
  simp only[DE,EM,DW,List.drop_succ_cons]at r j l;obtain⟨K,x,rfl,w0⟩:=DataW.trod_int underlying3 r;obtain⟨D,v,rfl,A⟩:=DataW.trod_int underlying3 j;obtain⟨s,t,rfl,z⟩:=DataW.trod_string underlying9 l;simp only[List.cons.injEq,and_true]at x v t;subst x v t;obtain⟨b,o,d⟩:=a;have k:=c 0 (by omega);have w:=c 1 (by omega);have u:=c 2 (by omega);have e:d=none:=by simpa[Addr.add] using World.cell?_spot (show W.cell? ((⟨b,o,d⟩:Addr).add 0)=some (I6 K) from k)
  subst e;rw[DG]at k w u;have i:=bounds_i64 w0;have p:=bounds_i64 A;have F:(ByteArray.mk s.data.toList.toArray)=s:=by cases s;simp
  refine⟨⟨K,D,s.data.toList⟩,rfl,k,w,by rw[F];exact u,⟨i.1,by show K<_;omega,p.1,by show D<_;omega⟩,?_,rfl⟩;rw[CZ]at z;exact z
theorem La{H:Type}{enc:TypeId×Value->H}{W:World}{base:Nat}{O:Nat->Bool}{r:Bool}{u:Nat}{v:Value}{x:DataW H×List MemPlace}
    (h:DataW.trod enc prog W base O r u 37 [v]=some x) :
    ∃ps,Ae W v ps/\(∀p∈ps,Q7 p/\p.put.length<=maxLen)/\(∀p∈ps,p.put.length<=Rows.uptoBulk x.1)/\ps.length<=maxLen:=by
 rcases open_slice underlying37 h with ⟨d,_⟩|⟨a,len,z,m,n,D,U,d,S,P,K,y,rfl,L⟩
 . simp only[List.cons.injEq,and_true]at d
   subst d;exact⟨[],⟨none,0,rfl,Ai _,AV _,λh=>absurd rfl h⟩,by simp,by simp,AV _⟩
 . simp only [List.cons.injEq,and_true]at d
   subst d;have I:len<=m:=by rw[y];split<;>omega
   haveI:Inhabited Pt:=⟨⟨0,0,[]⟩⟩
   obtain ⟨f,l⟩:=choose_lt (α:=Pt) (n:=len) (p:=λi q=>(a.add (i*3)).spot=none/\W.cell? (Ad ((a.add (i*3)).block) ((a.add (i*3)).off))=some (I6 q.keep)/\W.cell? (Ad ((a.add (i*3)).block) ((a.add (i*3)).off+1))=some (I6 q.drop)/\W.cell? (Ad ((a.add (i*3)).block) ((a.add (i*3)).off+2))=some (Sx q.put)/\Q7 q/\q.put.length<=maxLen /\
       D i=.agg [.lit (.int .i64 q.keep),.lit (.int .i64 q.drop),.lit (.string q.put)]) (λi g=>by
    obtain⟨R,s,N⟩:=L i (by omega);rw[kd]at s;obtain⟨q,Q⟩:=fm s N
    exact⟨q,Q⟩)
   have c:((List.range len).map f).length=len:=by simp
   refine⟨(List.range len).map f,⟨some a,z,by rw[c],by rw[c];exact P,K,λA=>?_⟩,?_,?_,by rw[c];omega⟩
   . have j:0<len:=by
       cases len with
       | zero=>exact absurd rfl A
       | succ n=>exact Nat.succ_pos n
     obtain⟨b,o,t⟩:=a;have B:=(l 0 j).1;have k:t=none:=by simpa[Addr.add] using B
     subst k;refine⟨b,o,rfl,?_,λi q g=>?_⟩
     . have:=Ca W _ (l 0 j).2.1
       rw[DG]at this;exact this
     . have w:i<len:=by have:=(De g);rw[c]at this;exact this
       have e:q=f i:=by
        rw[BD,List.getElem?_range w]at g;exact(Bq g).symm
       subst e;obtain⟨_,F,G,E,_⟩:=l i w;rw[DG]at F G E;exact⟨F,G,E⟩
   . intro p C
     obtain⟨i,g,rfl⟩:=List.mem_map.1 C;have:=l i (List.mem_range.1 g);exact⟨this.2.2.2.2.1,this.2.2.2.2.2.1⟩
   . intro p C
     obtain⟨i,g,rfl⟩:=List.mem_map.1 C;have J:=(l i (List.mem_range.1 g)).2.2.2.2.2.2;have s:Rows.uptoBulk (D i)<=Rows.uptoBulkAll ((List.range len).map D):=ej (List.mem_map.2 ⟨i,g,rfl⟩);rw[J]at s;simp only[Rows.uptoBulk,Rows.uptoBulkAll]at s ⊢;omega
def V0 (q:List Pt):Prop:=∀p∈q,p.put.length<=300->Cp p
theorem gN:prog.cellsOf 37=1:=by kernel_rfl
theorem bT{q:List Pt}(h:∀p∈q,Q7 p/\p.put.length<=maxLen):V0 q:=λp e f=>by
 obtain⟨⟨d,a,c,b⟩,_⟩:=h p e;exact⟨d,a,c,b,by omega⟩
end
section
attribute [local go_sem] Oper.semAt_some
def LU:List Pt->List UInt8->Bool
 | [],_=>false
 | p :: ps,s=>GS s || GS (s.drop (Ab p).toNat) || LU ps (s.drop (Ab p).toNat)
theorem Xg(ps:List Pt)(s:List UInt8)(c:GQ ps s=[])(h:GS s=true):C9 ps s=true:=by
 induction ps generalizing s with
 | nil =>
  have:s=[]:=c;rw[this]at h
  cases h
 | cons p ps ih =>
  rw[C9,DX]
  cases hn:(Ab p).toNat with
  | zero =>
   refine .inr ?_;have a:GQ ps (s.drop (Ab p).toNat)=[]:=c;rw[hn]at a;exact ih _ a h
  | succ m =>
   refine .inl ?_
   cases s with
   | nil=>cases h
   | cons b l=>exact h
theorem ew(ps:List Pt)(s:List UInt8)(c:GQ ps s=[]):LU ps s=C9 ps s:=by
 induction ps generalizing s with
 | nil=>rfl
 | cons p ps ih =>
  have a:GQ ps (s.drop (Ab p).toNat)=[]:=c;have e:=ih _ a;rw[Bool.eq_iff_iff];constructor
  . intro h
    rw[LU,DX,DX]at h
    rcases h with (h|h) | h
    . exact Xg (p :: ps) s c h
    . rw[C9,DX];exact .inr (Xg ps _ a h)
    . rw[C9,DX];rw[e]at h;exact .inr h
  . intro h
    rw[C9,DX]at h;rw[LU,DX,DX]
    rcases h with h|h
    . refine .inl (.inl ?_)
      cases s with
      | nil=>simp[GS]at h
      | cons b l =>
       cases hn:(Ab p).toNat with
       | zero=>rw[hn]at h;cases h
       | succ m=>rw[hn]at h;exact h
    . rw[←e]at h;exact .inr h
theorem eH(b:UInt8):LX b=(decide ((b.toNat:Int)<128) || decide (192<=(b.toNat:Int))):=by
 have a:=b.toNat_lt;unfold LX Lib.runeStart;rw[Bool.eq_iff_iff];simp only[bne_iff_ne,ne_eq,DX,decide_eq_true_eq];omega
theorem co(s:List UInt8)(w:World)(a:s.length<1000000000) :
    Cg 81 #[Sx s,I6 s.length] w λe w'=>e=.returned (.bool true)/\w'=w:=by
 have b:=Oj s
 go_enter func81,ntmps81
 go_wp2;go_ret;exact⟨rfl,rfl⟩
theorem cr(s:List UInt8)(k:Nat)(w:World)(l:s.length<1000000000)(g:k<s.length) :
    Cg 81 #[Sx s,I6 k] w λe w'=>e=.returned (.bool (!GS (s.drop k)))/\w'=w:=by
 have j:=Oj s;have d:s.drop k=s[k] :: s.drop (k+1):=BK g;have a:GS (s.drop k) = !LX s[k]:=by rw[d];rfl
 rw[eH]at a;obtain⟨R,b⟩:∃R,(!GS (s.drop k))=R:=⟨_,rfl⟩;have i:Hid (R=(decide ((s[k].toNat:Int)<128) || decide (192<=(s[k].toNat:Int)))):=by
  show R=_;rw[←b,a,Bool.not_not]
 rw[b];clear d a b
 go_enter func81,ntmps81
 go_wp2
 all_goals go_ret
 all_goals refine⟨?_,rfl⟩
 all_goals rw[i.out]
 all_goals have c:((k:Int)==(s.length:Int))=false:=beq_eq_false_iff_ne.2 (by omega)
 all_goals first
  | (rw[c,GK];rfl)
  | (rename_i h;have f:(s[k].toNat:Int)<128:=h;rw[decide_eq_true f];rfl)
theorem Wu(s:List UInt8)(k:Nat)(w:World)(a:s.length<1000000000)(b:k<=s.length) :
    Cg 81 #[Sx s,I6 k] w λe w'=>e=.returned (.bool (!GS (s.drop k)))/\w'=w:=by
 rcases CQ k s.length with h|h
 . exact cr s k w a h
 . obtain rfl:k=s.length:=Nat.le_antisymm b h
   rw[List.drop_length];exact co s w a
def G9 (ps:List Pt):Nat:=(ps.map λp=>(Ab p).toNat).sum
theorem dm(ps:List Pt)(s:List UInt8):GQ ps s=s.drop (G9 ps):=by
 induction ps generalizing s with
 | nil=>rfl
 | cons p ps ih =>
  show GQ ps (s.drop (Ab p).toNat)=_;rw[ih,DI];simp[G9]
theorem VY(ps:List Pt)(p:Pt):G9 (ps++[p])=G9 ps+(Ab p).toNat:=by simp[G9]
theorem VS(ps:List Pt)(s:List UInt8)(h:LL ps s)(k:Nat):G9 (ps.take k)<=s.length:=by
 induction ps generalizing s k with
 | nil=>simp[G9]
 | cons p ps ih =>
  obtain⟨b,d,c,a⟩:=h
  cases k with
  | zero=>simp[G9]
  | succ k =>
   have:=ih _ a k;rw[AM]at this;show G9 (p :: ps.take k)<=_;unfold G9 at this ⊢;simp only[AY,BQ];omega
theorem eu(ps:List Pt)(s:List UInt8)(k:Nat)(a:k<ps.length):LU (ps.drop k) (s.drop (G9 (ps.take k)))=(GS (s.drop (G9 (ps.take k))) || GS (s.drop (G9 (ps.take (k+1)))) || LU (ps.drop (k+1)) (s.drop (G9 (ps.take (k+1))))):=by
 rw[BK a,LU,DI,←VY,←AD a]
theorem ji(ps:List Pt)(s:List UInt8)(k:Nat)(a:k<ps.length):Aj (ps.take (k+1)) s=Aj (ps.take k) s++Fy (ps[k],(s.drop (G9 (ps.take k))).take (Ab ps[k]).toNat):=by
 unfold Aj;rw[AD a,Sg,FG,dm];simp[E7]
theorem dp(s:List UInt8)(a:Nat)(p:Pt)(d:0<=p.keep)(b:0<=p.drop)(c:p.keep=0\/p.drop=0):Fy (p,(s.drop a).take (Ab p).toNat)=(s.drop a).take p.keep.toNat++p.put:=by
 unfold Fy Ab
 rcases Int.lt_or_le 0 p.keep with h|h
 . rw[if_pos h]
   have:p.drop=0:=by omega
   simp[this]
 . have:p.keep=0:=by omega
   simp[this]
theorem gG{ps:List Pt}{s:List UInt8}(h:LL ps s)(k:Nat):(Aj (ps.take k) s).length<=s.length+Al ps:=by
 have e:E7 ps s=E7 (ps.take k) s++E7 (ps.drop k) (GQ (ps.take k) s):=by
  conv=>lhs;rw[←AW k ps]
  rw[Sg]
 exact WE h e
theorem S5(a u:List UInt8)(X:ByteArray)(x:List UInt8)(h:X.data.toList=x):ByteArray.mk a.toArray++(X++ByteArray.mk u.toArray)=ByteArray.mk (a++(x++u)).toArray:=by
 subst h;apply EZ;simp[ByteArray.data_append]
theorem Lv(l:List UInt8)(a n:Nat):((ByteArray.mk l.toArray).extract a (a+n)).data.toList=(l.drop a).take n:=by
 rw[GD];simp
theorem j8(v:Value)(ps:List Pt)(s:List UInt8)(w:World)(g:Ae w v ps)(a:∀p∈ps,Cp p)(b:∀p∈ps,p.put.length<100000000)(m:s.length<1000000000)(i:ps.length<10000000)(j:chkE ps (s.length:Int)≠0) :
    Cg 47 #[v,Sx s] w (Rt w (.tuple #[.string ⟨#[]⟩,I6 (chkE ps (s.length:Int))])):=by
 have f:Hid _:=MR v ps (s.length:Int) w g a b (by omega) i;have k:=Oj s;obtain⟨E,h⟩:∃E,chkE ps (s.length:Int)=E:=⟨_,rfl⟩;rw[h]at f j ⊢;obtain⟨p,c,rfl,_⟩:=g;clear a b h
 go_enter func47,ntmps47
 go_wp2_with (go_at_call 78;refine AC f.out ?_;rintro e l ⟨rfl,d⟩)
 go_ret2
 exact⟨rfl,d⟩
theorem kT(v:Value)(ps:List Pt)(s:List UInt8)(w:World)(hr:Ae w v ps)(hwf:∀p∈ps,Cp p)(J:∀p∈ps,p.put.length<100000000)(hs:s.length<100000000)(hl:ps.length<10000000)(z:Al ps<100000000)(Z:chkE ps (s.length:Int)=0) :
    Cg 47 #[v,.string ⟨s.toArray⟩] w (Rt w (.tuple #[.string ⟨(if C9 ps s then [] else Aj ps s).toArray⟩,I6 (if C9 ps s then 10 else 0)])):=by
 have cC:Hid _:=MR v ps (s.length:Int) w hr hwf J (by omega) hl;have hz:=Oj s;rw[Z]at cC;obtain⟨C,t⟩:=Um Z
 have m:∀p∈ps,Ek p/\(p.keep=0\/p.drop=0):=by
  unfold chkE at Z
  split at Z
  . rename_i h1
    exact λp hp=>KC (Om h1 p hp).1
  . rename_i h1;exact absurd Z h1
 have HB:=Aa (ew ps s t);have HF:=Aa C;have HO:=Aa m;have HSL:Hid (s.length<1000000000):=(by show _<_;omega);have HSM:=Aa J;have HPU:=Aa z;obtain⟨p,c,rfl,r1,r2,r3⟩:=hr;obtain⟨n,hn⟩:∃n,n=ps.length:=⟨_,rfl⟩;obtain⟨RS,E⟩:∃RS,RS=ByteArray.mk (if C9 ps s=true then ([]:List UInt8) else Aj ps s).toArray:=⟨_,rfl⟩;obtain⟨RE,F⟩:∃RE:Int,RE=if C9 ps s=true then 10 else 0:=⟨_,rfl⟩
 have H:=Aa E;have Y:=Aa F;rw[←E,←F];have HN:=Aa hn;rw[←hn]at r1 hl cC ⊢
 have R3:Hid (ps≠[]->∃b o,p=some (Ad b o)/\b<w.heap.size/\∀i q,ps[i]?=some q ->
  w.cell? (Ad b (o+i*3))=some (I6 q.keep)/\w.cell? (Ad b (o+i*3+1))=some (I6 q.drop)/\w.cell? (Ad b (o+i*3+2))=some (.string ⟨q.put.toArray⟩)):=r3
 clear r3 hwf J z C t Z m hn E F
 go_enter func47,ntmps47
 go_wp2_with (go_at_call 78;refine AC cC.out ?_;rintro e w1 ⟨rfl,hb1⟩)
 go_loopw [7,8,20] (λx y i wr=>∃(k:Nat),k<=n/\i=.int .i64 k/\y=.int .i64 (G9 (ps.take k):Nat)/\x=.string ⟨(Aj (ps.take k) s).toArray⟩/\LU ps s=LU (ps.drop k) (s.drop (G9 (ps.take k)))/\Bw w wr) (λ_ _ i _=>n - (intOf i).toNat)
 case atStart=>exact⟨0,AV _,rfl,rfl,rfl,rfl,hb1⟩
 case round =>
  obtain⟨k,hk,rfl,rfl,rfl,d,l⟩:=hrel
  by_cases hlt:k<n
  . have h:k<ps.length:=by rw[←HN.out];exact hlt
    have hne:ps≠[]:=by intro e;rw[e]at h;exact absurd h (AP _)
    obtain⟨b,o,rfl,N,r⟩:=R3.out hne;obtain⟨c0,c1,c2⟩:=r k ps[k] (B7 h);have g0:=(zC l b (o+k*3) N).trans c0;have g1:=(zC l b (o+k*3+1) N).trans c1;have g2:=(zC l b (o+k*3+2) N).trans c2;obtain⟨⟨s0,s1⟩,s2⟩:=HO.out ps[k] (BE _);have hA0:=VS ps s HF.out k;have G:=VS ps s HF.out (k+1);have ha:G9 (ps.take (k+1))=G9 (ps.take k)+(Ab ps[k]).toNat:=by rw[AD h,VY]
    have j:=ji ps s k h;rw[dp s _ _ s0 s1 s2]at j;rw[eu ps s k h]at d;have hU:=HSM.out ps[k] (BE _);have hOl:=gG HF.out k;have z:=HPU.out;generalize ps[k]=q at g0 g1 g2 s0 s1 s2 ha j hU;obtain⟨K,D,U⟩:=q;simp only[Ab]at s0 s1 s2 ha j g0 g1 g2 hU;have hzU:=Oj U;obtain⟨A,hA⟩:∃A,A=G9 (ps.take k):=⟨_,rfl⟩;obtain⟨A1,g⟩:∃A1,A1=G9 (ps.take (k+1)):=⟨_,rfl⟩;obtain⟨O,Q⟩:∃O,O=ByteArray.mk (Aj (ps.take k) s).toArray:=⟨_,rfl⟩;have B:=Aa Q;rw[←hA,←Q];rw[←hA]at hA0 ha j d;rw[←g]at G ha d;have hi:(A1:Int)=(A:Int)+K+D:=by omega
    have HI:Hid (((G9 (ps.take (k+1)):Nat):Int)=(A:Int)+K+D):=by show _=_;rw[←g];exact hi
    have hK:(A:Int)+K+D<=s.length:=by omega
    obtain⟨B0,S⟩:∃B0,B0=GS (s.drop A):=⟨_,rfl⟩;obtain⟨B1,I⟩:∃B1,B1=GS (s.drop A1):=⟨_,rfl⟩;rw[←S,←I]at d;have W:Hid (∀u,Cg 81 #[.string ⟨s.toArray⟩,I6 A] u λe w'=>e=.returned (.bool (!B0))/\w'=u):=λu=>by rw[S];exact Wu s A u HSL.out hA0
    have cE1:Hid (∀u,Cg 81 #[.string ⟨s.toArray⟩,I6 ((A:Int)+K+D)] u λe w'=>e=.returned (.bool (!B1))/\w'=u):=λu=>by rw[I,←hi];exact Wu s A1 u HSL.out G
    have HA:=Aa j;have L:=Aa d;have HA1:=Aa g;clear r c0 c1 c2 ha j d hi Q hA g S I G;have R:=Aa l;have f:=l.size;have hOs:O.size<=200000000:=by rw[B.out,Oj];omega
    obtain⟨X,hX⟩:∃X,(ByteArray.mk s.toArray).extract A ((A:Int)+K).toNat=X:=⟨_,rfl⟩;have hk2:((A:Int)+K).toNat=A+K.toNat:=by omega
    have HXL:Hid (X.data.toList=(s.drop A).take K.toNat):=by show _=_;rw[←hX,hk2];exact Lv s A K.toNat
    have hXs:X.size<=100000000:=by
     have e:X.size=X.data.toList.length:=Array.length_toList.symm;rw[e,HXL.out,AO,AM];omega
    have hcat:X.size+(ByteArray.mk U.toArray).size<=200000000:=by rw[hzU];omega
    have hcat2:O.size+(X.size+(ByteArray.mk U.toArray).size)<=400000000:=by omega
    clear hk2 hOl z
    cases B0 with
    | true =>
     have P:Hid (C9 ps s=true):=by show _=true;rw[←HB.out,L.out];rfl
     go_wp2_with (go_at_call 81;refine(W.out _).mono ?_;rintro e w2 ⟨rfl,rfl⟩)
     go_ret2
     exact⟨by rw[Y.out,H.out,if_pos P.out,if_pos P.out];rfl,R.out.alloc f _⟩
    | false =>
    cases B1 with
    | true =>
     have P:Hid (C9 ps s=true):=by show _=true;rw[←HB.out,L.out];rfl
     go_wp2_with (first | (have _:=a;go_at_call 81;refine(cE1.out _).mono ?_;rintro e w3 ⟨rfl,rfl⟩) | (go_at_call 81;refine(W.out _).mono ?_;rintro e w2 ⟨rfl,rfl⟩;have a:=trivial))
     go_ret2
     exact⟨by rw[Y.out,H.out,if_pos P.out,if_pos P.out];rfl,R.out.alloc f _⟩
    | false =>
     go_wp2_with (first | (have _:=a;go_at_call 81;refine(cE1.out _).mono ?_;rintro e w3 ⟨rfl,rfl⟩) | (go_at_call 81;refine(W.out _).mono ?_;rintro e w2 ⟨rfl,rfl⟩;have a:=trivial))
     go_region
     all_goals
      go_wp2
      go_roundw
      case rel=>exact⟨k+1,by omega,by go_num,by rw[HI.out,GL],by rw[HA.out,B.out,S5 _ _ _ _ HXL.out],by rw[L.out,←HA1.out];rfl,(R.out.alloc f _).drew⟩
      case measure=>simp[intOf];omega
  . have e:ps.take k=ps:=AQ (by rw[←HN.out];omega)
    have e':ps.drop k=[]:=DT (by rw[←HN.out];omega);rw[e,e']at d;rw[e];have P:Hid (C9 ps s=false):=by show _=false;rw[←HB.out,d];rfl
    obtain⟨O,Q⟩:∃O,O=ByteArray.mk (Aj ps s).toArray:=⟨_,rfl⟩;have B:=Aa Q;rw[←Q];clear e e' d Q;go_wp2
    go_ret2
    exact⟨by rw[Y.out,H.out,P.out,B.out];rfl,l⟩
theorem IR(v:Value)(ps:List Pt)(s:List UInt8)(w:World)(e:Ae w v ps)(b:∀p∈ps,Cp p)(c:∀p∈ps,p.put.length<100000000)(g:s.length<100000000)(f:ps.length<10000000)(d:Al ps<100000000) :
    Cg 47 #[v,Sx s] w (Rt w (.tuple #[Sx (if ordE ps s=0 then Aj ps s else []),I6 (ordE ps s)])):=by
 unfold ordE
 by_cases a:chkE ps (s.length:Int)=0
 . rw[if_pos a]
   have:=kT v ps s w e b c g f d a
   cases hb:C9 ps s<;>simp only[hb]at this<;>simpa using this
 . rw[if_neg a,if_neg a]
   exact j8 v ps s w e b c (by omega) f a
variable {w : World}{a : Nat}{l : List Pt}
structure Ci (w:World) (a:Nat) (l:List Pt):Prop where
 out:∃p c,w.cell? (Ad a 0)=some (.slice p l.length c)/\w.ownsRow (a+1) 87 3 (.slice p l.length c) l.length (Cw l)
 outF:w.frozen? (Ad a 0)=false
theorem Qi(h:Ci w a l):a<w.heap.size:=by obtain⟨⟨p,c,b,_⟩,_⟩:=h;exact Ca w _ b
theorem Sf{d:World}{p:Option Addr}{c:Nat}{o:Obj}{j:Value}{q:Pt}(h:Ci w a l)(s:w.cell? (Ad a 0)=some (.slice p l.length c))
    (b:d.ownsRow (a+1) 87 3 j (l.length+1) (Cw l++Ed q)) (v:(w.alloc o).grownBy d (Value.slice p l.length c).ownBlock) :
    Ci (d.setCell (Ad a 0) j) a (l++[q])/\Below a w (d.setCell (Ad a 0) j)/\d.cell? (Ad a 0)=some (.slice p l.length c)/\d.frozen? (Ad a 0)=false:=by
 have x:=Qi h;obtain⟨⟨A,z,r,y⟩,t⟩:=h;rw[s]at r;simp only[Option.some.injEq,Value.slice.injEq,true_and]at r;obtain⟨rfl,rfl⟩:=r;have f:∀k,(Value.slice p l.length c).ownBlock=some k->a+1<=k:=λk u=>(y.lt k u).1;have e:Below (a+1) w d:=((A9 (a+1) w).alloc (by omega) o).grown v (by rw[Bb];omega) f;have g:d.cell? (Ad a 0)=some (.slice p l.length c):=by rw[zC e a 0 (by show a<_;omega)];exact s
 have i:d.frozen? (Ad a 0)=false:=by rw[e.frozen (p:=(Ad a 0)) (by show a<_;omega)];exact t
 obtain⟨m,n,rfl⟩:=Bm b;refine⟨⟨⟨m,n,?_,?_⟩,?_⟩,(e.mono (show a<=a+1 by omega)).setCell (Ai _) _,g,i⟩
 . show _=some (Value.slice m (l++[q]).length n)
   rw[AA];exact AU _ _ _ g
 . show World.ownsRow _ _ _ _ (.slice m (l++[q]).length n) (l++[q]).length (Cw (l++[q]))
   rw[AA,JQ];exact Jn b (by omega) _
 . rw[AG];exact i
def Ey (k:Int):List Pt:=if 0<k then [⟨k,0,[]⟩] else []
def Cq (u:List UInt8):List Pt:=if u≠[] then [⟨0,0,u⟩] else []
theorem Ot(a:Nat)(l:List Pt)(k:Int)(w:World)(h:Ci w a l)(r:l.length<1000000000) :
    Cg 120 #[I6 k,Pd a 0] w λe w'=>(∃v,e=.returned v)/\Ci w' a (l++Ey k)/\Below a w w':=by
 obtain⟨B,D,i,j,o⟩:=info_parts Ho;have C:=Qi h;have u:=Aa h;obtain⟨⟨p,c,s,x⟩,F⟩:=h;have E:=Aa x;have G:=Aa s;clear x
 by_cases z:0<k
 . have d:Ey k=[⟨k,0,[]⟩]:=if_pos z
   rw[d];clear d
   go_enter func120,ntmps120
   go_wp2_with (at_builtin;refine wpList_append_own _ rfl _ _ 37 rfl (a+1) 87 B (.agg #[I6 0,I6 0,.string ⟨#[]⟩]) 3 32 underlying37 D i j o rfl (by decide) _ _ _ rfl (E.out.alloc _) (Ad w.heap.size 0) 1 1 (Ed ⟨k,0,[]⟩) rfl rfl (He _ _ _) (Gx _) (by unfold maxLen;omega) (by omega) (by first | omega | (simp;omega)) ?_)
   intro K J b f _;have y:=Sf (q:=⟨k,0,[]⟩) u.out G.out b f;obtain⟨H,L,g⟩:=Bm b;rw[g]at y b ⊢;obtain⟨A,t,N,I⟩:=y;have m:=Aa A;have n:=Aa t;clear s F A t b f g;go_wp2;go_end0;exact⟨⟨_,rfl⟩,m.out,n.out⟩
 . have d:Ey k=[]:=if_neg z
   rw[d,AZ];clear d
   go_enter func120,ntmps120
   go_wp2;go_end0;exact⟨⟨_,rfl⟩,u.out,.refl _ _⟩
theorem Rz(a:Nat)(l:List Pt)(u:List UInt8)(w:World)(h:Ci w a l)(r:l.length<1000000000) :
    Cg 121 #[Sx u,Pd a 0] w λe w'=>(∃v,e=.returned v)/\Ci w' a (l++Cq u)/\Below a w w':=by
 obtain⟨C,E,j,k,o⟩:=info_parts Ho;have D:=Qi h;have x:=Aa h;obtain⟨⟨p,c,s,y⟩,G⟩:=h;have F:=Aa y;have I:=Aa s;clear y
 by_cases g:u≠[]
 . have d:Cq u=[⟨0,0,u⟩]:=if_pos g
   have H:u.isEmpty=false:=by simpa using g
   rw[d];clear d
   go_enter func121,ntmps121
   go_wp2_with (at_builtin;refine wpList_append_own _ rfl _ _ 37 rfl (a+1) 87 C (.agg #[I6 0,I6 0,.string ⟨#[]⟩]) 3 32 underlying37 E j k o rfl (by decide) _ _ _ rfl (F.out.alloc _) (Ad w.heap.size 0) 1 1 (Ed ⟨0,0,u⟩) rfl rfl (He _ _ _) (Gx _) (by unfold maxLen;omega) (by omega) (by first | omega | (simp;omega)) ?_)
   intro N L b f _;have z:=Sf (q:=⟨0,0,u⟩) x.out I.out b f;obtain⟨K,O,i⟩:=Bm b;rw[i]at z b ⊢;obtain⟨A,t,P,J⟩:=z;have m:=Aa A;have n:=Aa t;clear s G A t b f i;go_wp2;go_end0;exact⟨⟨_,rfl⟩,m.out,n.out⟩
 . have d:Cq u=[]:=if_neg g
   have B:u=[]:=Classical.not_not.1 g;subst B;rw[d,AZ];clear d g
   go_enter func121,ntmps121
   go_wp2;go_end0;exact⟨⟨_,rfl⟩,x.out,.refl _ _⟩
end
section
attribute [local go_sem] Oper.semAt_some
def Mq (w:World) (v1 v2:Value) (EA EB:Int) (k:Nat) (i:Value) (wr:World):Prop :=
 ∃j:Nat,i=I6 j/\j+k=2/\(1<=j->EA=0)/\(2<=j->EB=0)/\Bw w wr/\wr.cell? (Ad w.heap.size 0)=some v1/\wr.cell? (Ad w.heap.size 1)=some v2
theorem QG(P O:Value)(a b:List Pt)(w:World)(W:Ae w P a)(X:Ae w O b)(Z:∀p∈a,Cp p)(m:∀p∈b,Cp p)(s1:∀p∈a,p.put.length<100000000)(s2:∀p∈b,p.put.length<100000000)(Y:a.length<10000000)(l2:b.length<10000000) :
    Cg 82 #[P,O] w (Rt w (I6 (Dy a b))):=by
 have v:=Aa λn (q:Bw w n)=>Ki P a n (E5 W q) Y;have r:=Aa λn (q:Bw w n)=>Ki O b n (E5 X q) l2;have u:=Aa λn (q:Bw w n)=>MR P a _ n (E5 W q) Z s1 (SA a) Y;have s:=Aa λn (q:Bw w n)=>MR O b _ n (E5 X q) m s2 (SA b) l2;obtain⟨R,A⟩:∃R,R=Dy a b:=⟨_,rfl⟩;rw[←A];unfold Dy at A;generalize chkE a (Be a).1=EA at u A;generalize chkE b (Be b).1=EB at s A;generalize (Be a).1=A1 at v u;generalize (Be a).2=A2 at v;generalize (Be b).1=B1 at r s;generalize (Be b).2=B2 at r;have K:=Aa A;obtain⟨B,G,rfl,_⟩:=W;obtain⟨C,F,rfl,_⟩:=X;clear Z m s1 s2 A
 go_enter func82,ntmps82
 go_wp2
 have E:Mq w (.slice B a.length G) (.slice C b.length F) EA EB 2 (I6 0) (w.alloc (Oc #[.slice B a.length G,.slice C b.length F] 37)) :=
  ⟨0,rfl,rfl,λh=>absurd h (by omega),λh=>absurd h (by omega),(A9 _ w).alloc (Ai _) _,by simp[go_sem],by simp[go_sem]⟩
 have I:=Aa E;clear E
 go_loopg [14] 2 (λk i wr=>Mq w (.slice B a.length G) (.slice C b.length F) EA EB k i wr)
 case atStart=>exact I.out
 case round =>
  obtain⟨j,rfl,x,N,z,q,Q,S⟩:=hrel;have c:=Aa q;clear I q
  rcases CQ j 1 with D|D
  . obtain rfl:j=0:=by omega
    obtain rfl:gk=2:=by omega
    clear N z x D
    by_cases L:EA=0
    . subst L
      go_wp2_with (first
       | (go_at_call 83;refine(v.out _ (by first|exact c.out|exact c.out.drew)).mono ?_;rintro e m ⟨rfl,d⟩;have f:Hid (Bw w m):=(by first|exact c.out.trans (d.mono c.out.size) | exact c.out.drew.trans (d.mono c.out.size));have H:Hid (m.cell? (Ad w.heap.size 0)=some (.slice B a.length G)):=(d.cell (Ca wr _ Q)).trans Q;have J:Hid (m.cell? (Ad w.heap.size 1)=some (.slice C b.length F)):=(d.cell (Ca wr _ S)).trans S;clear d)
       | (go_at_call 78;refine(u.out _ f.out).mono ?_;rintro e U ⟨rfl,g⟩))
      go_roundg 1
      case measure=>omega
      case rel=>exact⟨1,rfl,rfl,λ_=>rfl,λh=>absurd h (by omega),f.out.trans (g.mono f.out.size),(g.cell (Ca m _ H.out)).trans H.out,(g.cell (Ca m _ J.out)).trans J.out⟩
    . have o:R=EA:=by rw[K.out,if_neg L]
      subst o;clear K
      go_wp2_with (first
       | (go_at_call 83;refine(v.out _ (by first|exact c.out|exact c.out.drew)).mono ?_;rintro e m ⟨rfl,d⟩;have f:Hid (Bw w m):=(by first|exact c.out.trans (d.mono c.out.size) | exact c.out.drew.trans (d.mono c.out.size));clear d)
       | (go_at_call 78;refine(u.out _ f.out).mono ?_;rintro e U ⟨rfl,g⟩))
      go_ret;exact⟨rfl,f.out.trans (g.mono f.out.size)⟩
  . have N:=N D
    subst N;have t:Hid (R=EB):=by have:=K.out;rwa[if_pos rfl]at this
    clear K
    rcases CQ j 2 with y|y
    . obtain rfl:j=1:=by omega
      obtain rfl:gk=1:=by omega
      clear z x D y
      by_cases L:EB=0
      . subst L
        go_wp2_with (first
         | (go_at_call 83;refine(r.out _ (by first|exact c.out|exact c.out.drew)).mono ?_;rintro e m ⟨rfl,d⟩;have f:Hid (Bw w m):=(by first|exact c.out.trans (d.mono c.out.size) | exact c.out.drew.trans (d.mono c.out.size));have H:Hid (m.cell? (Ad w.heap.size 0)=some (.slice B a.length G)):=(d.cell (Ca wr _ Q)).trans Q;have J:Hid (m.cell? (Ad w.heap.size 1)=some (.slice C b.length F)):=(d.cell (Ca wr _ S)).trans S;clear d)
         | (go_at_call 78;refine(s.out _ f.out).mono ?_;rintro e U ⟨rfl,g⟩))
        go_roundg 0
        case measure=>omega
        case rel=>exact⟨2,rfl,rfl,λ_=>rfl,λ_=>rfl,f.out.trans (g.mono f.out.size),(g.cell (Ca m _ H.out)).trans H.out,(g.cell (Ca m _ J.out)).trans J.out⟩
      . have o:R=EB:=t.out
        subst o;clear t
        go_wp2_with (first
         | (go_at_call 83;refine(r.out _ (by first|exact c.out|exact c.out.drew)).mono ?_;rintro e m ⟨rfl,d⟩;have f:Hid (Bw w m):=(by first|exact c.out.trans (d.mono c.out.size) | exact c.out.drew.trans (d.mono c.out.size));clear d)
         | (go_at_call 78;refine(s.out _ f.out).mono ?_;rintro e U ⟨rfl,g⟩))
        go_ret;exact⟨rfl,f.out.trans (g.mono f.out.size)⟩
    . obtain rfl:j=2:=by omega
      have z:=z (by omega);have o:R=0:=by rw[t.out,z]
      subst o;clear t z x D y;go_wp2;go_ret;exact⟨rfl,c.out⟩
variable {first : Bool}{x y : Dj}{q gx1 gx2 gy1 gy2 n : Nat}
def Ji (first:Bool) (u v:List UInt8):List Pt:=if first then Cq u++Ey v.length else Ey v.length++Cq u
def Ju (e d:Bool):List Pt:=if e then [] else [II d]
def GX (first:Bool) (z:(List UInt8×Bool)×(List UInt8×Bool)):List Pt:=Ji first z.1.1 z.2.1++Ju z.2.2 z.1.2
def Bx (first:Bool) (x y:Dj) (j:Nat):List Pt:=((x.1.zip y.1).take j).flatMap (GX first)++if x.1.length<j then Ji first x.2 y.2 else []
theorem Xx(u:List UInt8)(s:Av):(Cq u).foldl Af s=Af s ⟨0,0,u⟩:=by
 unfold Cq
 split
 . rfl
 . rename_i h
   rw[Classical.not_not.1 h,IL];rfl
theorem Zg(v:List UInt8)(s:Av):(Ey v.length).foldl Af s=Af s ⟨v.length,0,[]⟩:=by
 unfold Ey
 split
 . rfl
 . rename_i h
   have:(v.length:Int)=0:=by omega
   rw[this,IL];rfl
theorem Zn(first:Bool)(u v:List UInt8)(s:Av):(Ji first u v).foldl Af s=(if first then [⟨0,0,u⟩,⟨v.length,0,[]⟩] else [⟨v.length,0,[]⟩,⟨0,0,u⟩]:List Pt).foldl Af s:=by
 unfold Ji
 cases first
 . simp only[BW,if_false,BJ,Xx,Zg];rfl
 . simp only[if_true,BJ,Xx,Zg];rfl
theorem WN(first:Bool):∀(x y:List (List UInt8×Bool))(c b:List UInt8)(s:Av),x.length=y.length->((x.zip y).flatMap (GX first)++Ji first c b).foldl Af s=(En first x c y b).foldl Af s
 | [],[],c,b,s,_=>by
  simp only[List.zip_nil_left,List.flatMap_nil,BA,Zn];rfl
 | [],_ :: _,_,_,_,h=>by simp at h
 | _ :: _,[],_,_,_,h=>by simp at h
 | (u,d) :: x,(v,e) :: y,c,b,s,h=>by
   have ih:=WN first x y c b
   rw[List.zip_cons_cons,CY,AH,BJ,ih _ (by simpa using h),En,BJ,BJ]
   congr 1
   unfold GX Ju;rw[BJ,Zn]
theorem Xs(first:Bool)(u v:List UInt8):(Ji first u v).length<=2:=by
 have b:(Cq u).length<=1:=by unfold Cq;split<;>simp
 have c:(Ey v.length).length<=1:=by unfold Ey;split<;>simp
 unfold Ji
 split<;>(rw[AA];omega)
theorem cJ(first:Bool)(z:(List UInt8×Bool)×(List UInt8×Bool)):(GX first z).length<=3:=by
 have b:=Xs first z.1.1 z.2.1
 have c:(Ju z.2.2 z.1.2).length<=1:=by unfold Ju;split<;>simp
 unfold GX;rw[AA];omega
theorem WK(first:Bool)(x y:Dj)(j:Nat):(Bx first x y j).length<=3*j+2:=by
 have b:∀(l:List ((List UInt8×Bool)×(List UInt8×Bool))),(l.flatMap (GX first)).length<=3*l.length:=by
  intro l
  induction l with
  | nil=>simp
  | cons z l ih =>
   have:=cJ first z
   rw[CY,AA,AJ];omega
 have c:=b ((x.1.zip y.1).take j);have e:((x.1.zip y.1).take j).length<=j:=by rw[AO];omega
 have d:=Xs first x.2 y.2
 unfold Bx;rw[AA]
 split
 . omega
 . simp only[AR];omega
theorem Xo{j:Nat}(g:x.1.length=y.1.length)(h:j<x.1.length){u v:List UInt8}{d e:Bool}(c:x.1[j]?=some (u,d))(f:y.1[j]?=some (v,e)):Bx first x y (j+1)=Bx first x y j++(Ji first u v++Ju e d):=by
 have b:(x.1.zip y.1)[j]?=some ((u,d),(v,e)):=by rw[List.getElem?_zip_eq_some];exact⟨c,f⟩
 unfold Bx;rw[if_neg (by omega),if_neg (by omega),AZ,AZ,List.take_add_one,b,FG];simp[GX]
theorem Xn(b:x.1.length=y.1.length):Bx first x y (x.1.length+1)=Bx first x y x.1.length++Ji first x.2 y.2:=by
 have c:(x.1.zip y.1).length=x.1.length:=by rw[List.length_zip];omega
 unfold Bx;rw[if_pos (by omega),if_neg (by omega),AZ,AQ (by omega),AQ (by omega)]
theorem dj(k:Nat):(∀p∈Ey k,Ek p)/\Bj (Ey k)=k:=by
 unfold Ey
 split
 . refine⟨λp b=>?_,by simp[Bj,Ee]⟩
   obtain rfl:=List.mem_singleton.1 b;exact⟨by simp,by simp⟩
 . exact⟨by simp,by simp[Bj];omega⟩
theorem K0(u:List UInt8):(∀p∈Cq u,Ek p)/\Bj (Cq u)=u.length:=by
 unfold Cq
 split
 . refine⟨λp b=>?_,by simp[Bj,Ee]⟩
   obtain rfl:=List.mem_singleton.1 b;exact⟨by simp,by simp⟩
 . rename_i h
   rw[Classical.not_not.1 h];exact⟨by simp,by simp[Bj]⟩
theorem OV(l m:List Pt):Bj (l++m)=Bj l+Bj m:=by simp[Bj]
theorem Rx(first:Bool)(u v:List UInt8):(∀p∈Ji first u v,Ek p)/\Bj (Ji first u v)=u.length+v.length:=by
 obtain⟨d,f⟩:=dj v.length;obtain⟨c,e⟩:=K0 u;unfold Ji
 split
 . refine⟨λp b=>?_,by rw[OV];omega⟩
   rcases List.mem_append.1 b with b|b
   . exact c p b
   . exact d p b
 . refine⟨λp b=>?_,by rw[OV];omega⟩
   rcases List.mem_append.1 b with b|b
   . exact d p b
   . exact c p b
theorem W9(e d:Bool):(∀p∈Ju e d,Ek p)/\Bj (Ju e d)<=1:=by
 cases e<;>cases d<;>simp[Ju,II,Ek,Bj,Ee]
theorem Zl(first:Bool)(x y:Dj)(j:Nat):∀p∈Bx first x y j,Ek p:=by
 intro p b;unfold Bx at b
 rcases List.mem_append.1 b with b|b
 . obtain⟨z,_,b⟩:=List.mem_flatMap.1 b
   unfold GX at b
   rcases List.mem_append.1 b with b|b
   . exact(Rx _ _ _).1 p b
   . exact(W9 _ _).1 p b
 . split at b
   . exact(Rx _ _ _).1 p b
   . cases b
theorem WM(first:Bool):∀(x y:List (List UInt8×Bool))(j:Nat),Bj (((x.zip y).take j).flatMap (GX first))<=Ep x+Ep y+j
 | [],y,j=>by simp[Bj];omega
 | _ :: _,[],j=>by simp[Bj];omega
 | (u,d) :: x,(v,e) :: y,0=>by simp[Bj];omega
 | (u,d) :: x,(v,e) :: y,j+1=>by
   have ih:=WM first x y j
   have g:=(Rx first u v).2;have h:=(W9 e d).2;have c:Ep ((u,d) :: x)=u.length+Ep x:=by simp[Ep]
   have b:Ep ((v,e) :: y)=v.length+Ep y:=by simp[Ep]
   rw[List.zip_cons_cons,EM,CY,OV,c,b];have f:Bj (GX first ((u,d),(v,e)))=Bj (Ji first u v)+Bj (Ju e d):=OV _ _;omega
theorem WL(first:Bool)(x y:Dj)(j:Nat):Bj (Bx first x y j)<=Ep x.1+x.2.length+(Ep y.1+y.2.length)+j:=by
 have b:=WM first x.1 y.1 j
 have c:=(Rx first x.2 y.2).2;unfold Bx;rw[OV]
 split
 . omega
 . simp only[Bj,BU,FE]at b ⊢;omega
def QT (first:Bool) (x y:Dj) (n OB:Nat) (W0:World) (k:Nat) (i:Value) (wr:World):Prop:=∃j:Nat,i=I6 j/\j+k=n+1/\Ci wr OB (Bx first x y j)/\Below OB W0 wr
structure Bp (W:World) (q gx1 gx2 gy1 gy2 n:Nat) (x y:Dj):Prop where
 a0:W.cell? (Ad q 0)=some (Sl gx1 (n+1) (n+1))
 a1:W.cell? (Ad q 1)=some (Sl gx2 n n)
 b0:W.cell? (Ad (q+1) 0)=some (Sl gy1 (n+1) (n+1))
 b1:W.cell? (Ad (q+1) 1)=some (Sl gy2 n n)
 x1:∀j u d,x.1[j]?=some (u,d)->W.cell? (Ad gx1 j)=some (Sx u)/\W.cell? (Ad gx2 j)=some (.bool d)
 y1:∀j u d,y.1[j]?=some (u,d)->W.cell? (Ad gy1 j)=some (Sx u)/\W.cell? (Ad gy2 j)=some (.bool d)
 x2:W.cell? (Ad gx1 n)=some (Sx x.2)
 y2:W.cell? (Ad gy1 n)=some (Sx y.2)
 lt:gx1<q/\gx2<q/\gy1<q/\gy2<q
theorem Hu{W e:World}(h:Bp W q gx1 gx2 gy1 gy2 n x y){B:Nat}(b:Below B W e)(m:q+2<=B):Bp e q gx1 gx2 gy1 gy2 n x y:=by
 obtain⟨f,i,g,k⟩:=h.lt
 exact ⟨(zC b q 0 (by show q<B;omega)).trans h.a0,(zC b q 1 (by show q<B;omega)).trans h.a1,(zC b (q+1) 0 (by show q+1<B;omega)).trans h.b0,(zC b (q+1) 1 (by show q+1<B;omega)).trans h.b1,
  λj u d c=>⟨(zC b gx1 j (by show gx1<B;omega)).trans (h.x1 j u d c).1,(zC b gx2 j (by show gx2<B;omega)).trans (h.x1 j u d c).2⟩,
  λj u d c=>⟨(zC b gy1 j (by show gy1<B;omega)).trans (h.y1 j u d c).1,(zC b gy2 j (by show gy2<B;omega)).trans (h.y1 j u d c).2⟩,
  (zC b gx1 n (by show gx1<B;omega)).trans h.x2,(zC b gy1 n (by show gy1<B;omega)).trans h.y2,h.lt⟩
theorem XX{m k e:World}{I G:Nat}(i:x.1.length=n)(O:y.1.length=n)
    (C:m.ownsRow I 9 1 (Sl gx1 (n+1) (n+1)) (n+1) ((Ez n x).map Cz)) (H:m.ownsRow I 4 1 (Sl gx2 n n) n ((Gj n x).map Value.bool))
    (t:k.ownsRow G 9 1 (Sl gy1 (n+1) (n+1)) (n+1) ((Ez n y).map Cz)) (J:k.ownsRow G 4 1 (Sl gy2 n n) n ((Gj n y).map Value.bool))
    (s:Bw m e) (F:Bw k e) (S:m.heap.size<=q) (R:k.heap.size<=q)
    (K:e.cell? (Ad q 0)=some (Sl gx1 (n+1) (n+1))) (L:e.cell? (Ad q 1)=some (Sl gx2 n n)) (Q:e.cell? (Ad (q+1) 0)=some (Sl gy1 (n+1) (n+1))) (P:e.cell? (Ad (q+1) 1)=some (Sl gy2 n n)) :
    Bp e q gx1 gx2 gy1 gy2 n x y:=by
 have g:=(C.lt gx1 rfl).2;have A:=(H.lt gx2 rfl).2;have h:=(t.lt gy1 rfl).2;have r:=(J.lt gy2 rfl).2
 have f:∀(x:Dj),x.1.length=n->(∀(j:Nat) (u:List UInt8) (d:Bool),x.1[j]?=some (u,d)->((Ez n x).map Cz)[j]?=some (Value.string ⟨u.toArray⟩)/\((Gj n x).map Value.bool)[j]?=some (Value.bool d))/\((Ez n x).map Cz)[n]?=some (Value.string ⟨x.2.toArray⟩):=by
  intro x i;refine⟨λj u d c=>?_,?_⟩
  . have b:=(De c)
    have B:(Ez n x)[j]?=some u:=by
     unfold Ez;rw[AX (by simpa using b),BD,c];rfl
    have N:(Gj n x)[j]?=some d:=by
     unfold Gj;rw[AX (by simpa using b),BD,c];rfl
    rw[BD,B,BD,N];exact⟨rfl,rfl⟩
  . have B:(Ez n x)[n]?=some x.2:=by
      unfold Ez;rw[AL (by simp[i])];simp[i]
    rw[BD,B];rfl
 obtain⟨o,p⟩:=f x i;obtain⟨z,E⟩:=f y O;refine⟨K,L,Q,P,λj u d c=>?_,λj u d c=>?_,?_,?_,by omega,by omega,by omega,by omega⟩
 . have b:=(De c)
   obtain⟨D,v⟩:=o j u d c;exact⟨(zC s gx1 j g).trans ((C.cellAt j (by omega)).trans D),(zC s gx2 j A).trans ((H.cellAt j (by omega)).trans v)⟩
 . have b:=(De c)
   obtain⟨D,v⟩:=z j u d c;exact⟨(zC F gy1 j h).trans ((t.cellAt j (by omega)).trans D),(zC F gy2 j r).trans ((J.cellAt j (by omega)).trans v)⟩
 . exact(zC s gx1 n g).trans ((C.cellAt n (by omega)).trans p)
 . exact(zC F gy1 n h).trans ((t.cellAt n (by omega)).trans E)
theorem kB(g f:Value)(first:Bool)(a b:List Pt)(w:World)(k:Ae w g a)(m:Ae w f b)(d:∀p∈a,Cp p)(i:∀p∈b,Cp p)(o:∀p∈a,p.put.length<100000000)(h:∀p∈b,p.put.length<100000000)(r:a.length<10000000)(t:b.length<10000000)(j:Dy a b≠0) :
    Cg 86 #[g,f,.bool first] w (Rt w (.tuple #[.slice none 0 0,I6 (Dy a b)])):=by
 have u:Hid _:=QG g f a b w k m d i o h r t;have s:¬Dy a b=0:=j;generalize Dy a b=E at *;obtain⟨z,v,rfl,_⟩:=k;obtain⟨A,B,rfl,_⟩:=m;clear d i o h j
 go_enter func86,ntmps86
 go_wp2_with (go_at_call 82;refine AC u.out ?_;rintro e d ⟨rfl,c⟩)
 go_ret2
 exact⟨rfl,c⟩
theorem kC(k j:Value)(first:Bool)(a b:List Pt)(w:World)(t:Ae w k a)(u:Ae w j b)(s:∀p∈a,Cp p)(z:∀p∈b,Cp p)(C:∀p∈a,p.put.length<100000000)(D:∀p∈b,p.put.length<100000000)(A:a.length<10000000)(E:b.length<10000000)(B:Dy a b=0)(L:(Be b).1≠(Be a).1) :
    Cg 86 #[k,j,.bool first] w (Rt w (.tuple #[.slice none 0 0,I6 (2)])):=by
 have F:Hid _:=QG k j a b w t u s z C D A E;rw[B]at F;have v:=Aa λg (o:Bw w g)=>Ki k a g (E5 t o) A;have m:=Aa λg (o:Bw w g)=>Ki j b g (E5 u o) E;generalize (Be a).1=A1 at *;generalize (Be a).2=A2 at *;generalize (Be b).1=B1 at *;generalize (Be b).2=B2 at *;obtain⟨H,K,rfl,_⟩:=t;obtain⟨I,J,rfl,_⟩:=u;clear s z C D B
 go_enter func86,ntmps86
 go_wp2_with (first
  | (have _:=c;go_at_call 83;refine(m.out _ c.out).mono ?_;rintro e G ⟨rfl,h⟩;have r:=Aa (c.out.trans (h.mono c.out.size));clear h)
  | (go_at_call 83;refine(v.out _ d.out).mono ?_;rintro e z ⟨rfl,i⟩;have c:=Aa (d.out.trans (i.mono d.out.size));clear i)
  | (go_at_call 82;refine AC F.out ?_;rintro e s ⟨rfl,f⟩;have d:=Aa f;clear f))
 go_ret2
 exact⟨rfl,r.out⟩
end
section
attribute [local go_sem] Oper.semAt_some
theorem lm(v1 v2:Value)(a b:List Pt)(w:World)(h1:Ae w v1 a)(h2:Ae w v2 b)(w1:∀p∈a,Cp p)(Z:∀p∈b,Cp p)(s1:∀p∈a,p.put.length<100000000)(s2:∀p∈b,p.put.length<100000000)(f1:Bs a)(f2:Bs b)(he:Dy a b=0)(hl:(Be b).1=(Be a).1) :
    Cg 86 #[v1,v2,.bool true] w λe w'=>∃v',e=.returned (.tuple #[v',I6 0])/\opN w.heap.size w' v' (Ag (Bx true (Bk (Ag a)) (Bk (Ag b)) ((Bk (Ag a)).1.length+1)))/\Bw w w':=by
 have cB:Hid _:=QG v1 v2 a b w h1 h2 w1 Z s1 s2 f1.len f2.len;rw[he]at cB;have cL1:=Aa λE (Y:Bw w E)=>Ki v1 a E (E5 h1 Y) f1.len;have cL2:=Aa λE (Y:Bw w E)=>Ki v2 b E (E5 h2 Y) f2.len;obtain⟨n1,n2,n3,n4⟩:=Hn f1;obtain⟨m1,m2,m3,m4⟩:=Hn f2;have sn1:=Da λp hp=>(n1 p hp).1;have sm1:=Da λp hp=>(m1 p hp).1;have hwn:Bj (Ag a)<10000000:=by rw[J7 a (Da f1.one)];have:=f1.w;omega
 have hwm:Bj (Ag b)<10000000:=by rw[J7 b (Da f2.one)];have:=f2.w;omega
 have hln:(Ag a).length<10000000:=by
  have:=Qw _ λp hp=>(n1 p hp).1;have key:∀(l:List Pt),(∀p∈l,Am p)->l.length<=Bc l:=by
   intro l
   induction l with
   | nil=>intro _;simp
   | cons p l ih=>intro h;have h1:=Gm (h p (by simp));have h2:=ih λq hq=>h q (by simp[hq]);rw[Ff,AJ];omega
  have:=key _ λp hp=>(n1 p hp).1;omega
 have hlm:(Ag b).length<10000000:=by
  have key:∀(l:List Pt),(∀p∈l,Am p)->l.length<=Bc l:=by
   intro l
   induction l with
   | nil=>intro _;simp
   | cons p l ih=>intro h;have h1:=Gm (h p (by simp));have h2:=ih λq hq=>h q (by simp[hq]);rw[Ff,AJ];omega
  have:=key _ λp hp=>(m1 p hp).1;omega
 have hA1:(Be a).1=((Bk (Ag a)).1.length:Int):=by
  rw[(Hm f1).1,←n3,←JL _ sn1,JE];rfl
 have hB1:(Be b).1=((Bk (Ag b)).1.length:Int):=by
  rw[(Hm f2).1,←m3,←JL _ sm1,JE];rfl
 have hnn:(Bk (Ag b)).1.length=(Bk (Ag a)).1.length:=by omega
 have hn9:(Bk (Ag a)).1.length<3000000:=by
  have h8:=(Mg (Ag a) sn1 (by omega)).2.2.1;rw[J7 a (Da f1.one)]at h8;have:=f1.w;omega
 have cS1:Hid (∀E,Bw w E->_):=λE (Y:Bw w E)=>OX v1 a E (E5 h1 Y) (Da f1.one) (by have:=f1.w;omega) f1.len;have cS3:Hid (∀E,Bw w E->_):=λE (Y:Bw w E)=>OX v2 b E (E5 h2 Y) (Da f2.one) (by have:=f2.w;omega) f2.len;have cS2:Hid (∀(v':Value) E,Ae E v' (Ag a)->_):=λv' E (ho:Ae E v' (Ag a))=>Qr v' (Ag a) E ho sn1 hwn hln _ rfl;have cS4:Hid (∀(v':Value) E,Ae E v' (Ag b)->_):=λv' E (ho:Ae E v' (Ag b))=>Qr v' (Ag b) E ho sm1 hwm hlm _ hnn;have hSm:∀p∈Bx true (Bk (Ag a)) (Bk (Ag b)) ((Bk (Ag a)).1.length+1),Ek p:=Zl _ _ _ _;have hWt:Bj (Bx true (Bk (Ag a)) (Bk (Ag b)) ((Bk (Ag a)).1.length+1))<10000000:=by
  have e1:=QP (Ag a) sn1;have e2:=QP (Ag b) sm1;have e3:=WL true (Bk (Ag a)) (Bk (Ag b)) ((Bk (Ag a)).1.length+1);have e4:=J7 a (Da f1.one);have e5:=J7 b (Da f2.one);have e6:=f1.w;have e7:=f2.w;have e8:=(Mg (Ag a) sn1 (by omega)).2.2.1;omega
 obtain⟨x,hx⟩:∃x,Bk (Ag a)=x:=⟨_,rfl⟩;obtain⟨y,hy⟩:∃y,Bk (Ag b)=y:=⟨_,rfl⟩;rw[hx]at hA1 hnn hn9 cS2 hSm hWt ⊢;rw[hy]at hB1 hnn cS4 hSm hWt ⊢;rw[hx]at cS4;obtain⟨n,hn⟩:∃n,x.1.length=n:=⟨_,rfl⟩;rw[hn]at hA1 hnn hn9 cS2 cS4 hSm hWt ⊢;rw[hl]at cL2;have hN:(Be a).1=(n:Int):=hA1;generalize (Be a).1=N at cL1 cL2 hN;have HN:=Aa hN;have hN1:0<=N:=by omega
 have hN2:N<3000000:=by omega
 clear hN;have HXL:=Aa hn;have HYL:=Aa hnn;have HSm:=Aa hSm;have HWt:=Aa hWt;clear hl hA1;generalize (Be a).2=A2 at *;generalize (Be b).2=B2 at *;obtain⟨p1,c1,rfl,_⟩:=h1;obtain⟨p2,c2,rfl,_⟩:=h2;clear w1 Z s1 s2 f1 f2 he hB1 hnn hn hSm hWt n1 n2 n3 n4 m1 m2 m3 m4 sn1 sm1 hwn hwm hln hlm hx hy;obtain⟨na,hna⟩:∃l,Ag a=l:=⟨_,rfl⟩;obtain⟨nb,hnb⟩:∃l,Ag b=l:=⟨_,rfl⟩;rw[hna]at cS1 cS2;rw[hnb]at cS3 cS4;clear hna hnb;obtain⟨LF,hLF⟩:∃l,Bx true x y (n+1)=l:=⟨_,rfl⟩;rw[hLF]at HSm HWt ⊢;have HLF:=Aa hLF;clear hLF
 go_enter func86,ntmps86
 go_wp2_with (first
  | (have _:=HO6;go_at_call 119;refine(cS4.out _ _ (Ny HO6.out)).mono ?_;rintro e t ⟨gy1,gy2,rfl,o1,o2,Y⟩;have HY1:=Aa o1;have HY2:=Aa o2;have H:=Aa Y;clear o1 o2 Y)
  | (have _:=HG7;go_at_call 84;refine AC HG7.out ?_;rintro e w8 ⟨v8,rfl,o8,hb8⟩;have HO6:=Aa o8;have HB8:=Aa (HB7.out.trans (hb8.mono HB7.out.size));have R:=Aa (HB67.out.trans (hb8.mono HB67.out.size));obtain⟨p8,c8,rfl⟩:=Bm o8;clear o8 hb8)
  | (have _:=HX1;go_at_call 119;refine(cS3.out _ HB6.out).mono ?_;rintro e w7 ⟨g7,rfl,hb7,hc7⟩;have HG7:=Aa hc7;have HB7:=Aa (HB6.out.trans (hb7.mono HB6.out.size));have HB67:=Aa hb7;clear hb7 hc7)
  | (have _:=HO5;go_at_call 119;refine(cS2.out _ _ (Ny HO5.out)).mono ?_;rintro e w6 ⟨gx1,gx2,rfl,o1,o2,Y⟩;have HX1:=Aa o1;have HX2:=Aa o2;have HB6:=Aa (HB5.out.trans (Y.mono HB5.out.size));clear o1 o2 Y)
  | (have _:=HG4;go_at_call 84;refine AC HG4.out ?_;rintro e w5 ⟨v5,rfl,o5,hb5⟩;have HO5:=Aa o5;have HB5:=Aa (HB4.out.trans (hb5.mono HB4.out.size));obtain⟨p5,c5,rfl⟩:=Bm o5;clear o5 hb5)
  | (have _:=HB3;go_at_call 119;refine(cS1.out _ HB3.out).mono ?_;rintro e w4 ⟨g4,rfl,hb4,hc4⟩;have HG4:=Aa hc4;have HB4:=Aa (HB3.out.trans (hb4.mono HB3.out.size));clear hb4 hc4)
  | (have _:=g;go_at_call 83;refine(cL2.out _ g.out).mono ?_;rintro e w3 ⟨rfl,hb3⟩;have HB3:=Aa (g.out.trans (hb3.mono g.out.size));clear hb3)
  | (have _:=s;go_at_call 83;refine(cL1.out _ s.out).mono ?_;rintro e Z ⟨rfl,r⟩;have g:=Aa (s.out.trans (r.mono s.out.size));clear r)
  | (go_at_call 82;refine AC cB.out ?_;rintro e w1 ⟨rfl,B⟩;have s:=Aa B;clear B))
 obtain⟨W0,K⟩:∃W0,W0=(((t.alloc (Oc #[Sl gx1 (n+1) (n+1),Sl gx2 n n] 164)).alloc (Oc #[Sl gy1 (n+1) (n+1),Sl gy2 n n] 164)).alloc (Oc #[.slice none 0 0] 37)):=⟨_,rfl⟩;rw[←K];have S:Bw t W0:=by rw[K];exact((zA _ _).alloc (by simp) _).alloc (by simp;omega) _
 have hs0:W0.heap.size=t.heap.size+1+1+1:=by rw[K];simp
 have hb69:Bw w6 W0:=(R.out.trans (H.out.mono R.out.size)).trans (S.mono (AF R.out.size H.out.size));have hb80:Bw t W0:=S
 have O:Hid (Bp W0 t.heap.size gx1 gx2 gy1 gy2 n x y):=XX HXL.out HYL.out HX1.out HX2.out HY1.out HY2.out hb69 S (AF R.out.size H.out.size) (Ai _)
  (by rw[K];simp[go_sem]) (by rw[K];simp[go_sem]) (by rw[K];simp[go_sem]) (by rw[K];simp[go_sem])
 have HBW:Hid (Bw w W0):=(HB8.out.trans (H.out.mono HB8.out.size)).trans (S.mono (AF HB8.out.size H.out.size));have HSZ:=Aa (AF HB8.out.size H.out.size)
 have hst:QT true x y n (t.heap.size+1+1) W0 (n+1) (I6 0) W0:=by
  refine⟨0,rfl,by omega,⟨⟨none,0,?_,?_⟩,?_⟩,.refl _ _⟩
  . have e:Bx true x y 0=[]:=by simp[Bx]
    rw[e,K];simp[go_sem]
  . have e:Bx true x y 0=[]:=by simp[Bx]
    rw[e];exact BL _ _ _ _
  . rw[K];simp[go_sem]
 have HST:=Aa hst;clear hst K S hs0 hb69 hb80 s g HB3 HG4 HB4 HO5 HB5 HX1 HX2 HB6 HG7 HB7 HB67 HO6 HB8 R HY1 HY2 H cB cL1 cL2 cS1 cS2 cS3 cS4
 go_loopg [50] (n+1) (λk i wr=>QT true x y n (t.heap.size+1+1) W0 k i wr)
 case atStart=>exact HST.out
 case round =>
  obtain⟨j,rfl,hjk,ho,Y⟩:=hrel;have X:=Aa ho;have HBR:=Aa Y;have P:=WK true x y j;clear HST ho Y
  rcases CQ n j with hj|hj
  . obtain rfl:gk=0:=by omega
    obtain rfl:j=n+1:=by omega
    rw[HLF.out]at X P;have ho:=X.out;obtain⟨⟨pL,cL,k1,k2⟩,k3⟩:=ho;have CS:Hid _:=OX _ LF wr (Ny k2) HSm.out HWt.out (by omega);have hNn:=HN.out;have hjn:¬(((n+1:Nat):Int)<N+1):=by omega
    clear hj hjk P k2 hNn
    go_wp2_with (first
     | (go_at_call 119;refine AC CS.out ?_;rintro e Z ⟨g2,rfl,r,hc2⟩;have HC2:=Aa hc2;have g:=Aa r;clear r hc2)
     | (have _:=HC2;go_at_call 84;refine AC HC2.out ?_;rintro e w3 ⟨v3,rfl,o3,hb3⟩))
    obtain⟨p3,c3,rfl⟩:=Bm o3
    go_ret2
    have hB:=HBW.out.trans (HBR.out.mono (show w.heap.size<=t.heap.size+1+1 by have:=HSZ.out;omega));exact⟨_,rfl,J6 (AF hB.size g.out.size) o3,(hB.trans (g.out.mono hB.size)).trans (hb3.mono (AF hB.size g.out.size))⟩
  rcases CQ j n with hj2|hj2
  rotate_left
  . obtain rfl:j=n:=by omega
    obtain rfl:gk=1:=by omega
    have o:Bx true x y (j+1)=Bx true x y j++(Cq x.2++Ey y.2.length):=by
     have:=Xn (first:=true) (HXL.out.trans HYL.out.symm);rw[HXL.out]at this;exact this
    obtain⟨L,hL⟩:∃L,Bx true x y j=L:=⟨_,rfl⟩;rw[hL]at X P o;have m:Hid (Bp wr t.heap.size gx1 gx2 gy1 gy2 j x y):=Hu O.out HBR.out (Ai _);have fa0wr:=m.out.a0;have fb0wr:=m.out.b0;have fxwr:=m.out.x2;have fywr:=m.out.y2;obtain⟨U,hU⟩:∃U,x.2=U:=⟨_,rfl⟩;obtain⟨V,hV⟩:∃V,y.2=V:=⟨_,rfl⟩;rw[hU]at o fxwr;rw[hV]at o fywr;have HU:=Aa hU;have HV:=Aa hV;have hzv:(ByteArray.mk V.toArray).size=V.length:=by simp[ByteArray.size]
    have cP:=Aa λW l (h:Ci W (t.heap.size+1+1) l) (hl:l.length<1000000000)=>Rz _ l U W h hl;have cK:=Aa λW l (h:Ci W (t.heap.size+1+1) l) (hl:l.length<1000000000)=>Ot _ l V.length W h hl;have D:Hid (Bx true x y (j+1)=(L++Cq U)++Ey V.length):=by rw[AH];exact o
    have hpk:(Cq U).length<=1/\(Ey V.length).length<=1:=⟨by unfold Cq;split<;>simp,by unfold Ey;split<;>simp⟩;have HL0:Hid (L.length<1000000000):=show L.length<1000000000 by omega
    have HL1:Hid ((L++Cq U).length<1000000000):=show(L++Cq U).length<1000000000 by rw[AA];omega
    have hNn:=HN.out;have hjn:(j:Int)<N+1:=by omega
    have hjd:(j:Int)=N:=by omega
    clear hNn;subst hjd;have hj9:(j:Int)<10000000:=by omega
    clear hL o hU hV hpk hjk P hj hj2
    go_wp2_with (first
     | (have _:=J;go_at_call 120;refine(cK.out _ _ J.out HL1.out).mono ?_;rintro e Z ⟨⟨v2,rfl⟩,F,r⟩;have I:=Aa F;have g:=Aa (s.out.trans r);have c:Hid (Bp Z t.heap.size gx1 gx2 gy1 gy2 j x y):=Hu O.out g.out (Ai _);have fa0w2:=c.out.a0;have fb0w2:=c.out.b0;have fxw2:=c.out.x2;rw[HU.out]at fxw2;have fyw2:=c.out.y2;rw[HV.out]at fyw2;clear F r)
     | (go_at_call 121;refine(cP.out _ _ X.out HL0.out).mono ?_;rintro e w1 ⟨⟨v1,rfl⟩,G,B⟩;have J:=Aa G;have s:=Aa (HBR.out.trans B);have f:Hid (Bp w1 t.heap.size gx1 gx2 gy1 gy2 j x y):=Hu O.out s.out (Ai _);have fa0w1:=f.out.a0;have fb0w1:=f.out.b0;have fxw1:=f.out.x2;rw[HU.out]at fxw1;have fyw1:=f.out.y2;rw[HV.out]at fyw1;clear G B))
    go_roundg 0
    case measure=>omega
    case rel=>exact⟨j+1,by go_num,by omega,by rw[D.out];exact I.out,g.out⟩
  . obtain ⟨⟨u,d⟩,hxj⟩:∃z,x.1[j]?=some z:=⟨_,B7 (by rw[HXL.out];exact hj2)⟩
    obtain⟨⟨v,e⟩,hyj⟩:∃z,y.1[j]?=some z:=⟨_,B7 (by rw[HYL.out];exact hj2)⟩;have C:=Aa hxj;have A:=Aa hyj;have o:Bx true x y (j+1)=Bx true x y j++((Cq u++Ey v.length)++Ju e d):=Xo (first:=true) (HXL.out.trans HYL.out.symm) (by rw[HXL.out];exact hj2) hxj hyj;obtain⟨L,hL⟩:∃L,Bx true x y j=L:=⟨_,rfl⟩;rw[hL]at X P o;have m:Hid (Bp wr t.heap.size gx1 gx2 gy1 gy2 n x y):=Hu O.out HBR.out (Ai _);have fa0wr:=m.out.a0;have fa1wr:=m.out.a1;have fb0wr:=m.out.b0;have fb1wr:=m.out.b1;have fxwr:=(m.out.x1 _ _ _ C.out).1;have fxdwr:=(m.out.x1 _ _ _ C.out).2;have fywr:=(m.out.y1 _ _ _ A.out).1;have fydwr:=(m.out.y1 _ _ _ A.out).2;have hzv:(ByteArray.mk v.toArray).size=v.length:=by simp[ByteArray.size]
    have cP:=Aa λW l (h:Ci W (t.heap.size+1+1) l) (hl:l.length<1000000000)=>Rz _ l u W h hl;have cK:=Aa λW l (h:Ci W (t.heap.size+1+1) l) (hl:l.length<1000000000)=>Ot _ l v.length W h hl;have cU:Hid (∀W l,Ci W (t.heap.size+1+1) l->l.length<1000000000->Cg 120 #[I6 1,.pointer (some (Ad (t.heap.size+1+1) 0))] W λe w'=>(∃v,e=.returned v)/\Ci w' (t.heap.size+1+1) (l++[⟨1,0,[]⟩])/\Below (t.heap.size+1+1) W w'):=λW l h hl=>Ot _ l 1 W h hl;have D:Hid (Bx true x y (j+1)=((L++Cq u)++Ey v.length)++Ju e d):=by rw[AH L,AH L];exact o
    have hpk:(Cq u).length<=1/\(Ey v.length).length<=1:=⟨by unfold Cq;split<;>simp,by unfold Ey;split<;>simp⟩;have HL0:Hid (L.length<1000000000):=show L.length<1000000000 by omega
    have HL1:Hid ((L++Cq u).length<1000000000):=show(L++Cq u).length<1000000000 by rw[AA];omega
    have HL2':((L++Cq u)++Ey v.length).length<100000000:=by rw[AA,AA];omega
    obtain⟨L2,hL2⟩:∃l,(L++Cq u)++Ey v.length=l:=⟨_,rfl⟩;rw[hL2]at D HL2';have HL2:=Aa HL2';have HE2:=Aa hL2;clear HL2' hL2;have hjn2:(j:Int)<(n:Int):=by omega
    have hNn:=HN.out;have hjn:(j:Int)<N+1:=by omega
    have hjd:((j:Int)==N)=false:=beq_eq_false_iff_ne.2 (by omega);clear hNn;have hj9:(j:Int)<10000000:=by omega
    obtain⟨k,rfl⟩:∃k,gk=k+1:=⟨gk - 1,by omega⟩;have HJK:=Aa hjk;clear hL o hpk hjk P hj hj2 hxj hyj
    cases e with
    | true =>
     go_wp2_with (first
      | (have _:=J;go_at_call 120;refine(cK.out _ _ J.out HL1.out).mono ?_;rintro e Z ⟨⟨v2,rfl⟩,F,r⟩;have I:Hid (Ci Z (t.heap.size+1+1) L2):=(by rw[←HE2.out];exact F);have g:=Aa (s.out.trans r);have c:Hid (Bp Z t.heap.size gx1 gx2 gy1 gy2 n x y):=Hu O.out g.out (Ai _);have fa0w2:=c.out.a0;have fa1w2:=c.out.a1;have fb0w2:=c.out.b0;have fb1w2:=c.out.b1;have fxw2:=(c.out.x1 _ _ _ C.out).1;have fxdw2:=(c.out.x1 _ _ _ C.out).2;have fyw2:=(c.out.y1 _ _ _ A.out).1;have fydw2:=(c.out.y1 _ _ _ A.out).2;clear F r)
      | (go_at_call 121;refine(cP.out _ _ X.out HL0.out).mono ?_;rintro e w1 ⟨⟨v1,rfl⟩,G,B⟩;have J:=Aa G;have s:=Aa (HBR.out.trans B);have f:Hid (Bp w1 t.heap.size gx1 gx2 gy1 gy2 n x y):=Hu O.out s.out (Ai _);have fa0w1:=f.out.a0;have fa1w1:=f.out.a1;have fb0w1:=f.out.b0;have fb1w1:=f.out.b1;have fxw1:=(f.out.x1 _ _ _ C.out).1;have fxdw1:=(f.out.x1 _ _ _ C.out).2;have fyw1:=(f.out.y1 _ _ _ A.out).1;have fydw1:=(f.out.y1 _ _ _ A.out).2;clear G B))
     go_roundg k
     case measure=>omega
     case rel=>exact⟨j+1,by go_num,by have:=HJK.out;omega,by rw[D.out];exact(AZ _).symm ▸ I.out,g.out⟩
    | false =>
     cases d with
     | false =>
      go_wp2_with (first
       | (have _:=I;go_at_call 120;refine(cU.out _ _ I.out (Nat.lt_trans HL2.out (by decide))).mono ?_;rintro e w3 ⟨⟨v3,rfl⟩,ho3,hb3⟩)
       | (have _:=J;go_at_call 120;refine(cK.out _ _ J.out HL1.out).mono ?_;rintro e Z ⟨⟨v2,rfl⟩,F,r⟩;have I:Hid (Ci Z (t.heap.size+1+1) L2):=(by rw[←HE2.out];exact F);have g:=Aa (s.out.trans r);have c:Hid (Bp Z t.heap.size gx1 gx2 gy1 gy2 n x y):=Hu O.out g.out (Ai _);have fa0w2:=c.out.a0;have fa1w2:=c.out.a1;have fb0w2:=c.out.b0;have fb1w2:=c.out.b1;have fxw2:=(c.out.x1 _ _ _ C.out).1;have fxdw2:=(c.out.x1 _ _ _ C.out).2;have fyw2:=(c.out.y1 _ _ _ A.out).1;have fydw2:=(c.out.y1 _ _ _ A.out).2;clear F r)
       | (go_at_call 121;refine(cP.out _ _ X.out HL0.out).mono ?_;rintro e w1 ⟨⟨v1,rfl⟩,G,B⟩;have J:=Aa G;have s:=Aa (HBR.out.trans B);have f:Hid (Bp w1 t.heap.size gx1 gx2 gy1 gy2 n x y):=Hu O.out s.out (Ai _);have fa0w1:=f.out.a0;have fa1w1:=f.out.a1;have fb0w1:=f.out.b0;have fb1w1:=f.out.b1;have fxw1:=(f.out.x1 _ _ _ C.out).1;have fxdw1:=(f.out.x1 _ _ _ C.out).2;have fyw1:=(f.out.y1 _ _ _ A.out).1;have fydw1:=(f.out.y1 _ _ _ A.out).2;clear G B))
      go_roundg k
      case measure=>omega
      case rel=>exact⟨j+1,by go_num,by have:=HJK.out;omega,by rw[D.out];exact ho3,g.out.trans hb3⟩
     | true =>
      go_upto_region 22 with (first
       | (have _:=J;go_at_call 120;refine(cK.out _ _ J.out HL1.out).mono ?_;rintro e Z ⟨⟨v2,rfl⟩,F,r⟩;have I:Hid (Ci Z (t.heap.size+1+1) L2):=(by rw[←HE2.out];exact F);have g:=Aa (s.out.trans r);have c:Hid (Bp Z t.heap.size gx1 gx2 gy1 gy2 n x y):=Hu O.out g.out (Ai _);have fa0w2:=c.out.a0;have fa1w2:=c.out.a1;have fb0w2:=c.out.b0;have fb1w2:=c.out.b1;have fxw2:=(c.out.x1 _ _ _ C.out).1;have fxdw2:=(c.out.x1 _ _ _ C.out).2;have fyw2:=(c.out.y1 _ _ _ A.out).1;have fydw2:=(c.out.y1 _ _ _ A.out).2;clear F r;have ho2':=I.out;obtain⟨⟨pq,cq,kq1,kq2⟩,kq3⟩:=ho2';have HRW:=Aa kq2;have HCQ:=Aa kq1;have HQ2:=Aa (Qi I.out);have HQ3:=Aa kq3;clear kq1 kq2 kq3)
       | (go_at_call 121;refine(cP.out _ _ X.out HL0.out).mono ?_;rintro e w1 ⟨⟨v1,rfl⟩,G,B⟩;have J:=Aa G;have s:=Aa (HBR.out.trans B);have f:Hid (Bp w1 t.heap.size gx1 gx2 gy1 gy2 n x y):=Hu O.out s.out (Ai _);have fa0w1:=f.out.a0;have fa1w1:=f.out.a1;have fb0w1:=f.out.b0;have fb1w1:=f.out.b1;have fxw1:=(f.out.x1 _ _ _ C.out).1;have fxdw1:=(f.out.x1 _ _ _ C.out).2;have fyw1:=(f.out.y1 _ _ _ A.out).1;have fydw1:=(f.out.y1 _ _ _ A.out).2;clear G B))
      obtain⟨i0,hi,hz0,hz1,hz2⟩:=info_parts Ho;have kq1:=HCQ.out;have kq3:=HQ3.out;have hq2:=HQ2.out
      go_wp2_with (have _:=I;at_builtin;refine wpList_append_own _ rfl _ _ 37 rfl (t.heap.size+1+1+1) 87 i0 (.agg #[I6 0,I6 0,.string ⟨#[]⟩]) 3 32 underlying37 hi hz0 hz1 hz2 rfl (by decide) _ _ _ rfl (HRW.out.alloc _) (Ad Z.heap.size 0) 1 1 (Ed ⟨0,1,[]⟩) rfl rfl (He _ _ _) (Gx _) (by have:=HL2.out;unfold maxLen;omega) (by have:=HL2.out;omega) (by first | omega | (simp;omega)) ?_)
      intro v3 w3 Q hg3 _;have P3:=Sf (q:=⟨0,1,[]⟩) I.out HCQ.out Q hg3;obtain⟨p3,q3,hv3⟩:=Bm Q;rw[hv3]at P3 Q ⊢;obtain⟨G3,B3,r1,r2⟩:=P3;have HG3:=Aa G3;have HB3:=Aa B3;clear G3 B3 Q hg3 hv3;go_wp2
      go_roundg k
      case measure=>omega
      case rel=>exact⟨j+1,by go_num,by have:=HJK.out;omega,by rw[D.out];exact HG3.out,g.out.trans HB3.out⟩
theorem lr(v1 v2:Value)(a b:List Pt)(w:World)(h1:Ae w v1 a)(h2:Ae w v2 b)(w1:∀p∈a,Cp p)(Z:∀p∈b,Cp p)(s1:∀p∈a,p.put.length<100000000)(s2:∀p∈b,p.put.length<100000000)(f1:Bs a)(f2:Bs b)(he:Dy a b=0)(hl:(Be b).1=(Be a).1) :
    Cg 86 #[v1,v2,.bool false] w λe w'=>∃v',e=.returned (.tuple #[v',I6 0])/\opN w.heap.size w' v' (Ag (Bx false (Bk (Ag a)) (Bk (Ag b)) ((Bk (Ag a)).1.length+1)))/\Bw w w':=by
 have cB:Hid _:=QG v1 v2 a b w h1 h2 w1 Z s1 s2 f1.len f2.len;rw[he]at cB;have cL1:=Aa λE (Y:Bw w E)=>Ki v1 a E (E5 h1 Y) f1.len;have cL2:=Aa λE (Y:Bw w E)=>Ki v2 b E (E5 h2 Y) f2.len;obtain⟨n1,n2,n3,n4⟩:=Hn f1;obtain⟨m1,m2,m3,m4⟩:=Hn f2;have sn1:=Da λp hp=>(n1 p hp).1;have sm1:=Da λp hp=>(m1 p hp).1;have hwn:Bj (Ag a)<10000000:=by rw[J7 a (Da f1.one)];have:=f1.w;omega
 have hwm:Bj (Ag b)<10000000:=by rw[J7 b (Da f2.one)];have:=f2.w;omega
 have hln:(Ag a).length<10000000:=by
  have:=Qw _ λp hp=>(n1 p hp).1;have key:∀(l:List Pt),(∀p∈l,Am p)->l.length<=Bc l:=by
   intro l
   induction l with
   | nil=>intro _;simp
   | cons p l ih=>intro h;have h1:=Gm (h p (by simp));have h2:=ih λq hq=>h q (by simp[hq]);rw[Ff,AJ];omega
  have:=key _ λp hp=>(n1 p hp).1;omega
 have hlm:(Ag b).length<10000000:=by
  have key:∀(l:List Pt),(∀p∈l,Am p)->l.length<=Bc l:=by
   intro l
   induction l with
   | nil=>intro _;simp
   | cons p l ih=>intro h;have h1:=Gm (h p (by simp));have h2:=ih λq hq=>h q (by simp[hq]);rw[Ff,AJ];omega
  have:=key _ λp hp=>(m1 p hp).1;omega
 have hA1:(Be a).1=((Bk (Ag a)).1.length:Int):=by
  rw[(Hm f1).1,←n3,←JL _ sn1,JE];rfl
 have hB1:(Be b).1=((Bk (Ag b)).1.length:Int):=by
  rw[(Hm f2).1,←m3,←JL _ sm1,JE];rfl
 have hnn:(Bk (Ag b)).1.length=(Bk (Ag a)).1.length:=by omega
 have hn9:(Bk (Ag a)).1.length<3000000:=by
  have h8:=(Mg (Ag a) sn1 (by omega)).2.2.1;rw[J7 a (Da f1.one)]at h8;have:=f1.w;omega
 have cS1:Hid (∀E,Bw w E->_):=λE (Y:Bw w E)=>OX v1 a E (E5 h1 Y) (Da f1.one) (by have:=f1.w;omega) f1.len;have cS3:Hid (∀E,Bw w E->_):=λE (Y:Bw w E)=>OX v2 b E (E5 h2 Y) (Da f2.one) (by have:=f2.w;omega) f2.len;have cS2:Hid (∀(v':Value) E,Ae E v' (Ag a)->_):=λv' E (ho:Ae E v' (Ag a))=>Qr v' (Ag a) E ho sn1 hwn hln _ rfl;have cS4:Hid (∀(v':Value) E,Ae E v' (Ag b)->_):=λv' E (ho:Ae E v' (Ag b))=>Qr v' (Ag b) E ho sm1 hwm hlm _ hnn;have hSm:∀p∈Bx false (Bk (Ag a)) (Bk (Ag b)) ((Bk (Ag a)).1.length+1),Ek p:=Zl _ _ _ _;have hWt:Bj (Bx false (Bk (Ag a)) (Bk (Ag b)) ((Bk (Ag a)).1.length+1))<10000000:=by
  have e1:=QP (Ag a) sn1;have e2:=QP (Ag b) sm1;have e3:=WL false (Bk (Ag a)) (Bk (Ag b)) ((Bk (Ag a)).1.length+1);have e4:=J7 a (Da f1.one);have e5:=J7 b (Da f2.one);have e6:=f1.w;have e7:=f2.w;have e8:=(Mg (Ag a) sn1 (by omega)).2.2.1;omega
 obtain⟨x,hx⟩:∃x,Bk (Ag a)=x:=⟨_,rfl⟩;obtain⟨y,hy⟩:∃y,Bk (Ag b)=y:=⟨_,rfl⟩;rw[hx]at hA1 hnn hn9 cS2 hSm hWt ⊢;rw[hy]at hB1 hnn cS4 hSm hWt ⊢;rw[hx]at cS4;obtain⟨n,hn⟩:∃n,x.1.length=n:=⟨_,rfl⟩;rw[hn]at hA1 hnn hn9 cS2 cS4 hSm hWt ⊢;rw[hl]at cL2;have hN:(Be a).1=(n:Int):=hA1;generalize (Be a).1=N at cL1 cL2 hN;have HN:=Aa hN;have hN1:0<=N:=by omega
 have hN2:N<3000000:=by omega
 clear hN;have HXL:=Aa hn;have HYL:=Aa hnn;have HSm:=Aa hSm;have HWt:=Aa hWt;clear hl hA1;generalize (Be a).2=A2 at *;generalize (Be b).2=B2 at *;obtain⟨p1,c1,rfl,_⟩:=h1;obtain⟨p2,c2,rfl,_⟩:=h2;clear w1 Z s1 s2 f1 f2 he hB1 hnn hn hSm hWt n1 n2 n3 n4 m1 m2 m3 m4 sn1 sm1 hwn hwm hln hlm hx hy;obtain⟨na,hna⟩:∃l,Ag a=l:=⟨_,rfl⟩;obtain⟨nb,hnb⟩:∃l,Ag b=l:=⟨_,rfl⟩;rw[hna]at cS1 cS2;rw[hnb]at cS3 cS4;clear hna hnb;obtain⟨LF,hLF⟩:∃l,Bx false x y (n+1)=l:=⟨_,rfl⟩;rw[hLF]at HSm HWt ⊢;have HLF:=Aa hLF;clear hLF
 go_enter func86,ntmps86
 go_wp2_with (first
  | (have _:=HO6;go_at_call 119;refine(cS4.out _ _ (Ny HO6.out)).mono ?_;rintro e t ⟨gy1,gy2,rfl,o1,o2,Y⟩;have HY1:=Aa o1;have HY2:=Aa o2;have H:=Aa Y;clear o1 o2 Y)
  | (have _:=HG7;go_at_call 84;refine AC HG7.out ?_;rintro e w8 ⟨v8,rfl,o8,hb8⟩;have HO6:=Aa o8;have HB8:=Aa (HB7.out.trans (hb8.mono HB7.out.size));have R:=Aa (HB67.out.trans (hb8.mono HB67.out.size));obtain⟨p8,c8,rfl⟩:=Bm o8;clear o8 hb8)
  | (have _:=HX1;go_at_call 119;refine(cS3.out _ HB6.out).mono ?_;rintro e w7 ⟨g7,rfl,hb7,hc7⟩;have HG7:=Aa hc7;have HB7:=Aa (HB6.out.trans (hb7.mono HB6.out.size));have HB67:=Aa hb7;clear hb7 hc7)
  | (have _:=HO5;go_at_call 119;refine(cS2.out _ _ (Ny HO5.out)).mono ?_;rintro e w6 ⟨gx1,gx2,rfl,o1,o2,Y⟩;have HX1:=Aa o1;have HX2:=Aa o2;have HB6:=Aa (HB5.out.trans (Y.mono HB5.out.size));clear o1 o2 Y)
  | (have _:=HG4;go_at_call 84;refine AC HG4.out ?_;rintro e w5 ⟨v5,rfl,o5,hb5⟩;have HO5:=Aa o5;have HB5:=Aa (HB4.out.trans (hb5.mono HB4.out.size));obtain⟨p5,c5,rfl⟩:=Bm o5;clear o5 hb5)
  | (have _:=HB3;go_at_call 119;refine(cS1.out _ HB3.out).mono ?_;rintro e w4 ⟨g4,rfl,hb4,hc4⟩;have HG4:=Aa hc4;have HB4:=Aa (HB3.out.trans (hb4.mono HB3.out.size));clear hb4 hc4)
  | (have _:=g;go_at_call 83;refine(cL2.out _ g.out).mono ?_;rintro e w3 ⟨rfl,hb3⟩;have HB3:=Aa (g.out.trans (hb3.mono g.out.size));clear hb3)
  | (have _:=s;go_at_call 83;refine(cL1.out _ s.out).mono ?_;rintro e Z ⟨rfl,r⟩;have g:=Aa (s.out.trans (r.mono s.out.size));clear r)
  | (go_at_call 82;refine AC cB.out ?_;rintro e w1 ⟨rfl,B⟩;have s:=Aa B;clear B))
 obtain⟨W0,K⟩:∃W0,W0=(((t.alloc (Oc #[Sl gx1 (n+1) (n+1),Sl gx2 n n] 164)).alloc (Oc #[Sl gy1 (n+1) (n+1),Sl gy2 n n] 164)).alloc (Oc #[.slice none 0 0] 37)):=⟨_,rfl⟩;rw[←K];have S:Bw t W0:=by rw[K];exact((zA _ _).alloc (by simp) _).alloc (by simp;omega) _
 have hs0:W0.heap.size=t.heap.size+1+1+1:=by rw[K];simp
 have hb69:Bw w6 W0:=(R.out.trans (H.out.mono R.out.size)).trans (S.mono (AF R.out.size H.out.size));have hb80:Bw t W0:=S
 have O:Hid (Bp W0 t.heap.size gx1 gx2 gy1 gy2 n x y):=XX HXL.out HYL.out HX1.out HX2.out HY1.out HY2.out hb69 S (AF R.out.size H.out.size) (Ai _)
  (by rw[K];simp[go_sem]) (by rw[K];simp[go_sem]) (by rw[K];simp[go_sem]) (by rw[K];simp[go_sem])
 have HBW:Hid (Bw w W0):=(HB8.out.trans (H.out.mono HB8.out.size)).trans (S.mono (AF HB8.out.size H.out.size));have HSZ:=Aa (AF HB8.out.size H.out.size)
 have hst:QT false x y n (t.heap.size+1+1) W0 (n+1) (I6 0) W0:=by
  refine⟨0,rfl,by omega,⟨⟨none,0,?_,?_⟩,?_⟩,.refl _ _⟩
  . have e:Bx false x y 0=[]:=by simp[Bx]
    rw[e,K];simp[go_sem]
  . have e:Bx false x y 0=[]:=by simp[Bx]
    rw[e];exact BL _ _ _ _
  . rw[K];simp[go_sem]
 have HST:=Aa hst;clear hst K S hs0 hb69 hb80 s g HB3 HG4 HB4 HO5 HB5 HX1 HX2 HB6 HG7 HB7 HB67 HO6 HB8 R HY1 HY2 H cB cL1 cL2 cS1 cS2 cS3 cS4
 go_loopg [50] (n+1) (λk i wr=>QT false x y n (t.heap.size+1+1) W0 k i wr)
 case atStart=>exact HST.out
 case round =>
  obtain⟨j,rfl,hjk,ho,Y⟩:=hrel;have X:=Aa ho;have HBR:=Aa Y;have P:=WK false x y j;clear HST ho Y
  rcases CQ n j with hj|hj
  . obtain rfl:gk=0:=by omega
    obtain rfl:j=n+1:=by omega
    rw[HLF.out]at X P;have ho:=X.out;obtain⟨⟨pL,cL,k1,k2⟩,k3⟩:=ho;have CS:Hid _:=OX _ LF wr (Ny k2) HSm.out HWt.out (by omega);have hNn:=HN.out;have hjn:¬(((n+1:Nat):Int)<N+1):=by omega
    clear hj hjk P k2 hNn
    go_wp2_with (first
     | (go_at_call 119;refine AC CS.out ?_;rintro e Z ⟨g2,rfl,r,hc2⟩;have HC2:=Aa hc2;have g:=Aa r;clear r hc2)
     | (have _:=HC2;go_at_call 84;refine AC HC2.out ?_;rintro e w3 ⟨v3,rfl,o3,hb3⟩))
    obtain⟨p3,c3,rfl⟩:=Bm o3
    go_ret2
    have hB:=HBW.out.trans (HBR.out.mono (show w.heap.size<=t.heap.size+1+1 by have:=HSZ.out;omega));exact⟨_,rfl,J6 (AF hB.size g.out.size) o3,(hB.trans (g.out.mono hB.size)).trans (hb3.mono (AF hB.size g.out.size))⟩
  rcases CQ j n with hj2|hj2
  rotate_left
  . obtain rfl:j=n:=by omega
    obtain rfl:gk=1:=by omega
    have o:Bx false x y (j+1)=Bx false x y j++(Ey y.2.length++Cq x.2):=by
     have:=Xn (first:=false) (HXL.out.trans HYL.out.symm);rw[HXL.out]at this;exact this
    obtain⟨L,hL⟩:∃L,Bx false x y j=L:=⟨_,rfl⟩;rw[hL]at X P o;have m:Hid (Bp wr t.heap.size gx1 gx2 gy1 gy2 j x y):=Hu O.out HBR.out (Ai _);have fa0wr:=m.out.a0;have fb0wr:=m.out.b0;have fxwr:=m.out.x2;have fywr:=m.out.y2;obtain⟨U,hU⟩:∃U,x.2=U:=⟨_,rfl⟩;obtain⟨V,hV⟩:∃V,y.2=V:=⟨_,rfl⟩;rw[hU]at o fxwr;rw[hV]at o fywr;have HU:=Aa hU;have HV:=Aa hV;have hzv:(ByteArray.mk V.toArray).size=V.length:=by simp[ByteArray.size]
    have cP:=Aa λW l (h:Ci W (t.heap.size+1+1) l) (hl:l.length<1000000000)=>Rz _ l U W h hl;have cK:=Aa λW l (h:Ci W (t.heap.size+1+1) l) (hl:l.length<1000000000)=>Ot _ l V.length W h hl;have D:Hid (Bx false x y (j+1)=(L++Ey V.length)++Cq U):=by rw[AH];exact o
    have hpk:(Cq U).length<=1/\(Ey V.length).length<=1:=⟨by unfold Cq;split<;>simp,by unfold Ey;split<;>simp⟩;have HL0:Hid (L.length<1000000000):=show L.length<1000000000 by omega
    have HL1:Hid ((L++Ey V.length).length<1000000000):=show(L++Ey V.length).length<1000000000 by rw[AA];omega
    have hNn:=HN.out;have hjn:(j:Int)<N+1:=by omega
    have hjd:(j:Int)=N:=by omega
    clear hNn;subst hjd;have hj9:(j:Int)<10000000:=by omega
    clear hL o hU hV hpk hjk P hj hj2
    go_wp2_with (first
     | (have _:=J;go_at_call 121;refine(cP.out _ _ J.out HL1.out).mono ?_;rintro e Z ⟨⟨v2,rfl⟩,F,r⟩;have I:=Aa F;have g:=Aa (s.out.trans r);have c:Hid (Bp Z t.heap.size gx1 gx2 gy1 gy2 j x y):=Hu O.out g.out (Ai _);have fa0w2:=c.out.a0;have fb0w2:=c.out.b0;have fxw2:=c.out.x2;rw[HU.out]at fxw2;have fyw2:=c.out.y2;rw[HV.out]at fyw2;clear F r)
     | (go_at_call 120;refine(cK.out _ _ X.out HL0.out).mono ?_;rintro e w1 ⟨⟨v1,rfl⟩,G,B⟩;have J:=Aa G;have s:=Aa (HBR.out.trans B);have f:Hid (Bp w1 t.heap.size gx1 gx2 gy1 gy2 j x y):=Hu O.out s.out (Ai _);have fa0w1:=f.out.a0;have fb0w1:=f.out.b0;have fxw1:=f.out.x2;rw[HU.out]at fxw1;have fyw1:=f.out.y2;rw[HV.out]at fyw1;clear G B))
    go_roundg 0
    case measure=>omega
    case rel=>exact⟨j+1,by go_num,by omega,by rw[D.out];exact I.out,g.out⟩
  . obtain ⟨⟨u,d⟩,hxj⟩:∃z,x.1[j]?=some z:=⟨_,B7 (by rw[HXL.out];exact hj2)⟩
    obtain⟨⟨v,e⟩,hyj⟩:∃z,y.1[j]?=some z:=⟨_,B7 (by rw[HYL.out];exact hj2)⟩;have C:=Aa hxj;have A:=Aa hyj;have o:Bx false x y (j+1)=Bx false x y j++((Ey v.length++Cq u)++Ju e d):=Xo (first:=false) (HXL.out.trans HYL.out.symm) (by rw[HXL.out];exact hj2) hxj hyj;obtain⟨L,hL⟩:∃L,Bx false x y j=L:=⟨_,rfl⟩;rw[hL]at X P o;have m:Hid (Bp wr t.heap.size gx1 gx2 gy1 gy2 n x y):=Hu O.out HBR.out (Ai _);have fa0wr:=m.out.a0;have fa1wr:=m.out.a1;have fb0wr:=m.out.b0;have fb1wr:=m.out.b1;have fxwr:=(m.out.x1 _ _ _ C.out).1;have fxdwr:=(m.out.x1 _ _ _ C.out).2;have fywr:=(m.out.y1 _ _ _ A.out).1;have fydwr:=(m.out.y1 _ _ _ A.out).2;have hzv:(ByteArray.mk v.toArray).size=v.length:=by simp[ByteArray.size]
    have cP:=Aa λW l (h:Ci W (t.heap.size+1+1) l) (hl:l.length<1000000000)=>Rz _ l u W h hl;have cK:=Aa λW l (h:Ci W (t.heap.size+1+1) l) (hl:l.length<1000000000)=>Ot _ l v.length W h hl;have cU:Hid (∀W l,Ci W (t.heap.size+1+1) l->l.length<1000000000->Cg 120 #[I6 1,.pointer (some (Ad (t.heap.size+1+1) 0))] W λe w'=>(∃v,e=.returned v)/\Ci w' (t.heap.size+1+1) (l++[⟨1,0,[]⟩])/\Below (t.heap.size+1+1) W w'):=λW l h hl=>Ot _ l 1 W h hl;have D:Hid (Bx false x y (j+1)=((L++Ey v.length)++Cq u)++Ju e d):=by rw[AH L,AH L];exact o
    have hpk:(Cq u).length<=1/\(Ey v.length).length<=1:=⟨by unfold Cq;split<;>simp,by unfold Ey;split<;>simp⟩;have HL0:Hid (L.length<1000000000):=show L.length<1000000000 by omega
    have HL1:Hid ((L++Ey v.length).length<1000000000):=show(L++Ey v.length).length<1000000000 by rw[AA];omega
    have HL2':((L++Ey v.length)++Cq u).length<100000000:=by rw[AA,AA];omega
    obtain⟨L2,hL2⟩:∃l,(L++Ey v.length)++Cq u=l:=⟨_,rfl⟩;rw[hL2]at D HL2';have HL2:=Aa HL2';have HE2:=Aa hL2;clear HL2' hL2;have hjn2:(j:Int)<(n:Int):=by omega
    have hNn:=HN.out;have hjn:(j:Int)<N+1:=by omega
    have hjd:((j:Int)==N)=false:=beq_eq_false_iff_ne.2 (by omega);clear hNn;have hj9:(j:Int)<10000000:=by omega
    obtain⟨k,rfl⟩:∃k,gk=k+1:=⟨gk - 1,by omega⟩;have HJK:=Aa hjk;clear hL o hpk hjk P hj hj2 hxj hyj
    cases e with
    | true =>
     go_wp2_with (first
      | (have _:=J;go_at_call 121;refine(cP.out _ _ J.out HL1.out).mono ?_;rintro e Z ⟨⟨v2,rfl⟩,F,r⟩;have I:Hid (Ci Z (t.heap.size+1+1) L2):=(by rw[←HE2.out];exact F);have g:=Aa (s.out.trans r);have c:Hid (Bp Z t.heap.size gx1 gx2 gy1 gy2 n x y):=Hu O.out g.out (Ai _);have fa0w2:=c.out.a0;have fa1w2:=c.out.a1;have fb0w2:=c.out.b0;have fb1w2:=c.out.b1;have fxw2:=(c.out.x1 _ _ _ C.out).1;have fxdw2:=(c.out.x1 _ _ _ C.out).2;have fyw2:=(c.out.y1 _ _ _ A.out).1;have fydw2:=(c.out.y1 _ _ _ A.out).2;clear F r)
      | (go_at_call 120;refine(cK.out _ _ X.out HL0.out).mono ?_;rintro e w1 ⟨⟨v1,rfl⟩,G,B⟩;have J:=Aa G;have s:=Aa (HBR.out.trans B);have f:Hid (Bp w1 t.heap.size gx1 gx2 gy1 gy2 n x y):=Hu O.out s.out (Ai _);have fa0w1:=f.out.a0;have fa1w1:=f.out.a1;have fb0w1:=f.out.b0;have fb1w1:=f.out.b1;have fxw1:=(f.out.x1 _ _ _ C.out).1;have fxdw1:=(f.out.x1 _ _ _ C.out).2;have fyw1:=(f.out.y1 _ _ _ A.out).1;have fydw1:=(f.out.y1 _ _ _ A.out).2;clear G B))
     go_roundg k
     case measure=>omega
     case rel=>exact⟨j+1,by go_num,by have:=HJK.out;omega,by rw[D.out];exact(AZ _).symm ▸ I.out,g.out⟩
    | false =>
     cases d with
     | false =>
      go_wp2_with (first
       | (have _:=I;go_at_call 120;refine(cU.out _ _ I.out (Nat.lt_trans HL2.out (by decide))).mono ?_;rintro e w3 ⟨⟨v3,rfl⟩,ho3,hb3⟩)
       | (have _:=J;go_at_call 121;refine(cP.out _ _ J.out HL1.out).mono ?_;rintro e Z ⟨⟨v2,rfl⟩,F,r⟩;have I:Hid (Ci Z (t.heap.size+1+1) L2):=(by rw[←HE2.out];exact F);have g:=Aa (s.out.trans r);have c:Hid (Bp Z t.heap.size gx1 gx2 gy1 gy2 n x y):=Hu O.out g.out (Ai _);have fa0w2:=c.out.a0;have fa1w2:=c.out.a1;have fb0w2:=c.out.b0;have fb1w2:=c.out.b1;have fxw2:=(c.out.x1 _ _ _ C.out).1;have fxdw2:=(c.out.x1 _ _ _ C.out).2;have fyw2:=(c.out.y1 _ _ _ A.out).1;have fydw2:=(c.out.y1 _ _ _ A.out).2;clear F r)
       | (go_at_call 120;refine(cK.out _ _ X.out HL0.out).mono ?_;rintro e w1 ⟨⟨v1,rfl⟩,G,B⟩;have J:=Aa G;have s:=Aa (HBR.out.trans B);have f:Hid (Bp w1 t.heap.size gx1 gx2 gy1 gy2 n x y):=Hu O.out s.out (Ai _);have fa0w1:=f.out.a0;have fa1w1:=f.out.a1;have fb0w1:=f.out.b0;have fb1w1:=f.out.b1;have fxw1:=(f.out.x1 _ _ _ C.out).1;have fxdw1:=(f.out.x1 _ _ _ C.out).2;have fyw1:=(f.out.y1 _ _ _ A.out).1;have fydw1:=(f.out.y1 _ _ _ A.out).2;clear G B))
      go_roundg k
      case measure=>omega
      case rel=>exact⟨j+1,by go_num,by have:=HJK.out;omega,by rw[D.out];exact ho3,g.out.trans hb3⟩
     | true =>
      go_upto_region 22 with (first
       | (have _:=J;go_at_call 121;refine(cP.out _ _ J.out HL1.out).mono ?_;rintro e Z ⟨⟨v2,rfl⟩,F,r⟩;have I:Hid (Ci Z (t.heap.size+1+1) L2):=(by rw[←HE2.out];exact F);have g:=Aa (s.out.trans r);have c:Hid (Bp Z t.heap.size gx1 gx2 gy1 gy2 n x y):=Hu O.out g.out (Ai _);have fa0w2:=c.out.a0;have fa1w2:=c.out.a1;have fb0w2:=c.out.b0;have fb1w2:=c.out.b1;have fxw2:=(c.out.x1 _ _ _ C.out).1;have fxdw2:=(c.out.x1 _ _ _ C.out).2;have fyw2:=(c.out.y1 _ _ _ A.out).1;have fydw2:=(c.out.y1 _ _ _ A.out).2;clear F r;have ho2':=I.out;obtain⟨⟨pq,cq,kq1,kq2⟩,kq3⟩:=ho2';have HRW:=Aa kq2;have HCQ:=Aa kq1;have HQ2:=Aa (Qi I.out);have HQ3:=Aa kq3;clear kq1 kq2 kq3)
       | (go_at_call 120;refine(cK.out _ _ X.out HL0.out).mono ?_;rintro e w1 ⟨⟨v1,rfl⟩,G,B⟩;have J:=Aa G;have s:=Aa (HBR.out.trans B);have f:Hid (Bp w1 t.heap.size gx1 gx2 gy1 gy2 n x y):=Hu O.out s.out (Ai _);have fa0w1:=f.out.a0;have fa1w1:=f.out.a1;have fb0w1:=f.out.b0;have fb1w1:=f.out.b1;have fxw1:=(f.out.x1 _ _ _ C.out).1;have fxdw1:=(f.out.x1 _ _ _ C.out).2;have fyw1:=(f.out.y1 _ _ _ A.out).1;have fydw1:=(f.out.y1 _ _ _ A.out).2;clear G B))
      obtain⟨i0,hi,hz0,hz1,hz2⟩:=info_parts Ho;have kq1:=HCQ.out;have kq3:=HQ3.out;have hq2:=HQ2.out
      go_wp2_with (have _:=I;at_builtin;refine wpList_append_own _ rfl _ _ 37 rfl (t.heap.size+1+1+1) 87 i0 (.agg #[I6 0,I6 0,.string ⟨#[]⟩]) 3 32 underlying37 hi hz0 hz1 hz2 rfl (by decide) _ _ _ rfl (HRW.out.alloc _) (Ad Z.heap.size 0) 1 1 (Ed ⟨0,1,[]⟩) rfl rfl (He _ _ _) (Gx _) (by have:=HL2.out;unfold maxLen;omega) (by have:=HL2.out;omega) (by first | omega | (simp;omega)) ?_)
      intro v3 w3 Q hg3 _;have P3:=Sf (q:=⟨0,1,[]⟩) I.out HCQ.out Q hg3;obtain⟨p3,q3,hv3⟩:=Bm Q;rw[hv3]at P3 Q ⊢;obtain⟨G3,B3,r1,r2⟩:=P3;have HG3:=Aa G3;have HB3:=Aa B3;clear G3 B3 Q hg3 hv3;go_wp2
      go_roundg k
      case measure=>omega
      case rel=>exact⟨j+1,by go_num,by have:=HJK.out;omega,by rw[D.out];exact HG3.out,g.out.trans HB3.out⟩
theorem fJ{a b:List Pt}(c:Bs a)(d:Bs b)(h:(Be b).1=(Be a).1):Hb (Ag a)=Hb (Ag b):=by
 have i:=JL _ (Da λp e=>((Hn c).1 p e).1);have j:=JL _ (Da λp e=>((Hn d).1 p e).1);have f:=(Hn c).2.2.1;have g:=(Hn d).2.2.1;have k:=(Hm c).1;have m:=(Hm d).1;omega
theorem dN(F:Bool){a b:List Pt}(f:Bs a)(i:Bs b)(m:(Be b).1=(Be a).1):Ag (Bx F (Bk (Ag a)) (Bk (Ag b)) ((Bk (Ag a)).1.length+1))=Aq (Bv F a b):=by
 have d:=fJ f i m;have j:∀p∈Ag a,Am p:=λp e=>((Hn f).1 p e).1;have h:∀p∈Ag b,Am p:=λp e=>((Hn i).1 p e).1;have k:(Bk (Ag a)).1.length=(Bk (Ag b)).1.length:=by rw[JE,JE];exact d
 have o:Bx F (Bk (Ag a)) (Bk (Ag b)) ((Bk (Ag a)).1.length+1)=((Bk (Ag a)).1.zip (Bk (Ag b)).1).flatMap (GX F)++Ji F (Bk (Ag a)).2 (Bk (Ag b)).2:=by
  unfold Bx;rw[if_pos (by omega),AQ (by rw[List.length_zip];omega)]
 rw[o];unfold Ag Bv
 congr 1
 have g:=WN F (Bk (Ag a)).1 (Bk (Ag b)).1 (Bk (Ag a)).2 (Bk (Ag b)).2 A7 k;unfold Ag at g;rw[g]
 cases F with
 | true =>
  rw[if_pos rfl];have c:=YM (Bc (Ag a)+Bc (Ag b)) (Ag a) (Ag b) A7 j h d (Ai _);rw[←JE,←JE]at c;exact c.symm
 | false =>
  rw[if_neg (by decide)];have c:=au (Bc (Ag b)+Bc (Ag a)) (Ag a) (Ag b) A7 j h d (by omega);rw[←JE,←JE]at c;exact c.symm
theorem aM(g f:Value)(first:Bool)(a b:List Pt)(w:World)(m:Ae w g a)(o:Ae w f b)(k:∀p∈a,Cp p)(i:∀p∈b,Cp p)(r:∀p∈a,p.put.length<100000000)(j:∀p∈b,p.put.length<100000000)(u:a.length<10000000)(v:b.length<10000000)(A:Dy a b=0->Bs a/\Bs b) :
    Cg 86 #[g,f,.bool first] w λe w'=>∃z,e=.returned (.tuple #[z,I6 (JI a b)])/\opN w.heap.size w' z (if JI a b=0 then Aq (Bv first a b) else [])/\Bw w w':=by
 have none:∀w',opN w.heap.size w' (.slice none 0 0) []:=Ik _;unfold JI
 by_cases c:Dy a b=0
 . obtain ⟨s,t⟩:=A c
   rw[if_pos c]
   by_cases d:(Be b).1=(Be a).1
   . rw[if_pos d,if_pos rfl,←dN first s t d]
     cases first with
     | true=>exact lm g f a b w m o k i r j s t c d
     | false=>exact lr g f a b w m o k i r j s t c d
   . rw[if_neg d,if_neg (by decide)]
     exact(kC g f first a b w m o k i r j u v c d).mono λe w' h=>⟨_,h.1,none w',h.2⟩
 . rw[if_neg c,if_neg c]
   exact(kB g f first a b w m o k i r j u v c).mono λe w' h=>⟨_,h.1,none w',h.2⟩
theorem dD{ps:List Pt}(h:Fp ps=true):ps.length<=100/\∀p∈ps,p.put.length<=300:=by
 unfold Fp at h;rw[ED]at h;refine⟨of_decide_eq_true h.1,λp c=>?_⟩;have b:=List.all_eq_true.1 h.2 p c;unfold I1 at b;simp only[Bool.not_eq_true',Bool.or_eq_false_iff,decide_eq_false_iff_not]at b;omega
theorem cx(v:Value)(ps:List Pt)(w:World)(b:Ae w v ps):Cg 7 #[v] w (Rt w (.bool (Fp ps))):=by
 by_cases g:ps.length<10000000
 . exact Lo v ps w b g
 . obtain⟨p,c,rfl,i,f,h⟩:=b
   have d:Fp ps=false:=by unfold Fp;rw[decide_eq_false (by omega)];rfl
   rw[d];unfold maxLen at f;have e:(100:Int)<(ps.length:Int):=by omega
   clear h
   go_enter func7,ntmps7
   go_wp2;go_ret;exact⟨rfl,A9 _ _⟩
end
theorem UW(s:ByteArray)(b:List Nat)(g:∀r∈b,Df r)(f:encs b=s.data.toList)(j:s.size<100000000)(w:World) :
    Cg 65 #[.string s] w (Rt w (.tuple #[D5 b,.agg #[I6 0,I6 (-1)]])):=by
 have c:=MN b g;rw[f]at c;have d:Ch s.data.toList=b:=by
  unfold Ch;rw[c];simp[wide,EW,FZ]
 refine(Vf s j w (by rw[c])).mono λe w' h=>⟨?_,h.1⟩;rw[h.2,d];have k:(s.size:Int)=C1 b:=by rw[Ie,f,←CZ]
 have m:((Fo b).length:Int)=C2 b:=by unfold C2;rw[Yc]
 have i:(Lib.countByte s.data.toList 10:Int)=C4 b:=by unfold C4;rw[Yd g,f]
 unfold Ia D5;rw[k,m,i];rfl
section
open Go.Maps (Keyed int_keyed keyOf_int_mk)
theorem RT:Keyed prog 3:=int_keyed underlying3
theorem dW(w:World):(zeroValue 3).run prog w=.ok (I6 0) w:=by kernel_rfl
def ST (u a b c:Int):Int:=if u=1 then a else if u=2 then b else if u=3 then c else 0
theorem PN(u a b c:Int):(((((DataW.map (H:=Unit) []).put (.int .i64 1) (.lit (.int .i64 a))).put (.int .i64 2) (.lit (.int .i64 b))).put (.int .i64 3) (.lit (.int .i64 c))).atKey (.int .i64 u) (.lit (.int .i64 0)))=.lit (.int .i64 (ST u a b c)):=by
 simp[DataW.put,DataW.insert,DataW.atKey,Lit.sameKey,Lit.before,ST]
 by_cases d:u=1
 . subst d;rfl
 by_cases f:u=2
 . subst f;rfl
 by_cases e:u=3
 . subst e;rfl
 simp[List.find?,d,f,e,GE d,GE f,GE e]
theorem io(g e f o u:Int)(L:(Lit.int .i64 g).wf=true)(K:(Lit.int .i64 e).wf=true)(J:(Lit.int .i64 f).wf=true)(N:(Lit.int .i64 u).wf=true)(w:World) :
    Cg 79 #[.agg #[I6 g,I6 e,I6 f,I6 o],I6 u] w
     (Rt w (I6 (ST u g e f))):=by
 have t:(Lit.int .i64 1).wf=true:=by decide
 have s:(Lit.int .i64 2).wf=true:=by decide
 have p:(Lit.int .i64 3).wf=true:=by decide
 have j:Below (w.heap.size+1) (w.alloc (Oc #[I6 g,I6 e,I6 f,I6 o] 118)) ((w.alloc (Oc #[I6 g,I6 e,I6 f,I6 o] 118)).alloc (.map #[] 0)) :=
  (A9 _ _).alloc (by simp) _
 have r:=World.ownsMap_made (H:=Unit) (w.alloc (Oc #[I6 g,I6 e,I6 f,I6 o] 118)) prog 3 (plainElem prog 3);rw[Bb]at r;obtain⟨G,W,v,C⟩:=r.update RT underlying202 (by unfold maxLen;omega) (keyOf_int_mk underlying3 t) (plainElem_int underlying3 L);have b:=j.grown C (by simp) (by intro k m;cases m;omega);obtain⟨O,P,B,A⟩:=v.update RT underlying202 (by unfold maxLen;omega) (keyOf_int_mk underlying3 s) (plainElem_int underlying3 K);have d:=b.grown A (by have:=b.size;simp at this;omega) (by intro k m;cases m;omega);obtain⟨F,S,D,z⟩:=B.update RT underlying202 (by unfold maxLen;omega) (keyOf_int_mk underlying3 p) (plainElem_int underlying3 J);have i:=d.grown z (by have:=d.size;simp at this;omega) (by intro k m;cases m;omega);obtain⟨c,Q,h,_⟩:=D.lookup_int RT underlying202 underlying3 (dW _) (keyOf_int_mk underlying3 N);rw[PN]at h;injection h with h;injection h with _ h;have U:G.cell? (Ad w.heap.size 1)=some (I6 e):=by rw[zC b w.heap.size 1 (by simp)];simp[go_sem]
 have R:O.cell? (Ad w.heap.size 2)=some (I6 f):=by rw[zC d w.heap.size 2 (by simp)];simp[go_sem]
 have E:Bw w F:=(((A9 _ w).alloc (Ai _) _)).trans (i.mono (by omega));clear j b d i r v B D C A z;subst h;have I:=@run_makeMap prog
 go_enter func79,ntmps79
 go_wp2;go_ret;exact⟨rfl,E⟩
theorem RF{n:Int}(c: -9223372036854775808<=n)(b:n<9223372036854775808):(Lit.int .i64 n).wf=true:=by
 simp[Lit.wf,IntKind.min,IntKind.max,IntKind.signed,IntKind.bits];omega
theorem QF(u:Int)(b:List Nat)(c: -9223372036854775808<=u)(d:u<9223372036854775808)(e:C1 b<=100000000)(w:World) :
    Cg 79 #[D5 b,I6 u] w (Rt w (I6 (by_ u b))):=by
 have g:=Np b;have h:=Nl b;have f:=Kk b;exact io (C1 b) (C2 b) (C3 b) (C4 b) u (RF (by omega) (by omega)) (RF (by omega) (by omega)) (RF (by omega) (by omega)) (RF c d) w
theorem cn{b:List Nat}(e:∀r∈b,Df r){i:Nat}(j:i<=b.length):Hi b i=[I6 (C1 (b.take i)),I6 (C2 (b.take i)),I6 (C3 (b.take i)),I6 (C4 (b.take i))]:=by
 have f:Nj b i=C1 (b.take i):=by unfold Nj;rw[Ie]
 have g:PT b i=C2 (b.take i):=by unfold PT C2;rw[Yc]
 have c:C3 (b.take i)=(i:Int):=by show((b.take i).length:Int)=_;rw[AO];omega
 have d:PU b i=C4 (b.take i):=by unfold PU C4;rw[Yd λr h=>e r (BZ h)]
 unfold Hi;rw[f,g,c,d]
end
section
attribute [local go_sem] Oper.semAt_some
theorem MB(u:Int):Hq u 1 3=true↔Ck u:=by
 unfold Hq Ck;rw[decide_eq_true_iff];constructor
 . intro h;omega
 . intro h;omega
theorem j7(s:ByteArray)(b:List Nat)(u a:Int)(hr:∀r∈b,Df r)(he:encs b=s.data.toList)(hs:s.size<1000000)(hu:Ck u)(h0:0<=a)(K:a<=by_ u b)(w:World) :
    Cg 80 #[.string s,I6 u,I6 a] w (Rt w (.tuple #[D5 (if Eh b u a then A8 b u a else []),I6 (if Eh b u a then 0 else 10)])):=by
 have hC1:C1 b=s.size:=by rw[Ie,he,←CZ]
 have hru:Hq u 1 3=true:=(MB u).2 hu;have hra:Hq a 0 (by_ u b)=true:=decide_eq_true ⟨h0,K⟩;have A: -9223372036854775808<=u/\u<9223372036854775808:=by unfold Ck at hu;omega
 have X:=λc=>Jk u 1 3 c;rw[hru]at X;have E:=λc=>Jk a 0 (by_ u b) c;rw[hra]at E;have cC:=Aa λc=>UW s b hr he (by omega) c;have cN:=Aa λc=>QF u b A.1 A.2 (by omega) c;have G:=MN b hr;rw[he]at G;have hro:Ch s.data.toList=b:=by
  unfold Ch;rw[G];simp[wide,EW,FZ]
 have cE:Hid (∀c,Cg 117 #[.string s] c λe w'=>∃v,e=.returned v/\w'.ownsRow c.heap.size 118 4 v (b.length+1) (I7 b (b.length+1))/\Bw c w'):=λc=>by
  have:=kA s (by omega) c (by rw[G]);rw[hro]at this;exact this
 obtain⟨e1,e2⟩:=OE hu K;have HE1:=Aa e1;have HE2:=Aa e2;have HR:=Aa hr;have cT:Hid (∀i c,Cg 79 #[D5 (b.take i),I6 u] c (Rt c (I6 (by_ u (b.take i))))):=λi c=>QF u (b.take i) A.1 A.2 (by
  have e:C1 b=C1 (b.take i)+C1 (b.drop i):=by rw[←Ok,AW]
  have:=Np (b.drop i)
  omega) c
 have hrl:b.length<1000000:=by have:=Kk b;unfold C3 at this;omega
 have hb0:Bw w (w.alloc (Oc #[I6 0,I6 0,I6 0,I6 0] 118)):=(A9 _ w).alloc (Ai _) _;have U:=Aa hb0;have HK0:Hid (counted (w.alloc (Oc #[I6 0,I6 0,I6 0,I6 0] 118)) w.heap.size 0 0 0 0):=NT w 0 0 0 0 118;obtain⟨Bu,hBu⟩:∃Bu,by_ u b=Bu:=⟨_,rfl⟩;rw[hBu]at E cN;obtain⟨XA,R⟩:∃XA,(if Eh b u a then A8 b u a else [])=XA:=⟨_,rfl⟩;obtain⟨EA,Q⟩:∃EA:Int,(if Eh b u a then 0 else 10)=EA:=⟨_,rfl⟩;have HXA:=Aa R;have HEA:=Aa Q;rw[R,Q];clear R Q;unfold D5 at cC cN cT;clear hr he hs hu h0 K hC1 hru hra A G hro e1 e2 hb0 hBu
 go_enter func80,ntmps80
 go_wp2_with (first
  | (have _:=I;go_at_call 36;refine(E _).mono ?_;rintro e w1 ⟨rfl,N⟩;obtain rfl:=N.symm)
  | (go_at_call 36;refine(X _).mono ?_;rintro e w1 ⟨rfl,N⟩;obtain rfl:=N.symm)
  | (go_at_call 65;refine(cC.out _).mono ?_;rintro e w1 ⟨rfl,Y⟩;have HB1:=Aa (U.out.trans (Y.mono U.out.size));have HK1:=Aa (Hp HK0.out Y);have f:=(A9 w1.heap.size w1).alloc (Ai _) (Oc #[I6 (C1 b),I6 (C2 b),I6 (C3 b),I6 (C4 b)] 118);have hby:=f.alloc f.size (Oc #[I6 0,I6 (-1)] 32);have z:=Aa hby;clear Y f hby)
  | (go_at_call 79;refine(cN.out _).mono ?_;rintro e w2 ⟨rfl,P⟩;have I:=Aa (HB1.out.trans ((z.out.trans (P.mono z.out.size)).mono HB1.out.size));have HK2:=Aa (Hp HK1.out (z.out.trans (P.mono z.out.size)));clear P)
  | (go_at_call 117;refine(cE.out _).mono ?_;rintro e w3 ⟨v3,rfl,W,L⟩;obtain⟨g,c3,rfl,hg1,hg2⟩:=K7 W (Nat.succ_pos _);have HO3:=Aa W;have HB3:=Aa (I.out.trans (L.mono I.out.size));have HK3:=Aa (Hp HK2.out L);clear W L))
 clear X E cC cN cE U HB1 z I HK0 HK1 HK2
 go_loopw [31] (λi wr=>∃k:Nat,i=.int .i64 k/\k<=b.length+1/\(∀j,j<k->by_ u (b.take j)≠a)/\Bw w3 wr) (λi _=>b.length+1 - (intOf i).toNat)
 case atStart=>exact⟨0,rfl,AV _,λj hj=>absurd hj (AP _),A9 _ _⟩
 case round =>
  obtain⟨k,rfl,hk,hno,m⟩:=hrel;have B:=Aa hno;have HBW:=Aa m;have hKr:=Hp HK3.out m;have D:=Aa hKr;have Z:Hid (Bw w wr):=HB3.out.trans (m.mono HB3.out.size);clear hno hKr
  by_cases C:k<b.length+1
  . have hkl : (k:Int)<(b.length:Int)+1:=by omega
    have d:=Fe HO3.out m;have o:=cn HR.out (i:=k) (by omega);have g0:wr.cell? (Ad g (k*4))=some (I6 (C1 (b.take k))):=RJ d k 0 C (by omega) (by rw[o];rfl);have g1:wr.cell? (Ad g (k*4+1))=some (I6 (C2 (b.take k))):=RJ d k 1 C (by omega) (by rw[o];rfl);have g2:wr.cell? (Ad g (k*4+2))=some (I6 (C3 (b.take k))):=RJ d k 2 C (by omega) (by rw[o];rfl);have g3:wr.cell? (Ad g (k*4+3))=some (I6 (C4 (b.take k))):=RJ d k 3 C (by omega) (by rw[o];rfl);have f:Bw wr (wr.alloc (Oc #[I6 (C1 (b.take k)),I6 (C2 (b.take k)),I6 (C3 (b.take k)),I6 (C4 (b.take k))] 118)):=zA _ _;have H:=Aa f;have HCX:Hid (counted (wr.alloc (Oc #[I6 (C1 (b.take k)),I6 (C2 (b.take k)),I6 (C3 (b.take k)),I6 (C4 (b.take k))] 118)) wr.heap.size (C1 (b.take k)) (C2 (b.take k)) (C3 (b.take k)) (C4 (b.take k))):=NT wr _ _ _ _ _;have cK:=λc=>cT.out k c;have CK:=Aa cK
    by_cases h:by_ u (b.take k)=a
    . have F : Hid (Eh b u a=true/\A8 b u a=b.take k):=by
        show Eh b u a=true/\A8 b u a=b.take k
        cases hE:Eh b u a with
        | false=>exact absurd h (HE2.out hE k (by omega))
        | true =>
         obtain⟨j,j1,j2,j3,j4⟩:=HE1.out hE
         have : j=k:=by
          by_cases K:j<k
          . exact absurd j3 (B.out j K)
          . by_cases h2:k<j
            . exact absurd h (j4 k h2)
            . omega
         subst this;exact⟨rfl,j2⟩
      rw[h]at CK;clear d o f cK h m B
      go_wp2_with (go_at_call 79;refine(CK.out _).mono ?_;rintro e w5 ⟨rfl,p⟩;have O:=H.out.trans (p.mono H.out.size);have S:=Aa (Z.out.trans (O.mono Z.out.size));have HK5:=Aa (Hp D.out O);have hC5:=Hp HCX.out p;obtain⟨⟨m0,m1,m2,m3⟩,_⟩:=hC5;obtain⟨⟨z0,z1,z2,z3⟩,y0,y1,y2,y3⟩:=Hp D.out O;clear p O)
      have t:=QI (m1:=C1 (b.take k)) (m2:=C2 (b.take k)) (m3:=C3 (b.take k)) (m4:=C4 (b.take k)) HK5.out;obtain⟨⟨s0,s1,s2,s3⟩,_⟩:=t;refine bodyPost_ret (v:=.tuple #[.agg #[I6 (C1 (b.take k)),I6 (C2 (b.take k)),I6 (C3 (b.take k)),I6 (C4 (b.take k))],I6 0]) (by simp[results,results80,go_sem,s0,s1,s2,s3]) rfl ⟨?_,Ux S.out (Ai _) _ _ _ _⟩;rw[←HXA.out,←HEA.out,F.out.1,F.out.2];rfl
    . have hne:(by_ u (b.take k)==a)=false:=beq_eq_false_iff_ne.2 h
      have HNE:=Aa h;obtain⟨bx,J⟩:∃bx,by_ u (b.take k)=bx:=⟨_,rfl⟩;rw[J]at CK hne;clear d o f cK h m J
      go_wp2_with (go_at_call 79;refine(CK.out _).mono ?_;rintro e w5 ⟨rfl,p⟩;have O:=H.out.trans (p.mono H.out.size);have S:=Aa (HBW.out.trans (O.mono HBW.out.size));clear p O)
      go_roundw
      case rel =>
       refine⟨k+1,by go_num,by omega,λj hj=>?_,S.out⟩
       by_cases K:j=k
       . subst K;exact HNE.out
       . exact B.out j (by omega)
      case measure=>simp[intOf];omega
  . obtain rfl:k=b.length+1:=by omega
    have hkl:¬((b.length+1:Nat):Int)<(b.length:Int)+1:=by omega
    have F:Hid (Eh b u a=false):=by
     show Eh b u a=false
     cases hE:Eh b u a with
     | false=>rfl
     | true =>
      obtain⟨j,j1,j2,j3,j4⟩:=HE1.out hE;exact absurd j3 (B.out j (by omega))
    clear m B;obtain⟨⟨z0,z1,z2,z3⟩,y0,y1,y2,y3⟩:=D.out;go_wp2;have t:=QI (m1:=0) (m2:=0) (m3:=0) (m4:=0) D.out;obtain⟨⟨s0,s1,s2,s3⟩,_⟩:=t;refine bodyPost_ret (v:=.tuple #[.agg #[I6 0,I6 0,I6 0,I6 0],I6 10]) (by simp[results,results80,go_sem,s0,s1,s2,s3]) rfl ⟨?_,Ux Z.out (Ai _) _ _ _ _⟩;rw[←HXA.out,←HEA.out,F.out];rfl
variable {w : World}{β : Nat}{K D : Int}{U : List UInt8}
structure Pcell (w:World) (β:Nat) (K D:Int) (U:List UInt8):Prop where
 c0:w.cell? (Ad β 0)=some (I6 K)
 c1:w.cell? (Ad β 1)=some (I6 D)
 c2:w.cell? (Ad β 2)=some (Sx U)
 f0:w.frozen? (Ad β 0)=false
 f1:w.frozen? (Ad β 1)=false
theorem Pcell.below{w':World}(h:Pcell w β K D U)(b:Bw w w'):Pcell w' β K D U:=by
 have l:=Ca w _ h.c0;exact⟨GT b h.c0,GT b h.c1,GT b h.c2,(b.frozen (p:=(Ad β 0)) l).trans h.f0,(b.frozen (p:=(Ad β 1)) l).trans h.f1⟩
theorem kE(s:ByteArray)(u v:Int)(k:Value)(i:¬(Ck u/\Ck v))(w:World) :
    Cg 46 #[.string s,I6 u,I6 v,k] w (Rt w (.tuple #[.slice none 0 0,I6 1])):=by
 have d:=λj=>Jk u 1 3 j;have g:=λj=>Jk v 1 3 j
 by_cases f:Ck u
 . have p:¬Ck v:=λh=>i ⟨f,h⟩
   rw[(MB u).2 f]at d;rw[Bool.eq_false_iff.2 λe=>p ((MB v).1 e)]at g;have m:=Aa d;have r:=Aa g;clear i f p d g
   go_enter func46,ntmps46
   go_wp2_with (first
    | (have _:=c;go_at_call 36;refine(r.out _).mono ?_;rintro e o ⟨rfl,b⟩;obtain rfl:=b.symm)
    | (go_at_call 36;refine(m.out _).mono ?_;rintro e o ⟨rfl,b⟩;obtain rfl:=b.symm;have c:=trivial))
   go_ret2
   exact⟨rfl,A9 _ _⟩
 . rw [Bool.eq_false_iff.2 λe=>f ((MB u).1 e)]at d
   have m:=Aa d;clear i f d g
   go_enter func46,ntmps46
   go_wp2_with (go_at_call 36;refine(m.out _).mono ?_;rintro e o ⟨rfl,b⟩;obtain rfl:=b.symm)
   go_ret2
   exact⟨rfl,A9 _ _⟩
theorem jR(s:ByteArray)(b:List Nat)(u v:Int)(g:List Pt)(i:Value)(w:World)(Y:∀r∈b,Df r)(N:encs b=s.data.toList)(hs:s.size<1000000)(J:Ck u)(Z:Ck v)(ho:Ae w i g)(C:∀q∈g,Cp q)(A:∀q∈g,q.put.length<100000000)(hl:g.length<=1000)(hc:chkE g (by_ u b)≠0) :
    Cg 46 #[.string s,I6 u,I6 v,i] w (Rt w (.tuple #[.slice none 0 0,I6 (chkE g (by_ u b))])):=by
 have Q:C1 b=s.size:=by rw[Ie,N,←CZ]
 have k: -9223372036854775808<=u/\u<9223372036854775808:=by unfold Ck at J;omega
 have I:by_ u b<=3000000:=by
  have h2:=Nl b;have h3:=Kk b;unfold by_;split<;>(try split)<;>(try split)<;>omega
 have R:=Jj u b;have S:=λd=>Jk u 1 3 d;have W:=λd=>Jk v 1 3 d;rw[(MB u).2 J]at S;rw[(MB v).2 Z]at W;have CU:=Aa S;have CV:=Aa W;have cC:=Aa λd=>UW s b Y N (by omega) d;have O:=Aa λd=>QF u b k.1 k.2 (by omega) d;have P:=Aa λd (hb:Bw w d)=>MR i g (by_ u b) d (Ec ho hb (Ai _)) C A (by omega) (by omega);obtain⟨p,c,rfl,_⟩:=ho;obtain⟨E,X⟩:∃E,chkE g (by_ u b)=E:=⟨_,rfl⟩;rw[X]at P hc ⊢;have hne:(E==0)=false:=beq_eq_false_iff_ne.2 hc;obtain⟨Bu,G⟩:∃Bu,by_ u b=Bu:=⟨_,rfl⟩;rw[G]at O P;unfold D5 at cC O;clear S W Y N hs J Z C A Q k I R X G
 go_enter func46,ntmps46
 go_wp2_with (first
  | (have _:=f;go_at_call 36;refine(CV.out _).mono ?_;rintro e H ⟨rfl,o⟩;obtain rfl:=o.symm)
  | (go_at_call 36;refine(CU.out _).mono ?_;rintro e H ⟨rfl,o⟩;obtain rfl:=o.symm;have f:=trivial)
  | (go_at_call 65;refine(cC.out _).mono ?_;rintro e H ⟨rfl,h⟩;have j:=(A9 H.heap.size H).alloc (Ai _) (Oc #[I6 (C1 b),I6 (C2 b),I6 (C3 b),I6 (C4 b)] 118);have B:=j.alloc j.size (Oc #[I6 0,I6 (-1)] 32);have F:=Aa (h.trans (B.mono h.size));clear h j B)
  | (go_at_call 79;refine(O.out _).mono ?_;rintro e w2 ⟨rfl,z⟩;have m:=Aa (F.out.trans (z.mono F.out.size));clear z)
  | (go_at_call 78;refine(P.out _ m.out).mono ?_;rintro e w3 ⟨rfl,t⟩;have L:=Aa (m.out.trans (t.mono m.out.size));clear t))
 go_ret2
 exact⟨rfl,L.out⟩
theorem Xr{B e size n b o:Nat}{v:Value}{k:List Value}(h:w.ownsRow B e size v n k)(m:∀j,v.ownBlock=some j->j<b)(u:Value):(w.setCell (Ad b o) u).ownsRow B e size v n k:=by
 obtain⟨s,c⟩:=h;refine⟨s,?_⟩
 rcases c with r|⟨g,f,i,rfl,p,d,rest⟩
 . exact .inl r
 . exact .inr ⟨g,f,i,rfl,p,(BF _ _ _ _ (by show g≠b;have:=m g rfl;omega)).trans d,rest⟩
theorem Pi(h:Pcell w β K D U)(M:Int):Pcell (w.setCell (Ad β 0) (I6 M)) β M D U:=by
 obtain⟨f,d,e,b,c⟩:=h;refine⟨?_,?_,?_,?_,?_⟩<;>simp[go_sem,f,d,e,b,c]
theorem Ph(h:Pcell w β K D U)(M:Int):Pcell (w.setCell (Ad β 1) (I6 M)) β K M U:=by
 obtain⟨f,d,e,b,c⟩:=h;refine⟨?_,?_,?_,?_,?_⟩<;>simp[go_sem,f,d,e,b,c]
theorem ld(s:ByteArray)(g:List Nat)(u v:Int)(f:List Pt)(val:Value)(w:World)(hr:∀r∈g,Df r)(he:encs g=s.data.toList)(hs:s.size<1000000)(hu:Ck u)(hv:Ck v)(ho:Ae w val f)(hwf:∀q∈f,Cp q)(hsm:∀q∈f,q.put.length<100000000)(hl:f.length<=1000)(hc:chkE f (by_ u g)=0) :
    Cg 46 #[.string s,I6 u,I6 v,val] w λe w'=>∃v',e=.returned (.tuple #[v',I6 (Ko g u v f)])/\opN w.heap.size w' v' (Kn g u v f)/\Bw w w':=by
 obtain⟨hp1,hp2,hp3⟩:=OC hc;have hC1:C1 g=s.size:=by rw[Ie,he,←CZ]
 have hu0: -9223372036854775808<=u/\u<9223372036854775808:=by unfold Ck at hu;omega
 have hv0: -9223372036854775808<=v/\v<9223372036854775808:=by unfold Ck at hv;omega
 have hub:∀x:Int,by_ x g<=3000000:=λx=>by
  have h2:=Nl g;have h3:=Kk g;have h1:=Np g;unfold by_;split<;>(try split)<;>(try split)<;>omega
 have hup:=Jj u g;have cU:=λW=>Jk u 1 3 W;have cV:=λW=>Jk v 1 3 W;rw[(MB u).2 hu]at cU;rw[(MB v).2 hv]at cV;have CU:=Aa cU;have CV:=Aa cV;have cC:=Aa λW=>UW s g hr he (by omega) W;have cN:=Aa λW=>QF u g hu0.1 hu0.2 (by omega) W;have hub1:=hub u;have cK:Hid (∀W,Bw w W->Cg 78 #[val,I6 (by_ u g)] W (Rt W (I6 0))):=λW hb=>by
  have:=MR val f (by_ u g) W (Ec ho hb (Ai _)) hwf hsm (by omega) (by omega);rw[hc]at this;exact this
 have CAH:=Aa λa W (h0:0<=a) (h1:a<=by_ u g)=>j7 s g u a hr he hs hu h0 h1 W;have CIH:=Aa λX W (h:C1 X<=100000000)=>QF v X hv0.1 hv0.2 h W;have HP1:=Aa hp1;have HP2:=Aa hp2;have HP3:=Aa hp3;have HUB:=Aa hub;have HC1:Hid (C1 g<=3000000):=by show C1 g<=3000000;omega
 have HOP:=Aa ho;obtain⟨p,c,rfl,r1,r2,r3⟩:=ho;obtain⟨n,hn⟩:∃n,f.length=n:=⟨_,rfl⟩;have HN:=Aa hn;rw[hn]at r1 hl cK ⊢;obtain⟨i0,hi,hz0,hz1,hz2⟩:=info_parts Ho;obtain⟨RL,hRL⟩:∃RL:Int,by_ u g=RL:=⟨_,rfl⟩;rw[hRL]at cN cK hub1 hup;have HRL:=Aa hRL;unfold D5 at cC cN;unfold maxLen at r2;clear cU cV hr he hs hu hv hwf hsm hC1 hu0 hv0 hub hp1 hp2 hp3 hc hn r3 hRL
 go_enter func46,ntmps46
 go_wp2_with (first
  | (have _:=hfirst;go_at_call 36;refine(CV.out _).mono ?_;rintro e w1 ⟨rfl,hw1⟩;obtain rfl:=hw1.symm)
  | (go_at_call 36;refine(CU.out _).mono ?_;rintro e w1 ⟨rfl,hw1⟩;obtain rfl:=hw1.symm;have hfirst:=trivial)
  | (go_at_call 65;refine(cC.out _).mono ?_;rintro e w1 ⟨rfl,hb1⟩;have hbx:=(A9 w1.heap.size w1).alloc (Ai _) (Oc #[I6 (C1 g),I6 (C2 g),I6 (C3 g),I6 (C4 g)] 118);have hby:=hbx.alloc hbx.size (Oc #[I6 0,I6 (-1)] 32);have HB1:=Aa (hb1.trans (hby.mono hb1.size));clear hb1 hbx hby)
  | (go_at_call 79;refine(cN.out _).mono ?_;rintro e w2 ⟨rfl,hb2⟩;have HB2:=Aa (HB1.out.trans (hb2.mono HB1.out.size));clear hb2)
  | (go_at_call 78;refine(cK.out _ HB2.out).mono ?_;rintro e w3 ⟨rfl,hb3⟩;have HB3:=Aa (HB2.out.trans (hb3.mono HB2.out.size));clear hb3))
 clear HB1 HB2 CU CV cC cN cK
 go_loopw [13,14,15,43] (λv13 v14 v15 i wr=>∃k:Nat,i=.int .i64 k/\v14=.int .i64 (Ak (f.take k))/\v15=.int .i64 (by_ v (A8 g u (Ak (f.take k))))/\∃L:List Pt,L.length=k/\Hd g u v 0 f=(L++(Hd g u v (Ak (f.take k)) (f.drop k)).1,(Hd g u v (Ak (f.take k)) (f.drop k)).2)/\k<=n/\wr.ownsRow w.heap.size 87 3 v13 k (Cw L)/\Bw w wr) (λ_ _ _ i _=>n - (intOf i).toNat)
 case atStart =>
  have e1:Ak (f.take 0)=0:=by simp[Ak]
  refine⟨0,rfl,by rw[e1],by rw[e1,Ym,PX],[],rfl,by rw[e1];rfl,AV _,BL _ _ _ _,HB3.out⟩
 case round =>
  obtain⟨k,rfl,rfl,rfl,L,hLk,t,hk,I,B⟩:=hrel;obtain⟨pv,cv,rfl⟩:=Bm I;clear HB3
  by_cases hlt:k<n
  . have hkr:k<f.length:=by rw[HN.out];exact hlt
    have hne:f≠[]:=by intro e;rw[e]at hkr;exact absurd hkr (AP _)
    obtain⟨p0,c0,hvv,_,_,S⟩:=HOP.out;obtain⟨b0,o,rfl,hb0,S⟩:=S hne;obtain⟨f0,f1,f2⟩:=S k f[k] (B7 hkr);have g0:=(zC B b0 (o+k*3) hb0).trans f0;have g1:=(zC B b0 (o+k*3+1) hb0).trans f1;have g2:=(zC B b0 (o+k*3+2) hb0).trans f2;obtain rfl:p=some (Ad b0 o):=by injection hvv
    clear hvv S f0 f1 f2 hne;have hqm:f[k]∈f:=BE _;have hob:=(HP1.out _ hqm).1;have hts:f.take (k+1)=f.take k++[f[k]]:=AD hkr;have Q:Ak (f.take (k+1))=Ak (f.take k)+Ab f[k]:=by rw[hts,JT];simp[Ak]
    have hA0:0<=Ak (f.take k):=Ob λq hq=>HP3.out q (BZ hq);have hAN:Ak (f.take (k+1))<=RL:=by
     have e2:Ak f=Ak (f.take (k+1))+Ak (f.drop (k+1)):=by rw[←JT,AW]
     have:=Ob λq hq=>HP3.out q (DJ (i:=k+1) hq);have:=HP2.out;have:=HRL.out;omega
    have hdk:f.drop k=f[k] :: f.drop (k+1):=BK hkr;rw[hdk]at t;generalize f[k]=q at *;obtain⟨K,D,U⟩:=q;obtain⟨A,hA⟩:∃A,Ak (f.take k)=A:=⟨_,rfl⟩;rw[hA]at Q hA0 t ⊢;have hld:Ab ⟨K,D,U⟩=K+D:=rfl;rw[hld]at Q;have hsnd:=(KC hob).1;obtain⟨s1,s2⟩:=hsnd;have s1:0<=K:=s1;have s2:0<=D:=s2;have hRLe:=HRL.out;have hw0:IntKind.i64.wrap (K+D)=K+D:=by rw[BG];omega
    have hw3:IntKind.i64.wrap (A+(K+D))=A+(K+D):=by rw[BG];omega
    have hj:(k:Int)<(n:Int):=by omega
    have Z:Hid ((wr.alloc (Oc #[I6 K,I6 D,Sx U] 87)).ownsRow w.heap.size 87 3 (.slice pv k cv) k (Cw L)):=I.alloc _;have HLT:Hid (∀j,(Value.slice pv k cv).ownBlock=some j->j<wr.heap.size):=λj hj=>(I.lt j hj).2;have HBP:Hid (Bw w (wr.alloc (Oc #[I6 K,I6 D,Sx U] 87))):=B.alloc B.size _;have hwlt:=B.size;have E:wr.heap.size<(wr.alloc (Oc #[I6 K,I6 D,Sx U] 87)).heap.size:=by simp
    have x0:(wr.alloc (Oc #[I6 K,I6 D,Sx U] 87)).cell? (Ad wr.heap.size 0)=some (I6 K):=by simp[go_sem]
    have x1:(wr.alloc (Oc #[I6 K,I6 D,Sx U] 87)).cell? (Ad wr.heap.size 1)=some (I6 D):=by simp[go_sem]
    have x2:(wr.alloc (Oc #[I6 K,I6 D,Sx U] 87)).cell? (Ad wr.heap.size 2)=some (Sx U):=by simp[go_sem]
    have xf:(wr.alloc (Oc #[I6 K,I6 D,Sx U] 87)).frozen? (Ad wr.heap.size 0)=false:=by simp[go_sem]
    have xg:(wr.alloc (Oc #[I6 K,I6 D,Sx U] 87)).frozen? (Ad wr.heap.size 1)=false:=by simp[go_sem]
    have cA:=CAH.out (A+(K+D)) (wr.alloc (Oc #[I6 K,I6 D,Sx U] 87)) (by omega) (by omega);obtain⟨h,hh⟩:∃h,by_ v (A8 g u A)=h:=⟨_,rfl⟩
    by_cases P:Eh g u (A+(K+D))=true
    . rw [if_pos P,if_pos P]at cA
      rw[Hd,if_pos (by rw[hld];exact P)]at t;have hXle1:=Wg (v:=1) g (u:=u) (a:=A+(K+D)) (by omega);have hXle:=Wg (v:=v) g (u:=u) (a:=A+(K+D)) (by omega);have Y:=gr (u:=u) (v:=v) g (a:=A) (b:=A+(K+D)) (by omega) (by omega);have hp0:=Jj v (A8 g u A);have hHU:=HUB.out v;have hHC:=HC1.out;have hby1:∀y,by_ 1 y=C1 y:=λ_=>rfl;rw[hby1,hby1]at hXle1;rw[hld]at t;obtain⟨X,hX⟩:∃X,A8 g u (A+(K+D))=X:=⟨_,rfl⟩;rw[hX]at cA t hXle hXle1 Y;have cI:=λW=>CIH.out X W (by omega);obtain⟨XV,hXV⟩:∃XV,by_ v X=XV:=⟨_,rfl⟩;rw[hXV]at cI t hXle Y;rw[hh]at t Y hp0 ⊢;obtain⟨M,hM⟩:∃M,XV - h=M:=⟨_,rfl⟩;rw[hM]at t;have hwM:IntKind.i64.wrap (XV - h)=M:=by rw[BG];omega
      have R:Hid (Hd g u v 0 f=((L++[Gi M ⟨K,D,U⟩])++(Hd g u v (Ak (f.take (k+1))) (f.drop (k+1))).1,(Hd g u v (Ak (f.take (k+1))) (f.drop (k+1))).2)):=by
       show Hd g u v 0 f=_;rw[t,Q];simp
      have HA1:=Aa Q;have HXV:Hid (by_ v (A8 g u (A+(K+D)))=XV):=by show by_ v (A8 g u (A+(K+D)))=XV;rw[hX,hXV]
      have HLL:=Aa hLk;unfold D5 at cA cI;have CA:=Aa cA;have CI:=Aa cI;have HOPX:=Z;clear I B t Q hAN hts hqm hkr hXle hXle1 Y hp0 hHU hHC hby1 hX hXV hh hM P cA cI hRLe hLk hdk hA HOP;have HOP:=Z
      rcases QM hob with ⟨o1,o2,o3⟩|⟨o1,o2,o3⟩|⟨o1,o2,o3⟩
      . replace o1:0<K:=o1
        replace o2:D=0:=o2
        replace o3:U=[]:=o3
        have hUe:U.isEmpty=true:=by rw[o3];rfl
        have HTK:=R;have e1:Gi M ⟨K,D,U⟩=⟨M,D,U⟩:=by unfold Gi;rw[if_pos o1];show(⟨M,0,[]⟩:Pt)=⟨M,D,U⟩;rw[o2,o3]
        rw[e1]at HTK;clear e1 R o2 o3 s2 hob
        go_wp2_with (first
         | (go_at_call 80;refine AC CA.out ?_;rintro e C ⟨rfl,d⟩;have J:=Aa (HBP.out.trans (d.mono HBP.out.size));have HO5:=Aa (Fe Z.out d);have y0:=GT d x0;have y1:=GT d x1;have y2:=GT d x2;have yf:=(d.frozen (p:=(Ad wr.heap.size 0)) E).trans xf;have yg:=(d.frozen (p:=(Ad wr.heap.size 1)) E).trans xg;have F:Bw C (C.alloc (Oc #[I6 (C1 X),I6 (C2 X),I6 (C3 X),I6 (C4 X)] 118)):=zA _ _;have HBA:=Aa F;have z0:=GT F y0;have z1:=GT F y1;have z2:=GT F y2;have hlt5:wr.heap.size<C.heap.size:=AK E d.size;have O:Hid (Bw w (C.alloc (Oc #[I6 (C1 X),I6 (C2 X),I6 (C3 X),I6 (C4 X)] 118))):=J.out.alloc J.out.size _;have HO6:Hid ((C.alloc (Oc #[I6 (C1 X),I6 (C2 X),I6 (C3 X),I6 (C4 X)] 118)).ownsRow w.heap.size 87 3 (.slice pv k cv) k (Cw L)):=HO5.out.alloc _;have HCX:Hid (counted (C.alloc (Oc #[I6 (C1 X),I6 (C2 X),I6 (C3 X),I6 (C4 X)] 118)) C.heap.size (C1 X) (C2 X) (C3 X) (C4 X)):=NT C _ _ _ _ _;have HY0:Hid (Pcell C wr.heap.size K D U):=⟨y0,y1,y2,yf,yg⟩;clear d)
         | (have _:=HM7;go_at_call 79;refine(CI.out _).mono ?_;rintro e w8 ⟨rfl,z⟩;have H:Bw w (w7.setCell (Ad wr.heap.size 0) (I6 M)):=HB7.out.setCell (p:=(Ad wr.heap.size 0)) hwlt _;have N:=Aa (H.trans (z.mono H.size));have HO8:Hid (w8.ownsRow w.heap.size 87 3 (.slice pv k cv) k (Cw L)):=Fe (Xr HO7.out HLT.out _) z;obtain⟨q0,q1,q2,q3,q4⟩:=(Pi HP7.out M).below z;have hs8:=N.out.size;clear z H)
         | (go_at_call 79;refine(CI.out _).mono ?_;rintro e w7 ⟨rfl,G⟩;have HB7:=Aa (O.out.trans (G.mono O.out.size));have HO7:=Aa (Fe HO6.out G);have HP7:=Aa ((HY0.out.below HBA.out).below G);obtain⟨n0,n1,n2,n3,n4⟩:=(HY0.out.below HBA.out).below G;have hc7:=Hp HCX.out G;obtain⟨⟨c0',c1',c2',c3'⟩,_⟩:=hc7;have HM7:=trivial;clear G)
         | (at_builtin;refine wpList_append_own _ rfl _ _ 37 rfl w.heap.size 87 i0 (.agg #[I6 0,I6 0,.string ⟨#[]⟩]) 3 32 underlying37 hi hz0 hz1 hz2 rfl (by decide) _ _ _ rfl (HO8.out.alloc _) (Ad w8.heap.size 0) 1 1 (Ed ⟨M,D,U⟩) rfl rfl (Sc _ _ (by first | rfl | simp) _ _) (Gx _) (by unfold maxLen;omega) (by omega) (by first | omega | (simp;omega)) ?_))
        intro v' w' m hg' _;obtain⟨p',c',rfl⟩:=Bm m;have HB9:Hid (Bw w w'):=(N.out.alloc N.out.size _).grown hg' (by simp;omega) λk hk=>(HO8.out.lt k hk).1;have HO9:=Aa m;clear m hg';go_wp2
        go_roundw
        case rel =>
         refine⟨k+1,by go_num,HA1.out.symm ▸ rfl,by first | rfl | (rw[HA1.out,HXV.out]),L++[⟨M,D,U⟩],by rw[AA,HLL.out];rfl,HTK.out,by have:=HN.out;omega,?_,HB9.out⟩;rw[JQ];exact HO9.out
        case measure=>simp[intOf];omega
      . replace o1:K=0:=o1
        replace o2:0<D:=o2
        replace o3:U=[]:=o3
        have hUe:U.isEmpty=true:=by rw[o3];rfl
        have HTK:=R;have hK0:¬0<K:=by omega
        have e1:Gi M ⟨K,D,U⟩=⟨K,M,U⟩:=by unfold Gi;rw[if_neg (show ¬0<(⟨K,D,U⟩:Pt).keep from hK0),if_pos o2];show(⟨0,M,[]⟩:Pt)=⟨K,M,U⟩;rw[o1,o3]
        rw[e1]at HTK;clear e1 R o1 o3 s1 hob
        go_wp2_with (first
         | (go_at_call 80;refine AC CA.out ?_;rintro e C ⟨rfl,d⟩;have J:=Aa (HBP.out.trans (d.mono HBP.out.size));have HO5:=Aa (Fe Z.out d);have y0:=GT d x0;have y1:=GT d x1;have y2:=GT d x2;have yf:=(d.frozen (p:=(Ad wr.heap.size 0)) E).trans xf;have yg:=(d.frozen (p:=(Ad wr.heap.size 1)) E).trans xg;have F:Bw C (C.alloc (Oc #[I6 (C1 X),I6 (C2 X),I6 (C3 X),I6 (C4 X)] 118)):=zA _ _;have HBA:=Aa F;have z0:=GT F y0;have z1:=GT F y1;have z2:=GT F y2;have hlt5:wr.heap.size<C.heap.size:=AK E d.size;have O:Hid (Bw w (C.alloc (Oc #[I6 (C1 X),I6 (C2 X),I6 (C3 X),I6 (C4 X)] 118))):=J.out.alloc J.out.size _;have HO6:Hid ((C.alloc (Oc #[I6 (C1 X),I6 (C2 X),I6 (C3 X),I6 (C4 X)] 118)).ownsRow w.heap.size 87 3 (.slice pv k cv) k (Cw L)):=HO5.out.alloc _;have HCX:Hid (counted (C.alloc (Oc #[I6 (C1 X),I6 (C2 X),I6 (C3 X),I6 (C4 X)] 118)) C.heap.size (C1 X) (C2 X) (C3 X) (C4 X)):=NT C _ _ _ _ _;have HY0:Hid (Pcell C wr.heap.size K D U):=⟨y0,y1,y2,yf,yg⟩;clear d)
         | (have _:=HM7;go_at_call 79;refine(CI.out _).mono ?_;rintro e w8 ⟨rfl,z⟩;have H:Bw w (w7.setCell (Ad wr.heap.size 1) (I6 M)):=HB7.out.setCell (p:=(Ad wr.heap.size 1)) hwlt _;have N:=Aa (H.trans (z.mono H.size));have HO8:Hid (w8.ownsRow w.heap.size 87 3 (.slice pv k cv) k (Cw L)):=Fe (Xr HO7.out HLT.out _) z;obtain⟨q0,q1,q2,q3,q4⟩:=(Ph HP7.out M).below z;have hs8:=N.out.size;clear z H)
         | (go_at_call 79;refine(CI.out _).mono ?_;rintro e w7 ⟨rfl,G⟩;have HB7:=Aa (O.out.trans (G.mono O.out.size));have HO7:=Aa (Fe HO6.out G);have HP7:=Aa ((HY0.out.below HBA.out).below G);obtain⟨n0,n1,n2,n3,n4⟩:=(HY0.out.below HBA.out).below G;have hc7:=Hp HCX.out G;obtain⟨⟨c0',c1',c2',c3'⟩,_⟩:=hc7;have HM7:=trivial;clear G)
         | (at_builtin;refine wpList_append_own _ rfl _ _ 37 rfl w.heap.size 87 i0 (.agg #[I6 0,I6 0,.string ⟨#[]⟩]) 3 32 underlying37 hi hz0 hz1 hz2 rfl (by decide) _ _ _ rfl (HO8.out.alloc _) (Ad w8.heap.size 0) 1 1 (Ed ⟨K,M,U⟩) rfl rfl (Sc _ _ (by first | rfl | simp) _ _) (Gx _) (by unfold maxLen;omega) (by omega) (by first | omega | (simp;omega)) ?_))
        intro v' w' m hg' _;obtain⟨p',c',rfl⟩:=Bm m;have HB9:Hid (Bw w w'):=(N.out.alloc N.out.size _).grown hg' (by simp;omega) λk hk=>(HO8.out.lt k hk).1;have HO9:=Aa m;clear m hg';go_wp2
        go_roundw
        case rel =>
         refine⟨k+1,by go_num,HA1.out.symm ▸ rfl,by first | rfl | (rw[HA1.out,HXV.out]),L++[⟨K,M,U⟩],by rw[AA,HLL.out];rfl,HTK.out,by have:=HN.out;omega,?_,HB9.out⟩;rw[JQ];exact HO9.out
        case measure=>simp[intOf];omega
      . replace o1:K=0:=o1
        replace o2:D=0:=o2
        have hUe:U.isEmpty=false:=by cases U with | nil=>exact absurd rfl o3 | cons x U=>rfl
        have HTK:=R;have e1:Gi M ⟨K,D,U⟩=⟨K,D,U⟩:=by unfold Gi;rw[if_neg (show ¬0<(⟨K,D,U⟩:Pt).keep by show ¬0<K;omega),if_neg (show ¬0<(⟨K,D,U⟩:Pt).drop by show ¬0<D;omega)];show(⟨0,0,U⟩:Pt)=⟨K,D,U⟩;rw[o1,o2]
        rw[e1]at HTK;clear e1 R o1 o2 s1 s2 hob
        go_wp2_with (first
         | (go_at_call 80;refine AC CA.out ?_;rintro e C ⟨rfl,d⟩;have J:=Aa (HBP.out.trans (d.mono HBP.out.size));have HO5:=Aa (Fe Z.out d);have y0:=GT d x0;have y1:=GT d x1;have y2:=GT d x2;have yf:=(d.frozen (p:=(Ad wr.heap.size 0)) E).trans xf;have yg:=(d.frozen (p:=(Ad wr.heap.size 1)) E).trans xg;have F:Bw C (C.alloc (Oc #[I6 (C1 X),I6 (C2 X),I6 (C3 X),I6 (C4 X)] 118)):=zA _ _;have HBA:=Aa F;have z0:=GT F y0;have z1:=GT F y1;have z2:=GT F y2;have hlt5:wr.heap.size<C.heap.size:=AK E d.size;have O:Hid (Bw w (C.alloc (Oc #[I6 (C1 X),I6 (C2 X),I6 (C3 X),I6 (C4 X)] 118))):=J.out.alloc J.out.size _;have HO6:Hid ((C.alloc (Oc #[I6 (C1 X),I6 (C2 X),I6 (C3 X),I6 (C4 X)] 118)).ownsRow w.heap.size 87 3 (.slice pv k cv) k (Cw L)):=HO5.out.alloc _;have HCX:Hid (counted (C.alloc (Oc #[I6 (C1 X),I6 (C2 X),I6 (C3 X),I6 (C4 X)] 118)) C.heap.size (C1 X) (C2 X) (C3 X) (C4 X)):=NT C _ _ _ _ _;have HY0:Hid (Pcell C wr.heap.size K D U):=⟨y0,y1,y2,yf,yg⟩;clear d)
         | (go_at_call 79;refine(CI.out _).mono ?_;rintro e w8 ⟨rfl,z⟩;have N:=Aa (O.out.trans (z.mono O.out.size));have HO8:=Aa (Fe HO6.out z);have q0:=GT z z0;have q1:=GT z z1;have q2:=GT z z2;have hs8:=N.out.size;clear z)
         | (at_builtin;refine wpList_append_own _ rfl _ _ 37 rfl w.heap.size 87 i0 (.agg #[I6 0,I6 0,.string ⟨#[]⟩]) 3 32 underlying37 hi hz0 hz1 hz2 rfl (by decide) _ _ _ rfl (HO8.out.alloc _) (Ad w8.heap.size 0) 1 1 (Ed ⟨K,D,U⟩) rfl rfl (Sc _ _ (by first | rfl | simp) _ _) (Gx _) (by unfold maxLen;omega) (by omega) (by first | omega | (simp;omega)) ?_))
        intro v' w' m hg' _;obtain⟨p',c',rfl⟩:=Bm m;have HB9:Hid (Bw w w'):=(N.out.alloc N.out.size _).grown hg' (by simp;omega) λk hk=>(HO8.out.lt k hk).1;have HO9:=Aa m;clear m hg';go_wp2
        go_roundw
        case rel =>
         refine⟨k+1,by go_num,HA1.out.symm ▸ rfl,by first | rfl | (rw[HA1.out,HXV.out]),L++[⟨K,D,U⟩],by rw[AA,HLL.out];rfl,HTK.out,by have:=HN.out;omega,?_,HB9.out⟩;rw[JQ];exact HO9.out
        case measure=>simp[intOf];omega
    . have P:Eh g u (A+(K+D))=false:=Bool.eq_false_iff.2 P
      rw[if_neg (by rw[P];decide),if_neg (by rw[P];decide)]at cA;rw[Hd,if_neg (by rw[hld,P];decide)]at t;have e2:(Hd g u v 0 f).2=false:=by rw[t]
      have HRX:Hid (Ko g u v f=10/\Kn g u v f=[]):=by
       show Ko g u v f=10/\Kn g u v f=[];unfold Ko Kn;rw[e2];exact⟨rfl,rfl⟩
      rw[hh];unfold D5 at cA;have CA:=Aa cA;clear I B t Q hAN hts hqm hkr hh P cA hRLe hLk hdk hA e2 hob
      go_wp2_with (go_at_call 80;refine AC CA.out ?_;rintro e C ⟨rfl,d⟩;have J:=Aa (HBP.out.trans (d.mono HBP.out.size));have O:Hid (Bw w (C.alloc (Oc #[I6 (C1 []),I6 (C2 []),I6 (C3 []),I6 (C4 [])] 118))):=J.out.alloc J.out.size _;clear d)
      go_ret2
      refine⟨.slice none 0 0,?_,?_,O.out⟩
      . rw[HRX.out.1];rfl
      . rw[HRX.out.2];exact Ik _ _
  . obtain rfl:k=n:=by omega
    have e:f.drop k=[]:=DH (by rw[HN.out];exact Ai _);rw[e]at t;have htz2:Hd g u v 0 f=(L,true):=by rw[t];simp[Hd]
    have HRX:Hid (Ko g u v f=0/\Kn g u v f=L):=by
     show Ko g u v f=0/\Kn g u v f=L;unfold Ko Kn;rw[htz2];exact⟨rfl,rfl⟩
    have HB:=Aa B;have hop:opN w.heap.size wr (.slice pv k cv) L:=by
     have:=I;rw[←hLk]at this ⊢;exact J6 (Ai _) this
    have HOPW:=Aa hop;clear hop I e B t htz2 hLk;go_wp2
    go_ret2
    refine⟨.slice pv k cv,?_,?_,HB.out⟩
    . rw[HRX.out.1];rfl
    . rw[HRX.out.2];exact HOPW.out
end
section
attribute [local go_sem] Oper.semAt_some
def uB (u:Int):Bool:=decide (u=1\/u=2\/u=3)
theorem My(u:Int):uB u=true↔Ck u:=by unfold uB Ck;exact decide_eq_true_iff
def tzE (rs:List Nat) (u v:Int) (qs:List Pt):Int:=if (uB u && uB v)=true then (if chkE qs (by_ u rs)=0 then Ko rs u v qs else chkE qs (by_ u rs)) else 1
def KL (rs:List Nat) (u v:Int) (qs:List Pt):List Pt:=if (uB u && uB v)=true then (if chkE qs (by_ u rs)=0 then Kn rs u v qs else []) else []
theorem TB(b:List Nat)(h:C1 b<=1000000)(x:Int):by_ x b<=3000000:=by
 have e:=Nl b;have d:=Kk b;have c:=Np b;unfold by_;split<;>(try split)<;>(try split)<;>omega
theorem KQ{u:Int}(d:Ck u){b:List Nat}{q:List Pt}(m:∀r∈b,Df r)(h:tzE b u 1 q=0) :
    good (KL b u 1 q) (encs b)/\Aj (KL b u 1 q) (encs b)=encs (I9 u b q)/\(∀r∈I9 u b q,Df r)/\QV u b q=(if C1 (I9 u b q)<=8000 then 0 else 12)/\Vl u b q=(if C1 (I9 u b q)<=8000 then I9 u b q else b)/\chkE q (by_ u b)=0/\F4 u b q=true/\KL b u 1 q=GW u 1 b q:=by
 have v:(uB u && uB 1)=true:=by rw[(My u).2 d,(My 1).2 (.inl rfl)];rfl
 unfold tzE at h;unfold KL;rw[v,if_pos rfl]at h ⊢;have c:chkE q (by_ u b)=0:=by
  by_cases c:chkE q (by_ u b)=0
  . exact c
  . rw[if_neg c]at h;exact absurd h c
 rw[if_pos c]at h ⊢;obtain⟨i,j,k⟩:=OC c;obtain⟨p,z⟩:=Wf d 1 q b k (Int.le_of_eq j);have f:F4 u b q=true:=by
  rw[p]at h
  cases e:F4 u b q with
  | true=>rfl
  | false=>rw[e]at h;cases h
 rw[z,f,if_pos rfl];obtain⟨s,t⟩:=V2 d q b i j m f;have o:QV u b q=(if C1 (I9 u b q)<=8000 then 0 else 12):=by
  unfold QV Vm;rw[if_pos c,if_pos f]
 refine⟨s.good,t,YW d q b k (Int.le_of_eq j) f m,o,?_,c,rfl,rfl⟩;unfold Vl;rw[o]
 by_cases g:C1 (I9 u b q)<=8000
 . rw[if_pos g,if_pos rfl,if_pos g]
 . rw[if_neg g,if_neg (by decide),if_neg g]
theorem To{u:Int}:∀(b:List Pt)(R:List Nat),(∀q∈b,Db q=true)->Al (GW u 1 R b)=Al b
 | [],_,_=>rfl
 | q :: b,R,h=>by
  have ih:=To (u:=u) b (Ej u R (Ab q)) λx c=>h x (by simp[c]);have e:∀(p:Pt) (l:List Pt),Al (p :: l)=p.put.length+Al l:=λp l=>by simp[Al]
  rw[GW,e,e,ih,TL (h q (by simp))]
theorem T5:∀(b:List Pt),(∀q∈b,q.put.length<=300)->Al b<=300*b.length
 | [],_=>by simp[Al]
 | q :: b,h=>by
  have ih:=T5 b λx c=>h x (by simp[c]);have:=h q (by simp);have e:Al (q :: b)=q.put.length+Al b:=by simp[Al]
  rw[e,AJ];omega
def Pu (s:List UInt8):Prop:=(scan s).2=true/\s.length<=1500
theorem Ln(a b c d:Int)(w:World):(Instr.field 118 (.agg #[I6 a,I6 b,I6 c,I6 d]) 2).run prog w=.ok (I6 c) w:=by kernel_rfl
attribute [local go_sem] Ln
structure told (x:List Pt) (s:List UInt8):Prop where
 good:good x s
 doc:Pu s
 len:x.length<=61
 puts:Al x<=9150
end
theorem KY(u:List UInt8)(j:Nat)(v:j+1<=u.length)(ps:List Pt)(r:List UInt8)(h:Left (⟨0,0,u⟩ :: ps) r)(m:V (u.take (j+1))) :
    (Ah ⟨0,0,u⟩ ((j:Int)+1)).1=⟨0,0,u.take (j+1)⟩/\Left ((Ah ⟨0,0,u⟩ ((j:Int)+1)).2++ps) r/\Aj (⟨0,0,u⟩ :: ps) r=u.take (j+1)++Aj ((Ah ⟨0,0,u⟩ ((j:Int)+1)).2++ps) r/\Bc ((Ah ⟨0,0,u⟩ ((j:Int)+1)).2++ps)+(j+1)=Bc (⟨0,0,u⟩ :: ps):=by
 obtain⟨b,s⟩:=Nw h;have t:((j:Int)+1).toNat=j+1:=by omega
 have k:Bc (⟨0,0,u⟩ :: ps)=u.length+Bc ps:=by rw[Ff,LZ];omega
 rw[k,Ky]
 by_cases e:u.length=j+1
 . have c:Ah ⟨0,0,u⟩ ((j:Int)+1)=(⟨0,0,u⟩,[]):=by unfold Ah;rw[if_pos (by rw[LZ];omega)]
   rw[c,AQ (by omega)];exact⟨rfl,b,rfl,by show Bc ps+(j+1)=_;omega⟩
 . have c:Ah ⟨0,0,u⟩ ((j:Int)+1)=(⟨0,0,u.take (j+1)⟩,[⟨0,0,u.drop (j+1)⟩]):=by
     unfold Ah;rw[if_neg (by rw[LZ];omega),if_neg (show ¬0<(⟨0,0,u⟩:Pt).keep from FF 0),if_neg (show ¬0<(⟨0,0,u⟩:Pt).drop from FF 0),t]
   have o:u=u.take (j+1)++u.drop (j+1):=(AW _ _).symm;have f:V (u.drop (j+1)):=Vq s m;have i:u.drop (j+1)≠[]:=λg=>by have:=congrArg List.length g;rw[AM]at this;simp at this;omega
   rw[c];refine⟨rfl,⟨?_,?_,f,?_,?_⟩,?_,?_⟩
   . intro p d
     rcases List.mem_cons.1 d with rfl|d
     . exact .inr (.inr ⟨rfl,rfl,i⟩)
     . exact b.one p d
   . have:=b.long
     simp only[BR,BA];rw[Im];show(0:Int)+0+_=_;omega
   . show V (r.take 0);rw[DW];exact GP
   . exact b.al
   . show u++Aj ps r=u.take (j+1)++Aj (⟨0,0,u.drop (j+1)⟩ :: ps) r
     rw[Ky,←AH,←o]
   . show Bc (⟨0,0,u.drop (j+1)⟩ :: ps)+(j+1)=_
     rw[Ff,LZ,AM];omega
theorem Qy(d:Bool)(n:Nat):Dg (At d (n+1))=d:=by
 have b:(0:Int)<((n:Int)+1):=by omega
 cases d<;>simp[Dg,At,b]
theorem RR(d:Bool)(n:Nat):Gv (At d (n+1)) = !d:=by
 have b:(0:Int)<((n:Int)+1):=by omega
 cases d<;>simp[Gv,At,b]
theorem Lx:∀(f:Nat)(A B:List Pt)(r T D o:List UInt8)(s:Av),Left A r->Left B (Aj A r)->Bc A+Bc B<=f->St T D r o s ->
    St T T [] (o++Aj B (Aj A r)) (B9 Do (Bi Dg Au f A B) s):=by
 have base:∀(T D o:List UInt8) (s:Av) (g:Nat),St T D [] o s->St T T [] (o++Aj [] (Aj [] [])) (B9 Do (Bi Dg Au g [] []) s):=by
  intro T D o s g h;have e:Bi Dg Au g [] []=[]:=by cases g<;>rfl
  rw[e];exact h.full.none
 have G:∀{l:List Pt} {r:List UInt8},Left l r->Bc l=0->l=[]:=by
  intro l r h hw
  cases l with
  | nil=>rfl
  | cons p l=>have:=Mh (h.one p (by simp)) l;omega
 intro f
 induction f with
 | zero =>
  intro A B r T D o s F z hw h;obtain rfl:=G F (by omega);obtain rfl:=G z (by omega);obtain rfl:=L9 F;exact base T D o s 0 h
 | succ f ih =>
  intro A B r T D o s F z hw h;have E:∀(v:List UInt8) (c:List Pt),v≠[]->B=⟨0,0,v⟩ :: c->Bi Dg Au (f+1) A B=(Dh,⟨0,0,v⟩) :: Bi Dg Au f A c->St T T [] (o++Aj B (Aj A r)) (B9 Do (Bi Dg Au (f+1) A B) s):=by
   intro v c b e S;subst e;obtain⟨hB',hV⟩:=Nw z;have hw':=Mh (z.one ⟨0,0,v⟩ (by simp)) c;rw[S,NH,Ky,←AH];refine ih A c r T D (o++v) _ F hB' (by omega) ?_;have e:Do (Dh,⟨0,0,v⟩)=[⟨0,0,v⟩]:=by simp[Do,Dg,Gv,Au,Dh,b]
   rw[e];exact h.put hV
  cases A with
  | nil =>
   obtain rfl:=L9 F
   cases B with
   | nil=>exact base T D o s (f+1) h
   | cons q c =>
    rcases Ih (z.one q (by simp)) with ⟨v,b,rfl⟩|⟨e,k,rfl⟩
    . exact E v c b rfl (by
        have H:=JM b
        simp only[Bi,H,if_true])
    . exact absurd z QR
  | cons p A' =>
   rcases Ih (F.one p (by simp)) with ⟨u,hu,rfl⟩|⟨d,m,rfl⟩
   . have hdu : Dg ⟨0,0,u⟩=false:=by simp[Dg]
     cases B with
     | nil =>
      have:=L9 z;rw[Ky]at this;simp[hu]at this
     | cons q c =>
      rcases Ih (z.one q (by simp)) with ⟨v,b,rfl⟩|⟨e,k,rfl⟩
      . exact E v c b rfl (by
          have H:=JM b
          simp only[Bi,hdu,H,BW,if_false,if_true])
      . obtain ⟨m,hm⟩:∃m,u.length=m+1:=⟨u.length - 1,by have:=List.length_pos_iff.2 hu;omega⟩
        have t:min (Ba ⟨0,0,u⟩) (Ba (At e (k+1)))=((min m k:Nat):Int)+1:=by rw[LZ,Ij];omega
        obtain⟨j,hj⟩:∃j,min m k=j:=⟨_,rfl⟩;rw[hj]at t;have L:j<=m:=by omega
        have C:j<=k:=by omega
        have huv:=(Nw F).2;have Z:=Ky u A' r
        have b:V (u.take (j+1)):=by
         have O:=(Jq z).2.2.1;rw[IM,Z]at O
         by_cases hc:m<=k
         . rw[AQ (by omega)];exact huv
         . obtain rfl:k=j:=by omega
           have Y:((k+1:Nat):Int).toNat=k+1:=by omega
           rw[Y,List.take_append_of_le_length (by omega)]at O;exact O
        obtain⟨c1,W,X,wA⟩:=KY u j (by omega) A' r F b;have J:(u.take (j+1)).length=j+1:=by rw[AO];omega
        have Q:V ((Aj (⟨0,0,u⟩ :: A') r).take (j+1)):=by rw[X,DP J];exact b
        obtain⟨lB,aB,_⟩:=NB e k j C c _ z Q;rw[aB];rw[X,ER J,DP J]at *;have wB:=Mf e k j C;have S:Bi Dg Au (f+1) (⟨0,0,u⟩ :: A') (At e (k+1) :: c)=(⟨0,0,u.take (j+1)⟩,At e (j+1)) :: Bi Dg Au f ((Ah ⟨0,0,u⟩ ((j:Int)+1)).2++A') ((Ah (At e (k+1)) ((j:Int)+1)).2++c):=by
         have H:=IQ e (k+1);simp only[Bi,hdu,H,t,c1,(L7 e k j C).1,BW,if_false]
        have N:Bc ((Ah ⟨0,0,u⟩ ((j:Int)+1)).2++A')+Bc ((Ah (At e (k+1)) ((j:Int)+1)).2++c)<=f:=by
         rw[JO (Ah (At e (k+1)) ((j:Int)+1)).2,wB];rw[Ff (At e (k+1)),Ij]at hw;omega
        rw[S,NH,←AH];refine ih _ _ r T D _ _ W lB N ?_;have hune:u.take (j+1)≠[]:=λe'=>by rw[e']at J;simp at J
        cases e with
        | true =>
         have P:Do (⟨0,0,u.take (j+1)⟩,At true (j+1))=[]:=by
          have I:=RR true j;have H:=IQ true (j+1);simp[Do,Dg,H,Gv];simp[At]
         rw[P,if_pos rfl];exact h.none
        | false =>
         have P:Do (⟨0,0,u.take (j+1)⟩,At false (j+1))=[⟨0,0,u.take (j+1)⟩]:=by
          have I:=RR false j;simp[Do,I]
         rw[P,if_neg (by decide)];exact h.put b
   . cases d with
     | true =>
      obtain⟨W,_,b,i⟩:=Jq F;rw[IM]at W b i;have Y:((m+1:Nat):Int).toNat=m+1:=by omega
      rw[Y]at W b i;have hap:Aj (At true (m+1) :: A') r=Aj A' (r.drop (m+1)):=by rw[MF];simp
      rw[hap]at z ⊢;have hw':=Mh (F.one (At true (m+1)) (by simp)) A';have S:Bi Dg Au (f+1) (At true (m+1) :: A') B=(At true (m+1),Dh) :: Bi Dg Au f A' B:=by
       have I:=Qy true m
       cases B<;>simp only[Bi,I,if_true]
      have P:Do (At true (m+1),Dh)=[At true (m+1)]:=by
       have I:=Qy true m;simp[Do,I]
      rw[S,NH,P];refine ih A' B (r.drop (m+1)) T (D++r.take (m+1)) o _ W z (by omega) ?_;have h':St T D (r.take (m+1)++r.drop (m+1)) o s:=by rw[AW];exact h
      have:=h'.unit b true (m+1) (by rw[AO];omega);rw[if_pos rfl,AZ]at this;exact this
     | false =>
      cases B with
      | nil =>
       have:=L9 z;rw[MF]at this;have i:=(Jq F).2.2.2;rw[IM]at i;have:=congrArg List.length this;rw[if_neg (by decide),AA,AO,AR]at this;omega
      | cons q c =>
       rcases Ih (z.one q (by simp)) with ⟨v,b,rfl⟩|⟨e,k,rfl⟩
       . exact E v c b rfl (by
           have I:=Qy false m;have H:=JM b
           simp only[Bi,I,H,BW,if_false,if_true])
       . have t:min (Ba (At false (m+1))) (Ba (At e (k+1)))=((min m k:Nat):Int)+1:=by rw[Ij,Ij];omega
         obtain⟨j,hj⟩:∃j,min m k=j:=⟨_,rfl⟩;rw[hj]at t;have L:j<=m:=by omega
         have C:j<=k:=by omega
         have R:=(Jq F).2.2.2;rw[IM]at R
         have b:V (r.take (j+1)):=by
          have v1:=(Jq F).2.2.1;have O:=(Jq z).2.2.1;rw[IM]at v1 O
          by_cases hc:m<=k
          . obtain rfl:m=j:=by omega
            exact v1
          . obtain rfl:k=j:=by omega
            have Y:((k+1:Nat):Int).toNat=k+1:=by omega
            rw[Y,MF,if_neg (by decide),List.take_append_of_le_length (by rw[AO];omega),List.take_take,show min (k+1) (m+1)=k+1 by omega]at O;exact O
         obtain⟨W,X,i⟩:=NB false m j L A' r F b;rw[if_neg (by decide)]at X;have J:(r.take (j+1)).length=j+1:=by rw[AO];omega
         have Q:V ((Aj (At false (m+1) :: A') r).take (j+1)):=by rw[X,DP J];exact b
         obtain⟨lB,aB,_⟩:=NB e k j C c _ z Q;rw[aB];rw[X,ER J,DP J]at *;have wA:=Mf false m j L;have wB:=Mf e k j C;have S:Bi Dg Au (f+1) (At false (m+1) :: A') (At e (k+1) :: c)=(At false (j+1),At e (j+1)) :: Bi Dg Au f ((Ah (At false (m+1)) ((j:Int)+1)).2++A') ((Ah (At e (k+1)) ((j:Int)+1)).2++c):=by
          have I:=Qy false m;have H:=IQ e (k+1);simp only[Bi,I,H,t,(L7 false m j L).1,(L7 e k j C).1,BW,if_false]
         have N:Bc ((Ah (At false (m+1)) ((j:Int)+1)).2++A')+Bc ((Ah (At e (k+1)) ((j:Int)+1)).2++c)<=f:=by
          rw[JO,JO,wA,wB];rw[Ff,Ff,Ij,Ij]at hw;omega
         rw[S,NH,←AH];refine ih _ _ (r.drop (j+1)) T (D++r.take (j+1)) _ _ W lB N ?_;have P:Do (At false (j+1),At e (j+1))=[At e (j+1)]:=by
          have I:=RR e j;have H:=RR false j;have h3:=Qy false j
          cases e<;>simp[Do,I,H,h3]
         rw[P];have h':St T D (r.take (j+1)++r.drop (j+1)) o s:=by rw[AW];exact h
         exact h'.unit b e (j+1) J
theorem dL{a b:List Pt}{t:List UInt8}(ha:good a t)(f:good b (Aj a t)) :
    good (Aq (Ha a b)) t/\Aj (Aq (Ha a b)) t=Aj b (Aj a t):=by
 have d:=ha.norm;have c:=f.norm;have g:Left (Ag a) t:=⟨d.one,d.long,d.al⟩;have e:=Uw ha.one t;have h:=Uw f.one (Aj a t);have lb:Left (Ag b) (Aj (Ag a) t):=by rw[e];exact⟨c.one,c.long,c.al⟩
 have:=(Lx _ (Ag a) (Ag b) t t [] [] A7 g lb (Ai _) (S8 t)).good;rw[BA,e,h]at this;exact this
end Go.Proofs.YtkcpjanmemdjlaaGreatDoor
