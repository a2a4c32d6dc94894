/-
  A part of the texts that the proof uses.
-/
import Derived.Test.YtkcpjanmemdjlaaGreatDoorPartI
set_option maxRecDepth 100000
set_option maxHeartbeats 40000000
set_option linter.all false
namespace Go.Proofs.YtkcpjanmemdjlaaGreatDoor
open Go.Proofs.Tryz Go.RowKit Go.Maps
section
attribute [local go_sem] Oper.semAt_some
theorem fg(q:Pt)(w:World):Cg 40 #[.agg #[I6 q.keep,I6 q.drop,Sx q.put]] w (Rt w (.bool (Hc q))):=by
 unfold Hc;obtain⟨K,D,U⟩:=q;have b:(ByteArray.mk U.toArray).size=U.length:=by simp[ByteArray.size]
 by_cases h:200<U.length
 . have a:(200:Int)<(U.length:Int):=by omega
   rw[decide_eq_true h]
   go_enter func40,ntmps40
   go_wp2;go_ret;exact⟨rfl,zA _ _⟩
 . have a:¬(200:Int)<(U.length:Int):=by omega
   rw[decide_eq_false h]
   go_enter func40,ntmps40
   go_wp2;go_ret;exact⟨rfl,zA _ _⟩
theorem cZ(v:Value)(ps:List Pt)(w:World)(P:Ae w v ps)(S:ps.length<=1000) :
    Cg 67 #[v,.func (.func 40) #[] #[]] w λe w'=>∃i:Int,e=.returned (I6 i)/\(decide (0<=i)=ps.any Hc)/\Bw w w':=by
 obtain⟨p,c,rfl,Q,O,L⟩:=P;have R:=Aa L;obtain⟨n,G⟩:∃n,ps.length=n:=⟨_,rfl⟩;have N:=Aa G;rw[G]at Q S ⊢;clear L G;unfold maxLen at O;have X:(n:Int)<=1000:=by omega
 go_enter func67,ntmps67
 go_wp2
 go_loopw [8] (λi wr=>∃k:Nat,i=.int .i64 k/\k<=n/\(ps.take k).any Hc=false/\Bw w wr) (λi _=>n - (intOf i).toNat)
 case atStart=>exact⟨0,rfl,AV _,rfl,A9 _ _⟩
 case round =>
  obtain⟨k,rfl,Y,x,u⟩:=hrel;have t:=Aa x;have a:=Aa u;clear x u
  by_cases A:k<n
  . have g:k<ps.length:=by rw[N.out];exact A
    have l:ps≠[]:=by intro e;rw[e]at g;exact absurd g (AP _)
    obtain⟨b,o,rfl,z,d⟩:=R.out l;obtain⟨E,F,C⟩:=d k ps[k] (B7 g);have I:=(zC a.out b (o+k*3) z).trans E;have J:=(zC a.out b (o+k*3+1) z).trans F;have H:=(zC a.out b (o+k*3+2) z).trans C;have B:(k:Int)<(n:Int):=by omega
    have j:ps.take (k+1)=ps.take k++[ps[k]]:=AD g;have r:ps[k]∈ps:=BE g;have s:Hid (∀y,Cg 40 #[.agg #[I6 ps[k].keep,I6 ps[k].drop,Sx (ps[k].put)]] y (Rt y (.bool (Hc ps[k])))):=λy=>fg _ y
    cases hm:Hc ps[k] with
    | true =>
     have h:Hid (ps.any Hc=true):=List.any_eq_true.2 ⟨_,r,hm⟩;rw[hm]at s;clear d E F C l j r hm;generalize ps[k]=q at *;obtain⟨K,D,U⟩:=q;simp only at I J H s
     go_wp2_with (go_at_call 40;refine(s.out _).mono ?_;rintro e W ⟨rfl,f⟩;have m:=Aa (a.out.trans (f.mono a.out.size));clear f)
     go_ret;exact⟨_,rfl,by rw[h.out];exact decide_eq_true (by omega),m.out⟩
    | false =>
     have h:Hid ((ps.take (k+1)).any Hc=false):=by show _=_;rw[j,FL,t.out];simp[hm]
     rw[hm]at s;clear d E F C l j r hm;generalize ps[k]=q at *;obtain⟨K,D,U⟩:=q;simp only at I J H s
     go_wp2_with (go_at_call 40;refine(s.out _).mono ?_;rintro e W ⟨rfl,f⟩;have m:=Aa (a.out.trans (f.mono a.out.size));clear f)
     go_roundw
     case rel=>exact⟨k+1,by go_num,by omega,h.out,m.out⟩
     case measure=>simp[intOf];omega
  . obtain rfl:k=n:=by omega
    have h:Hid (ps.any Hc=false):=by
     have:=t.out;rw[←N.out,BV]at this;exact this
    have B:¬((k:Int)<(k:Int)):=by omega
    go_wp2;go_ret;exact⟨_,rfl,by rw[h.out];exact decide_eq_false (by omega),a.out⟩
theorem XD(v:Value)(ps:List Pt)(w:World)(g:Ae w v ps)(h:ps.length<=1000) :
    Cg 41 #[v,.func (.func 40) #[] #[]] w (Rt w (.bool (ps.any Hc))):=by
 have C:Hid _:=cZ v ps w g h;obtain⟨p,c,rfl,_⟩:=g
 cases hm:ps.any Hc with
 | true =>
  rw[hm]at C
  go_enter func41,ntmps41
  go_wp2_with (go_at_call 67;refine AC C.out ?_;rintro e j ⟨i,rfl,d,a⟩;have f:0<=i:=of_decide_eq_true d;have b:=Aa a;clear a d)
  go_ret;exact⟨by simp,b.out⟩
 | false =>
  rw[hm]at C
  go_enter func41,ntmps41
  go_wp2_with (go_at_call 67;refine AC C.out ?_;rintro e j ⟨i,rfl,d,a⟩;have f:¬0<=i:=of_decide_eq_false d;have b:=Aa a;clear a d)
  go_ret;exact⟨by simp[f],b.out⟩
def SP (q:Pt):Value:=.agg #[I6 q.keep,I6 q.drop,Sx q.put]
theorem eD(q:Pt)(n:Int)(w:World)(j:q.put.length<=1000000) :
    Cg 71 #[.agg #[I6 q.keep,I6 q.drop,Sx q.put],I6 n] w (Rt w (SP (Gi n q))):=by
 obtain⟨K,D,U⟩:=q;have o:=Aa λl=>Sd U (by have:U.length<=1000000:=j;omega) l;unfold Gi SP;simp only;have c:Bw w ((w.alloc (Oc #[I6 K,I6 D,Sx U] 87)).alloc (Oc #[I6 0,I6 0,.string ⟨#[]⟩] 87)):=(zA _ _).alloc (by rw[Bb];omega) _;have d:=Aa c;clear c j
 by_cases g:0<K
 . rw[if_pos g]
   go_enter func71,ntmps71
   go_wp2;exact bodyPost_ret (v:=.agg #[I6 n,I6 0,.string ⟨#[]⟩]) (by simp[results,results71,go_sem]) rfl ⟨rfl,(zA _ _).alloc (by rw[Bb];omega) _⟩
 . rw [if_neg g]
   by_cases h:0<D
   . rw[if_pos h]
     go_enter func71,ntmps71
     go_wp2;exact bodyPost_ret (v:=.agg #[I6 0,I6 n,.string ⟨#[]⟩]) (by simp[results,results71,go_sem]) rfl ⟨rfl,(zA _ _).alloc (by rw[Bb];omega) _⟩
   . rw [if_neg h]
     go_enter func71,ntmps71
     go_wp2_with (go_at_call 9999)
     refine(o.out _).mono ?_;rintro e i ⟨rfl,b⟩;have a:i.heap[w.heap.size+1]?=some (Oc #[I6 0,I6 0,.string ⟨#[]⟩] 87):=(b.block (w.heap.size+1) (by rw[Bb,AN];omega)).trans (by have:=heap_alloc_new (w.alloc (Oc #[I6 K,I6 D,Sx U] 87)) (Oc #[I6 0,I6 0,.string ⟨#[]⟩] 87);rwa[AN]at this);have k:=cQ a 0 rfl;have r:=cQ a 1 rfl;have m:=cQ a 2 rfl;have s:=fZ a 0;have u:=fZ a 1;have t:=fZ a 2;have f:Hid (Bw w i):=d.out.trans (b.mono d.out.size);clear b a;go_wp2;exact bodyPost_ret (v:=.agg #[I6 0,I6 0,Sx U]) (by simp[results,results71,go_sem,k,r,m]) rfl ⟨rfl,((f.out.setCell (p:=(Ad (w.heap.size+1) 0)) (BX _) _).setCell (p:=(Ad (w.heap.size+1) 1)) (BX _) _).setCell (p:=(Ad (w.heap.size+1) 2)) (BX _) _⟩
end
section
attribute [local go_sem] Oper.semAt_some
variable {u : Int}
theorem ip(b:Ck u){R:List Nat}{n:Int}(d:n<=by_ u R)(c:Eh R u n=true) :
    ∃N:Nat,by_ 1 (A8 R u n)=(N:Int)/\N<=(Fs R).size/\(Fs R).extract N (Fs R).size=Fs (Ej u R n):=by
 obtain⟨e,f⟩:=N9 b d c;have a:encs R=encs (A8 R u n)++encs (Ej u R n):=by rw[←Mk];exact congrArg _ e
 refine⟨(encs (A8 R u n)).length,?_,?_,?_⟩
 . unfold by_;rw[if_pos rfl,Ie]
 . rw[Sv,a,AA];omega
 . apply EZ
   apply Array.ext';rw[Lib.extract_to_end,Su,Su,a,ER rfl]
theorem KX{R:List Nat}{n:Int}:C1 (Ej u R n)<=C1 R:=by
 have e:R=R.take (A8 R u n).length++Ej u R n:=(AW _ R).symm;have h:C1 R=C1 (R.take (A8 R u n).length)+C1 (Ej u R n):=by rw[←Ok];exact congrArg _ e
 have:=Np (R.take (A8 R u n).length);omega
theorem bD(u:Int)(R:List Nat)(q:Pt)(a:List Pt):F4 u R (q :: a)=(Eh R u (Ab q) && F4 u (Ej u R (Ab q)) a):=rfl
theorem dc(u v:Int)(R:List Nat)(q:Pt)(a:List Pt):GW u v R (q :: a)=Gi (by_ v (A8 R u (Ab q))) q :: GW u v (Ej u R (Ab q)) a:=rfl
structure SS (w:World) (u:Int) (rs:List Nat) (qs:List Pt) (k:Nat) (R:List Nat) (L:List Pt) (v:Value) (wr:World):Prop where
 le:k<=qs.length
 len:L.length=k
 own:wr.ownsRow w.heap.size 87 3 v k (Cw L)
 ok:F4 u rs qs=F4 u R (qs.drop k)
 out:GW u 1 rs qs=L++GW u 1 R (qs.drop k)
 long:Ak (qs.drop k)=by_ u R
 rune:∀r∈R,Df r
 few:C1 R<=1000000
 low:Bw w wr
theorem Lj(a:List Nat)(x:∀r∈a,Df r)(z:C1 a<=1000000)(u:Int)(b:List Pt)(d:Value)(w:World)(D:Ck u)(s:Lib.Utf8Tabs 1 2 w)(B:Ae w d b)(k:∀q∈b,Cp q)(J:b.length<=1000)(y:chkE b (by_ u a)≠0) :
    Cg 42 #[d,I6 u,.string (Fs a)] w (Rt w (.tuple #[.slice none 0 0,Ao (chkE b (by_ u a))])):=by
 have o:=TB a z u;have t:=Jj u a;have G:Hid _:=Wp a x (by omega) w s;have A:=Aa λh=>PW u a h;have n:Ao (chkE b (by_ u a))=.iface 30 (I6 (chkE b (by_ u a))):=by unfold Ao;rw[if_neg y]
 have F:Hid (∀h,Bw w h->Cg 68 #[d,I6 (by_ u a)] h (Rt h (.iface 30 (I6 (chkE b (by_ u a)))))):=λh v=>by
  have:=L3 d b (by_ u a) h (Go.Proofs.Utf8Tabs_below s v) (Ec B v (Ai _)) k (by omega) (by omega);rw[n]at this;exact this
 rw[n];obtain⟨p,c,rfl,_⟩:=B;generalize chkE b (by_ u a)=E at *;generalize by_ u a=Bu at *;unfold D5 at A;clear s k y n D z o t x;generalize hS:Fs a=S at *;clear hS
 go_enter func42,ntmps42
 go_wp2_with (first
  | (go_at_call 62;refine AC G.out ?_;rintro e C ⟨rfl,g⟩;have l:Hid (Bw w (C.alloc (Oc #[I6 (C1 a),I6 (C2 a),I6 (C3 a),I6 (C4 a)] 118))):=g.alloc g.size _;clear g)
  | (go_at_call 69;refine(A.out _).mono ?_;rintro e H ⟨rfl,i⟩;have f:=Aa (l.out.trans (i.mono l.out.size));clear i)
  | (go_at_call 68;refine(F.out _ f.out).mono ?_;rintro e I ⟨rfl,j⟩;have m:=Aa (f.out.trans (j.mono f.out.size));clear j))
 go_ret2
 exact⟨rfl,m.out⟩
theorem da(b:List Nat)(hr:∀r∈b,Df r)(hz:C1 b<=1000000)(u:Int)(a:List Pt)(J:Value)(w:World)(hu:Ck u)(hT:Lib.Utf8Tabs 1 2 w)(ho:Ae w J a)(hwf:∀q∈a,Cp q)(hpl:∀q∈a,q.put.length<=1000000)(hl:a.length<=1000)(hc:chkE a (by_ u b)=0) :
    Cg 42 #[J,I6 u,.string (Fs b)] w λe w'=>∃v',e=.returned (.tuple #[v',Ao (if F4 u b a then 0 else 10)])/\opN w.heap.size w' v' (if F4 u b a then GW u 1 b a else [])/\Bw w w':=by
 have hby:=TB b hz u;have hup:=Jj u b;obtain⟨hp1,hp2,hp3⟩:=OC hc;have cC:Hid _:=Wp b hr (by omega) w hT;have cI:=Aa λA=>PW u b A;have cK:Hid (∀A,Bw w A->Cg 68 #[J,I6 (by_ u b)] A (Rt A .nilIface)):=λA hb=>by
  have:=L3 J a (by_ u b) A (Go.Proofs.Utf8Tabs_below hT hb) (Ec ho hb (Ai _)) hwf (by omega) (by omega);rw[hc]at this;exact this
 have HOP:=Aa ho;have HT:=Aa hT;have HP1:=Aa hp1;have HP3:=Aa hp3;have HPL:=Aa hpl;have HU:=Aa hu;have H0:Hid (SS w u b a 0 b [] (.slice none 0 0) w):=⟨AV _,rfl,BL _ _ _ _,rfl,rfl,hp2,hr,hz,A9 _ _⟩;obtain⟨p,c,rfl,r1,r2,r3⟩:=ho;obtain⟨n,hn⟩:∃n,a.length=n:=⟨_,rfl⟩;have HN:=Aa hn;rw[hn]at r1 hl cK ⊢;obtain⟨i0,hi,hz0,hz1,hz2⟩:=info_parts Ho;have HI:=Aa hi;have HZ0:=Aa hz0;have HZ1:=Aa hz1;have HZ2:=Aa hz2;generalize by_ u b=Bu at *;unfold D5 at cI;obtain⟨EV,hEV⟩:∃EV,Ao (if F4 u b a then 0 else 10)=EV:=⟨_,rfl⟩;obtain⟨OP,Y⟩:∃OP,(if F4 u b a then GW u 1 b a else [])=OP:=⟨_,rfl⟩;have HEV:=Aa hEV.symm;have O:=Aa Y.symm;rw[hEV,Y];clear hEV Y;obtain⟨S,hS⟩:∃S,Fs b=S:=⟨_,rfl⟩;have HS:=Aa hS.symm;rw[hS]at cC ⊢;clear hT hwf hpl hp1 hp2 hp3 hc hn r3 hS hu hz hby hup hr hi hz0 hz1 hz2;unfold maxLen at r2
 go_enter func42,ntmps42
 go_wp2_with (first
  | (go_at_call 62;refine AC cC.out ?_;rintro e w1 ⟨rfl,hb1⟩;have HB1:Hid (Bw w (w1.alloc (Oc #[I6 (C1 b),I6 (C2 b),I6 (C3 b),I6 (C4 b)] 118))):=hb1.alloc hb1.size _;clear hb1)
  | (go_at_call 69;refine(cI.out _).mono ?_;rintro e w3 ⟨rfl,hb3⟩;have H:=Aa (HB1.out.trans (hb3.mono HB1.out.size));clear hb3)
  | (go_at_call 68;refine(cK.out _ H.out).mono ?_;rintro e w4 ⟨rfl,hb4⟩;have HB4:=Aa (H.out.trans (hb4.mono H.out.size));clear hb4))
 have H4:Hid (SS w u b a 0 b [] (.slice none 0 0) w4):=⟨AV _,rfl,BL _ _ _ _,rfl,rfl,H0.out.long,H0.out.rune,H0.out.few,HB4.out⟩;have hni:(n:Int)<=1000:=by omega
 clear cC cI cK H0 HB1 H
 go_loopw [2,11,34] (λv2 v11 i wr=>∃(k:Nat) (R:List Nat) (L:List Pt),i=.int .i64 k/\v2=.string (Fs R)/\SS w u b a k R L v11 wr) (λ_ _ i _=>n - (intOf i).toNat)
 case atStart=>exact⟨0,b,[],rfl,by rw[HS.out],H4.out⟩
 case round =>
  obtain⟨k,R,L,rfl,rfl,h⟩:=hrel;have HI1:=Aa h;have hk:k<=n:=by have:=HN.out;have:=h.le;omega
  have s:=h.own;obtain⟨pv,cv,rfl⟩:=Bm s;clear H4 HS
  by_cases hlt:k<n
  . have F:k<a.length:=by rw[HN.out];exact hlt
    have hne:a≠[]:=by intro e;rw[e]at F;exact absurd F (AP _)
    obtain⟨p0,c0,hvv,_,_,l⟩:=HOP.out;obtain⟨b0,o,rfl,hb0,l⟩:=l hne;obtain⟨f0,f1,f2⟩:=l k a[k] (B7 F);have g0:=(zC h.low b0 (o+k*3) hb0).trans f0;have g1:=(zC h.low b0 (o+k*3+1) hb0).trans f1;have g2:=(zC h.low b0 (o+k*3+2) hb0).trans f2;obtain rfl:p=some (Ad b0 o):=by injection hvv
    have hqm:a[k]∈a:=BE _;have hsnd:=(KC (HP1.out _ hqm).1).1;have B:=HPL.out _ hqm;have N:a.drop k=a[k] :: a.drop (k+1):=BK F;have E:=h.long;rw[N]at E;have hl2:Ak (a[k] :: a.drop (k+1))=Ab a[k]+Ak (a.drop (k+1)):=Im _ _;have hrest:=Ob λq hq=>HP3.out q (DJ (i:=k+1) hq);have f:=h.ok;have d:=h.out;rw[N,bD]at f;rw[N,dc]at d;have t:Ab a[k]<=by_ u R:=by omega
    have G:=λ(A:World) (hb:Bw w A)=>cY R h.rune (by have:=h.few;omega) u (Ab a[k]) HU.out t A (Go.Proofs.Utf8Tabs_below HT.out hb);have HLR:Hid (Ak (a.drop (k+1))=by_ u R - Ab a[k]):=by show _=_;omega
    have hbs:=TB R h.few u;have P:=Aa t;clear l hvv f0 f1 f2 hne hqm hl2 hrest E N;generalize a[k]=q at *;obtain⟨K,D,U⟩:=q;obtain⟨s1,s2⟩:=hsnd;have s1:0<=K:=s1;have s2:0<=D:=s2;have hld:Ab ⟨K,D,U⟩=K+D:=rfl;rw[hld]at G f d HLR P t;have hw0:IntKind.i64.wrap (K+D)=K+D:=by rw[BG];omega
    have hj:(k:Int)<(n:Int):=by omega
    obtain⟨β,hβ⟩:∃β,wr.heap.size=β:=⟨_,rfl⟩;have HBT:=Aa hβ;have W:=Aa s;have g:=Aa h.low;have HLL:=Aa h.len;have HRN:=Aa h.rune;have HFW:=Aa h.few;clear h s HI1
    by_cases m:Eh R u (K+D)=true
    . obtain ⟨N1,e1,e2,e3⟩:=ip HU.out t m
      have HED:=Aa m;rw[e1]at d;rw[m,Bool.true_and]at f;rw[m,e1]at G;obtain⟨X,hX⟩:∃X,Fs R=X:=⟨_,rfl⟩;obtain⟨X2,Z⟩:∃X2,Fs (Ej u R (K+D))=X2:=⟨_,rfl⟩;rw[hX,Z]at e3;rw[hX]at e2 G ⊢;have HX2:=Aa Z;have HE3:=Aa e3;have hni1:(N1:Int)<=(X.size:Int):=by omega
      have hxs:(X.size:Int)<=1000000:=by rw[←hX,Sv];have:=HFW.out;rw[Ie]at this;exact this
      have HCH:=Aa G;have CS:=Aa λA=>eD ⟨K,D,U⟩ N1 A B;generalize hQ:Gi (N1:Int) ⟨K,D,U⟩=Q1 at *;have x:Hid (F4 u b a=F4 u (Ej u R (K+D)) (a.drop (k+1))):=f;have C:Hid (GW u 1 b a=(L++[Q1])++GW u 1 (Ej u R (K+D)) (a.drop (k+1))):=by show _=_;rw[d];simp
      obtain⟨QK,QD,QU⟩:=Q1;unfold SP at CS;simp only at CS;have HLE2:=Aa t;clear m e1 e3 hX Z G f d B hQ t hbs P
      go_wp2_with (first
       | (go_at_call 70;refine(HCH.out _ (g.out.alloc g.out.size _)).mono ?_;rintro e w5 ⟨rfl,v⟩;have z:w5.heap[β]?=some (Oc #[I6 K,I6 D,Sx U] 87):=(v.block β (by rw[Bb,HBT.out];omega)).trans (by have:=heap_alloc_new wr (Oc #[I6 K,I6 D,Sx U] 87);rwa[HBT.out]at this);have y0:=cQ z 0 rfl;have y1:=cQ z 1 rfl;have y2:=cQ z 2 rfl;have I:Hid (Bw w w5):=(g.out.alloc g.out.size _).trans (v.mono (by rw[Bb];have:=g.out.size;omega));have HO5:Hid (w5.ownsRow w.heap.size 87 3 (.slice pv k cv) k (Cw L)):=Fe (W.out.alloc _) v;clear v z)
       | (go_at_call 71;refine(CS.out _).mono ?_;rintro e w6 ⟨rfl,hb6⟩;have Q:Hid (Bw w w6):=I.out.trans (hb6.mono I.out.size);have HO6:=Aa (Fe HO5.out hb6);have hs6:w.heap.size<=w6.heap.size:=Q.out.size;clear hb6)
       | (at_builtin;refine wpList_append_own _ rfl _ _ 37 rfl w.heap.size 87 i0 (.agg #[I6 0,I6 0,.string ⟨#[]⟩]) 3 32 underlying37 HI.out HZ0.out HZ1.out HZ2.out rfl (by decide) _ _ _ rfl (HO6.out.alloc _) (Ad w6.heap.size 0) 1 1 (Ed ⟨QK,QD,QU⟩) rfl rfl (Sc _ _ (by first | rfl | simp) _ _) (Gx _) (by unfold maxLen;omega) (by omega) (by first | omega | (simp;omega)) ?_))
      intro v' w' y hg' _;obtain⟨p',c',rfl⟩:=Bm y;have HB9:Hid (Bw w w'):=(Q.out.alloc Q.out.size _).grown hg' (by simp;omega) λj hj=>(HO6.out.lt j hj).1;have HO9:=Aa y;have HLT:=Aa hlt;clear y hg';go_wp2
      go_roundw
      case rel =>
       obtain⟨q1,q2⟩:=N9 HU.out HLE2.out HED.out;have q3:by_ u R=by_ u (A8 R u (K+D))+by_ u (Ej u R (K+D)):=by rw[←IB];exact congrArg _ q1
       refine⟨k+1,Ej u R (K+D),L++[⟨QK,QD,QU⟩],by go_num,by rw[HE3.out,HX2.out],⟨by have:=HN.out;have:=HLT.out;omega,by rw[AA,HLL.out];rfl,?_,x.out,C.out,?_,Uc HRN.out,GN KX HFW.out,HB9.out⟩⟩
       . rw[JQ];exact HO9.out
       . have:=HLR.out;omega
      case measure=>have:=HLT.out;simp[intOf];omega
    . have m:Eh R u (K+D)=false:=Bool.eq_false_iff.2 m
      rw[m]at G f;rw[Bool.false_and]at f;have x:Hid (F4 u b a=false):=f;obtain⟨M1,hM1⟩:∃M1,by_ 1 (A8 R u (K+D))=M1:=⟨_,rfl⟩;rw[hM1]at G;have HCH:=Aa G;clear m hM1 G f d B t hbs P;generalize Fs R=X at *
      go_wp2_with (go_at_call 70;refine(HCH.out _ (g.out.alloc g.out.size _)).mono ?_;rintro e w5 ⟨rfl,v⟩;have I:Hid (Bw w w5):=(g.out.alloc g.out.size _).trans (v.mono (by rw[Bb];have:=g.out.size;omega));clear v)
      go_ret2
      refine⟨.slice none 0 0,?_,?_,I.out⟩
      . rw[HEV.out,x.out];rfl
      . rw[O.out,x.out];exact Ik _ _
  . obtain rfl:k=n:=by omega
    have e:a.drop k=[]:=DH (by rw[HN.out];exact Ai _);have f:=h.ok;have d:=h.out;rw[e]at f d;have x:Hid (F4 u b a=true):=f;have C:Hid (GW u 1 b a=L):=d.trans (by simp[GW]);have W:=Aa s;have g:=Aa h.low;have HLL:=Aa h.len;have hj:¬((k:Int)<(k:Int)):=by omega
    clear h HI1 e f d s;generalize Fs R=X at *;go_wp2
    go_ret2
    refine⟨.slice pv k cv,?_,?_,g.out⟩
    . rw[HEV.out,x.out];rfl
    . rw[O.out,x.out,if_pos rfl,C.out]
      have:=W.out;rw[←HLL.out]at this ⊢;exact J6 (Ai _) this
theorem jw(c:List Nat)(l:∀r∈c,Df r)(j:C1 c<=1000000)(u:Int)(a:List Pt)(b:Value)(w:World)(g:Ck u)(k:Lib.Utf8Tabs 1 2 w)(n:Ae w b a)(f:∀q∈a,Cp q)(i:∀q∈a,q.put.length<=1000000)(m:a.length<=1000) :
    Cg 42 #[b,I6 u,.string (Fs c)] w λe w'=>∃o,e=.returned (.tuple #[o,Ao (tzE c u 1 a)])/\opN w.heap.size w' o (KL c u 1 a)/\Bw w w':=by
 have v:(uB u && uB 1)=true:=by rw[(My u).2 g,(My 1).2 (.inl rfl)];rfl
 unfold tzE KL;rw[v,if_pos rfl,if_pos rfl]
 by_cases d:chkE a (by_ u c)=0
 . rw[if_pos d,if_pos d]
   obtain⟨_,x,p⟩:=OC d;obtain⟨s,t⟩:=Wf g 1 a c p (Int.le_of_eq x);rw[s,t];exact da c l j u a b w g k n f i m d
 . rw[if_neg d,if_neg d]
   exact(Lj c l j u a b w g k n f m d).mono λe w' h=>⟨_,h.1,Ik _ _,h.2⟩
end
section
attribute [local go_sem] Oper.semAt_some Dz Dl
variable {lo b : Nat}{w : World}{who u : Int}{S : Cl}
theorem kf(h:Bf lo w b who u S)(i:Int)(t:0<=S.drops/\S.drops<=1000000) :
    Cg 92 #[Pd b 0,I6 i] w λe w'=>e=.returned (.tuple #[])/\Bf lo w' b who u (Fh S i)/\keptC w w' b:=by
 have f:=IA h;have C:=Aa h;have o:Hid _:=Ml h
 by_cases g:S.mine=[]
 . have e:decide (0<S.mine.length)=false:=by rw[g];rfl
   rw[e]at o;have m:Hid (Fh S i=S):=if_neg λh=>h.1 g;clear h g e t
   go_enter func92,ntmps92
   go_wp2_with (go_at_call 30;refine AC o.out ?_;rintro e z ⟨rfl,a⟩;have d:=Aa a;clear a)
   (try simp only[Exit.inBlock,Exit.then]);refine bodyPost_ret (results_none rfl _ _ _) rfl ?_
   rw[m.out];exact⟨rfl,IP C.out d.out,Kx d.out f⟩
 . have e:decide (0<S.mine.length)=true:=decide_eq_true (List.length_pos_iff.2 g)
   rw[e]at o;obtain⟨j,P,x,v⟩:=h;obtain⟨p,c,rfl⟩:=MQ v;have y:=Aa x;have A:=Aa j
   by_cases r:i=S.id
   . have m:Hid (Fh S i = { S with mine:=[],doc:=S.seen,drops:=S.drops+1 }):=if_pos ⟨g,r⟩
     have B:wrap64 (S.drops+1)=S.drops+1:=E0 (by omega) (by omega);obtain⟨K,d1⟩:=t;subst r;clear x v g e j;generalize S.mine.length=n at *
     go_enter func92,ntmps92
     go_wp2_with (go_at_call 30;refine AC o.out ?_;rintro e z ⟨rfl,a⟩;have d:=Aa a;have l:=(a.block b f).trans y.out;have s:=Aa l;obtain⟨_,_,_,R,J,Q,D,N,q⟩:=Ds l;have O:=q 4;have L:=q 5;have U:=q 7;clear a l q)
     go_end0;rw[m.out];refine⟨rfl,?_⟩;have F:=heap_setCell_same z b 4 _ _ (.slice none 0 0) s.out;have G:=heap_setCell_same _ b 5 _ _ (Sx S.seen) F;have E:=heap_setCell_same _ b 7 _ _ (I6 (S.drops+1)) G;refine Kr A.out y.out E (Zd _ _) ?_ λk I=>by cases I
     exact(Cf d.out _).trans (((B6 (S:=λk=>k=b\/(Value.slice p n c).ownBlock=some k) (.inl rfl)).trans (B6 (S:=λk=>k=b\/(Value.slice p n c).ownBlock=some k) (.inl rfl))).trans (B6 (S:=λk=>k=b\/(Value.slice p n c).ownBlock=some k) (.inl rfl)))
   . have m:Hid (Fh S i=S):=if_neg λh=>r h.2
     have H:¬i=S.id:=r;clear x v g e t j
     go_enter func92,ntmps92
     go_wp2_with (go_at_call 30;refine AC o.out ?_;rintro e z ⟨rfl,a⟩;have d:=Aa a;have D:=(Ds ((a.block b f).trans y.out)).2.2.2.2.2.2.1;clear a)
     (try simp only[Exit.inBlock,Exit.then]);refine bodyPost_ret (results_none rfl _ _ _) rfl ?_
     rw[m.out];exact⟨rfl,IP C.out d.out,Kx d.out f⟩
theorem iU(h:Bf lo w b who u S)(v:Value)(o:List Pt)(d:Ar lo w v o)(j:Lib.Utf8Tabs 1 2 w)(a:S.mine.length<=2)(c:0<=S.id/\S.id<=1000000)
    (k:∀m1 m2,S.mine=[m1,m2]->∃t,good m2 t/\good o (Aj m2 t)/\t.length+Al m2<1000000/\(Aj m2 t).length+Al o<1000000) :
    Cg 45 #[Pd b 0,v] w λe w'=>e=.returned (.tuple #[])/\Bf lo w' b who u { S with mine:=Dx o S.mine,id:=if S.mine=[] then S.id+1 else S.id }/\keptC w w' b:=by
 rcases hm:S.mine with _|⟨m1,_|⟨m2,_|⟨m3,m⟩⟩⟩
 . rw[if_pos rfl]
   exact bn h hm v o d c
 . rw[if_neg (by simp)]
   have:=bo h (by rw[hm];rfl) v o d;rw[hm]at this;exact this
 . rw[if_neg (by simp)]
   obtain⟨t,i,l,g,f⟩:=k m1 m2 hm;exact bp h hm v o d j i l g f
 . rw[hm]at a;simp at a
end
section
attribute [local go_sem] Oper.semAt_some Dz Dl
variable {lo b : Nat}{w : World}{who u : Int}{S : Cl}
theorem iT(h:Bf lo w b who u S)(j:Ck u)(v:Value)(q:List Pt)(n:Ae w v q)(z:q.length<=100)(k:60<q.length\/q.any Hc=true) :
    Cg 11 #[Pd b 0,v] w (Rt w (Ao 4)):=by
 have t:(u==0)=false:=by rcases j with rfl|rfl|rfl<;>rfl
 have o:Hid _:=NR h;have i:=Aa λm (r:Bw w m)=>XD v q m (Ec n r (Ai _)) (by omega);rw[show Ao 4=.iface 30 (I6 4) from rfl];obtain⟨p,c,rfl,_⟩:=n
 by_cases y:60<q.length
 . have l:(60:Int)<(q.length:Int):=by omega
   clear h j k i
   go_enter func11,ntmps11
   go_wp2_with (first
    | (go_at_call 39;refine AC o.out ?_;rintro e s ⟨rfl,d⟩;have a:=Aa d;clear d)
    | (go_at_call 41;refine(i.out _ a.out).mono ?_;rintro e x ⟨rfl,f⟩;have g:=Aa (a.out.trans (f.mono a.out.size));clear f))
   go_ret;exact⟨rfl,a.out⟩
 . have l:¬(60:Int)<(q.length:Int):=by omega
   have ha:q.any Hc=true:=k.elim (λe=>absurd e y) id;rw[ha]at i;clear h j k ha
   go_enter func11,ntmps11
   go_wp2_with (first
    | (go_at_call 39;refine AC o.out ?_;rintro e s ⟨rfl,d⟩;have a:=Aa d;clear d)
    | (go_at_call 41;refine(i.out _ a.out).mono ?_;rintro e x ⟨rfl,f⟩;have g:=Aa (a.out.trans (f.mono a.out.size));clear f))
   go_ret;exact⟨rfl,g.out⟩
theorem gP(h:Bf lo w b who u S)(U:okK 2000 S)(hu:Ck u)(v:Value)(q:List Pt)(hx:Ae w v q)(hwf:∀p∈q,Cp p)(hpl:∀p∈q,p.put.length<=300)(hl:q.length<=100)(hsz:S.seen.length<=100000)(hid:0<=S.id/\S.id<=1000000)(i:1<lo/\2<lo)(hT:Lib.Utf8Tabs 1 2 w) :
    Cg 11 #[Pd b 0,v] w λe w'=>e=.returned (Ao (edE u S q))/\Bf lo w' b who u (Fj u S q)/\keptC w w' b:=by
 have D:=IA h;have same:∀{n:Int},edE u S q=n->n≠0->(Cg 11 #[Pd b 0,v] w (Rt w (Ao n)))->Cg 11 #[Pd b 0,v] w λe w'=>e=.returned (Ao (edE u S q))/\Bf lo w' b who u (Fj u S q)/\keptC w w' b:=λ{n} e1 e2 hc=>by
  refine hc.mono ?_;rintro e w' ⟨rfl,hb⟩;have:Fj u S q=S:=if_neg (by rw[e1];exact e2);rw[e1,this];exact⟨rfl,IP h hb,Kx hb D⟩
 by_cases hm:60<q.length\/q.any Hc=true
 . exact same (if_pos hm) (by decide) (iT h hu v q hx hl hm)
 have hV:=U.V;have Z:encs (Ch S.doc)=S.doc:=MP (N4 hV);have hbs:Fs (Ch S.doc)=⟨S.doc.toArray⟩:=by unfold Fs;rw[Z]
 have hdl:=U.len;have hC1:C1 (Ch S.doc)<=1000000:=by rw[Ie,Z];omega
 have h6:¬60<q.length:=λe=>hm (.inl e);have ha:q.any Hc=false:=by
  cases e:q.any Hc with
  | false=>rfl
  | true=>exact absurd (.inr e) hm
 have hu0:(u==0)=false:=by rcases hu with rfl|rfl|rfl<;>rfl
 have CU:Hid _:=NR h;have CF:Hid (∀l,Bw w l->Cg 41 #[v,.func (.func 40) #[] #[]] l (Rt l (.bool false))):=λl hb=>by
  have:=XD v q l (Ec hx hb (Ai _)) (by omega);rwa[ha]at this
 have cI:Hid (∀l,Bw w l->Cg 42 #[v,I6 u,Sx S.doc] l λe w'=>∃v',e=.returned (.tuple #[v',Ao (tzE (Ch S.doc) u 1 q)])/\opN l.heap.size w' v' (edO u S q)/\Bw l w'):=λl hb=>by
  have:=jw (Ch S.doc) (λr hr=>NV hr) hC1 u q v l hu (Go.Proofs.Utf8Tabs_below hT hb) (Ec hx hb (Ai _)) hwf (λp hp=>by have:=hpl p hp;omega) (by omega);rwa[hbs]at this
 have h6':¬(60:Int)<(q.length:Int):=by omega
 by_cases ht:tzE (Ch S.doc) u 1 q=0
 case neg =>
  refine same (n:=tzE (Ch S.doc) u 1 q) (by unfold edE;rw[if_neg hm,if_pos ht]) ht ?_;have hV2:Ao (tzE (Ch S.doc) u 1 q)=.iface 30 (I6 (tzE (Ch S.doc) u 1 q)):=by unfold Ao;rw[if_neg ht]
  rw[hV2]at cI ⊢;generalize tzE (Ch S.doc) u 1 q=E at *;generalize edO u S q=O at *;have CI:=cI;obtain⟨W,vm,h3,h4⟩:=h;obtain⟨p,c,rfl⟩:=MQ h4;have Y:=Aa h3;obtain⟨p0,c0,rfl,_⟩:=hx;generalize S.mine.length=n at *;clear cI h3 h4 hm ha U hu hwf hpl hsz hid i hT same hV Z hbs hdl hC1 h6 hV2 ht W
  go_enter func11,ntmps11
  go_wp2_with (first
   | (go_at_call 39;refine AC CU.out ?_;rintro e w1 ⟨rfl,I⟩;have A:=Aa I;clear I)
   | (go_at_call 41;refine(CF.out _ A.out).mono ?_;rintro e w2 ⟨rfl,F⟩;have z:=Aa (A.out.trans (F.mono A.out.size));clear F))
  refine wz (λl:World=>l.heap[b]?=some (Oc (Gu who u S (.slice p n c)) 95)) 15 ((z.out.block b D).trans Y.out) Mn λw30 o H G i=>?_;have g:=z.out.trans (o.mono z.out.size);have y1:∀x,(G x).cell? (Ad b 1)=some (I6 u):=λx=>(Ds (i.but x)).2.1;have y5:∀x,(G x).cell? (Ad b 5)=some (Sx S.doc):=λx=>(Ds (i.but x)).2.2.2.2.2.1;(iterate 9 (refine ay i H λ_ k=>?_;go_simp;apply k;clear k));clear y1 y5;refine aO 9 ⟨_,rfl,?_⟩;intro w31 m K hK
  go_simp
  have a:=g.trans (m.mono g.size);refine(CI.out w31 a).mono ?_;rintro e w3 ⟨v',rfl,B,s⟩;obtain⟨p3,c3,rfl⟩:=IC B;have d:w3.heap[b]?=some (Oc (Gu who u S (.slice p n c)) 95):=((a.trans (s.mono a.size)).block b D).trans Y.out;refine⟨_,rfl,hK _ _ (λ_=>d) ?_⟩;clear hK K H;refine az i d 10 λ_ k=>?_;go_simp;apply k;clear k;refine az i d 11 λ_ k=>?_;go_simp;apply k;clear k;refine az i d 12 λ_ k=>?_;go_simp;apply k;clear k;refine az i d 13 λ_ k=>?_;go_simp;apply k;clear k;refine az i d 14 λ_ k=>?_;go_simp;apply k;clear k;clear i d;refine ae ?_;intro w4 y;have f:=(a.trans (s.mono a.size));have C:Hid (Bw w w4):=f.trans (y.mono f.size);have Q:Hid (Ar lo w4 (.slice p3 O.length c3) O):=Bt (Ev B) y;clear o m s y f g a B;go_wp2;go_ret;exact⟨rfl,C.out⟩
 case pos =>
 have g1:=(Rg hu U ht).1;rw[ht,show Ao 0=.nilIface from rfl]at cI;have hpu:Al (edO u S q)<=30000:=by
  obtain⟨_,_,e3,e4⟩:=Rg hu U ht;obtain⟨hp1,_,_⟩:=OC e3;rw[e4,To q _ λp hp=>(hp1 p hp).1];have:=T5 q hpl;omega
 have L:S.doc.length+Al (edO u S q)<1000000:=by omega
 have J:=(g1.lens L).2;have hfl:=(g1.fine L).len;have CLn:Hid (∀vv l,Ae l vv (edO u S q)->Cg 43 #[vv] l (Rt l (.tuple #[I6 (Be (edO u S q)).1,I6 ((Aj (edO u S q) S.doc).length:Int)]))):=λvv l ho=>by
  have:=Jr vv (edO u S q) l ho hfl;rwa[J]at this
 have CAp:=Aa λvv l (hb:Bw w l) (ho:Ae l vv (edO u S q))=>Nn vv _ S.doc l (Go.Proofs.Utf8Tabs_below hT hb) ho g1 L
 by_cases hfu:2000<(Aj (edO u S q) S.doc).length
 . refine same (n:=12) (by unfold edE;rw[if_neg hm,if_neg (by simpa using ht),if_pos hfu]) (by decide) ?_
   rw[show Ao 12=.iface 30 (I6 12) from rfl];have hfi:(2000:Int)<((Aj (edO u S q) S.doc).length:Int):=by omega
   generalize (Be (edO u S q)).1=L1 at *;generalize (Aj (edO u S q) S.doc).length=L2 at *;generalize hOO:edO u S q=O at *;have CI:=cI;obtain⟨W,vm,h3,h4⟩:=h;obtain⟨p,c,rfl⟩:=MQ h4;have Y:=Aa h3;obtain⟨p0,c0,rfl,_⟩:=hx;generalize S.mine.length=n at *;clear cI h3 h4 hm ha U hu hwf hpl hsz hid i hT same hV Z hbs hdl hC1 h6 ht W g1 hpu L J hfl hfu CAp hOO
   go_enter func11,ntmps11
   go_wp2_with (first
    | (go_at_call 39;refine AC CU.out ?_;rintro e w1 ⟨rfl,I⟩;have A:=Aa I;clear I)
    | (go_at_call 41;refine(CF.out _ A.out).mono ?_;rintro e w2 ⟨rfl,F⟩;have z:=Aa (A.out.trans (F.mono A.out.size));clear F))
   refine wz (λl:World=>l.heap[b]?=some (Oc (Gu who u S (.slice p n c)) 95)) 15 ((z.out.block b D).trans Y.out) Mn λw30 o H G i=>?_;have g:=z.out.trans (o.mono z.out.size);have y1:∀x,(G x).cell? (Ad b 1)=some (I6 u):=λx=>(Ds (i.but x)).2.1;have y5:∀x,(G x).cell? (Ad b 5)=some (Sx S.doc):=λx=>(Ds (i.but x)).2.2.2.2.2.1;(iterate 9 (refine ay i H λ_ k=>?_;go_simp;apply k;clear k));clear y1 y5;refine aO 9 ⟨_,rfl,?_⟩;intro w31 m K hK
   go_simp
   have a:=g.trans (m.mono g.size);refine(CI.out w31 a).mono ?_;rintro e w3 ⟨v',rfl,B,s⟩;obtain⟨p3,c3,rfl⟩:=IC B;have d:w3.heap[b]?=some (Oc (Gu who u S (.slice p n c)) 95):=((a.trans (s.mono a.size)).block b D).trans Y.out;refine⟨_,rfl,hK _ _ (λ_=>d) ?_⟩;clear hK K H;refine az i d 10 λ_ k=>?_;go_simp;apply k;clear k;refine az i d 11 λ_ k=>?_;go_simp;apply k;clear k;refine az i d 12 λ_ k=>?_;go_simp;apply k;clear k;refine az i d 13 λ_ k=>?_;go_simp;apply k;clear k;refine az i d 14 λ_ k=>?_;go_simp;apply k;clear k;clear i d;refine ae ?_;intro w4 y;have f:=(a.trans (s.mono a.size));have C:Hid (Bw w w4):=f.trans (y.mono f.size);have Q:Hid (Ar lo w4 (.slice p3 O.length c3) O):=Bt (Ev B) y;clear o m s y f g a B
   go_wp2_with (go_at_call 43;refine(CLn.out _ _ Q.out.1).mono ?_;rintro e w5 ⟨rfl,P⟩;have R:=Aa (C.out.trans (P.mono C.out.size));clear P)
   go_ret;exact⟨rfl,R.out⟩
 . have he0:edE u S q=0:=by unfold edE;rw[if_neg hm,if_neg (by simpa using ht),if_neg hfu]
   have HES:Hid (Fj u S q = { S with doc:=Aj (edO u S q) S.doc,mine:=Dx (edO u S q) S.mine,id:=if S.mine=[] then S.id+1 else S.id }):=if_pos he0;have hfi:¬(2000:Int)<((Aj (edO u S q) S.doc).length:Int):=by omega
   have HQ:Hid (∀m1 m2,S.mine=[m1,m2]->∃t,good m2 t/\good (edO u S q) (Aj m2 t)/\t.length+Al m2<1000000/\(Aj m2 t).length+Al (edO u S q)<1000000):=λm1 m2 e=>by
    have hal:=U.all;have hpt:=U.puts;have hdc:=U.doc;rw[e]at hal hpt hdc;have g1':=g1;rw[hdc]at g1';have l1:=Qk hal.1;have p1:=hpt m1 (by simp);have p2:=hpt m2 (by simp);have e2:Eo [m1,m2] S.seen=Aj m2 (Aj m1 S.seen):=rfl;rw[e2]at g1';refine⟨Aj m1 S.seen,hal.2.1,g1',by omega,?_⟩;rw[hdc,e2]at L;exact L
   have HTW:=Aa U.two;have HID:=Aa hid;have HT:=Aa hT;have HGG:=Aa i;rw[he0];generalize (Be (edO u S q)).1=L1 at *;generalize hTX:Aj (edO u S q) S.doc=TX at *;generalize hOO:edO u S q=O at *;have CI:=cI;obtain⟨W,vm,h3,h4⟩:=h;have HLO:=Aa W;obtain⟨p,c,rfl⟩:=MQ h4;obtain⟨n,hn⟩:∃n,S.mine.length=n:=⟨_,rfl⟩;rw[hn]at h3 h4;have Y:=Aa h3;have H4:=Aa h4;obtain⟨p0,c0,rfl,_⟩:=hx;have hne5:∀k,(Value.slice p n c).ownBlock=some k->k≠b:=λk U e=>by
    obtain⟨_,_,cs,hc⟩:=Jc H4.out U;subst e;have:=Cx Y.out hc;revert this;decide
   have HNE:=Aa hne5;clear cI h3 h4 hm ha U hu hwf hpl hsz hid i hT same hV Z hbs hdl hC1 h6 ht W g1 hpu L J hfl hfu hOO hTX he0 hn hne5
   go_enter func11,ntmps11
   go_wp2_with (first
    | (go_at_call 39;refine AC CU.out ?_;rintro e w1 ⟨rfl,I⟩;have A:=Aa I;clear I)
    | (go_at_call 41;refine(CF.out _ A.out).mono ?_;rintro e w2 ⟨rfl,F⟩;have z:=Aa (A.out.trans (F.mono A.out.size));clear F))
   refine wz (λl:World=>l.heap[b]?=some (Oc (Gu who u S (.slice p n c)) 95)) 15 ((z.out.block b D).trans Y.out) Mn λw30 o H G i=>?_;have g:=z.out.trans (o.mono z.out.size);have y1:∀x,(G x).cell? (Ad b 1)=some (I6 u):=λx=>(Ds (i.but x)).2.1;have y5:∀x,(G x).cell? (Ad b 5)=some (Sx S.doc):=λx=>(Ds (i.but x)).2.2.2.2.2.1;(iterate 9 (refine ay i H λ_ k=>?_;go_simp;apply k;clear k));clear y1 y5;refine aO 9 ⟨_,rfl,?_⟩;intro w31 m K hK
   go_simp
   have a:=g.trans (m.mono g.size);refine(CI.out w31 a).mono ?_;rintro e w3 ⟨v',rfl,B,s⟩;obtain⟨p3,c3,rfl⟩:=IC B;have d:w3.heap[b]?=some (Oc (Gu who u S (.slice p n c)) 95):=((a.trans (s.mono a.size)).block b D).trans Y.out;refine⟨_,rfl,hK _ _ (λ_=>d) ?_⟩;clear hK K H;refine az i d 10 λ_ k=>?_;go_simp;apply k;clear k;refine az i d 11 λ_ k=>?_;go_simp;apply k;clear k;refine az i d 12 λ_ k=>?_;go_simp;apply k;clear k;refine az i d 13 λ_ k=>?_;go_simp;apply k;clear k;refine az i d 14 λ_ k=>?_;go_simp;apply k;clear k;clear i d;refine ae ?_;intro w4 y;have f:=(a.trans (s.mono a.size));have C:Hid (Bw w w4):=f.trans (y.mono f.size);have Q:Hid (Ar lo w4 (.slice p3 O.length c3) O):=Bt (Ev B) y;clear o m s y f g a B;have h4k:=(C.out.block b D).trans Y.out;have HBK4:=Aa h4k;have hl4:b<w4.heap.size:=(As h4k);have t5:=(Ds h4k).2.2.2.2.2.1;clear h4k
   go_wp2_with (first
    | (go_at_call 43;refine(CLn.out _ _ Q.out.1).mono ?_;rintro e w5 ⟨rfl,P⟩;have R:=Aa P;have t5':=(zC P b 5 hl4).trans t5;clear P)
    | (go_at_call 44;refine(CAp.out _ _ (C.out.trans (R.out.mono C.out.size)) (Bt Q.out R.out).1).mono ?_;rintro e w6 ⟨rfl,hb6⟩;have X:=R.out.trans (hb6.mono R.out.size);have HB6:=Aa X;have hk6:=(X.block b hl4).trans HBK4.out;have HBK6:=Aa hk6;have t6:=(Ds hk6).2.2.2.2.2.1;have f6:=fZ hk6 5;clear hb6 X hk6)
    | (go_at_call 9999))
   have N:=C.out.trans (HB6.out.mono C.out.size);have b1:=heap_setCell_same w6 b 5 _ _ (Sx TX) HBK6.out;have hs1:sameBut w6 (w6.setCell (Ad b 5) (Sx TX)) (λk=>k=b):=B6 (S:=λk=>k=b) rfl;obtain⟨hc1,hk1⟩:=Kr (S':={ S with doc:=TX }) HLO.out Y.out b1 (NS (Mc H4.out N) hs1 (λj _ hj=>by obtain rfl:=hj;exact⟨HLO.out,C6 HBK6.out (by decide)⟩) λj hj e=>HNE.out j hj e) (((Cf N _).comp hs1 λj _ e=>.inl e)) λj hj=>.inl hj;have hT6:Lib.Utf8Tabs 1 2 (w6.setCell (Ad b 5) (Sx TX)):=Sq (Go.Proofs.Utf8Tabs_below HT.out N) hs1 (λe=>by have:=HLO.out;have:=HGG.out.1;omega) (λe=>by have:=HLO.out;have:=HGG.out.2;omega);have hx6:Ar lo (w6.setCell (Ad b 5) (Sx TX)) (.slice p3 O.length c3) O:=Eu (Bt Q.out HB6.out) hs1 λj _ hj=>by obtain rfl:=hj;exact⟨HLO.out,C6 HBK6.out (by decide)⟩
   refine(iU hc1 _ O hx6 hT6 HTW.out HID.out HQ.out).mono ?_;rintro e w7 ⟨rfl,hc7,hk7⟩;have HFIN:Hid (Bf lo w7 b who u (Fj u S q)/\keptC w w7 b):=by
    show _/\_;rw[HES.out];exact⟨hc7,hk1.trans hk7⟩
   clear hc7 hk7 hc1 hk1 hs1 b1 hT6 hx6 N;go_wp2;go_ret;exact⟨rfl,HFIN.out⟩
end
section
attribute [local go_sem] Oper.semAt_some Dz Dl
variable {lo b β : Nat}{who u c i : Int}{S : Cl}{VM v vm : Value}{x : List Pt}{w : World}
structure ZT (lo b β:Nat) (who u c i:Int) (S:Cl) (VM v:Value) (x:List Pt) (wx:World):Prop where
 low:lo<=b
 blk:wx.heap[b]?=some (Oc (Gu who u S VM) 95)
 mine:Hr lo wx VM S.mine
 box:wx.heap[β]?=some (Oc #[I6 c,I6 i,v] 109)
 tabs:Lib.Utf8Tabs 1 2 wx
 op:Ar lo wx v x
theorem ZT.grow{w':World}(h:ZT lo b β who u c i S VM v x w)(a:Bw w w'):ZT lo b β who u c i S VM v x w' :=
 ⟨h.low,(a.block b (As h.blk)).trans h.blk,Mc h.mine a,(a.block β (As h.box)).trans h.box,Go.Proofs.Utf8Tabs_below h.tabs a,Bt h.op a⟩
theorem ZT.cl(h:ZT lo b β who u c i S VM v x w):Bf lo w b who u S:=⟨h.low,VM,h.blk,h.mine⟩
theorem Qq(d:lo<=b)(e:w.heap[b]?=some (Oc (Gu who u S vm) 95))(f:Hr lo w vm S.mine)(g:Lib.Utf8Tabs 1 2 w)(h:Ar lo w v x) :
    ZT lo b w.heap.size who u c i S vm v x (w.alloc (Oc #[I6 c,I6 i,v] 109)):=by
 have a:Bw w (w.alloc (Oc #[I6 c,I6 i,v] 109)):=zA _ _;exact⟨d,(a.block b (As e)).trans e,Mc f a,heap_alloc_new _ _,Go.Proofs.Utf8Tabs_below g a,Bt h a⟩
theorem Vz(h:Bf lo w b who u S)(t:List UInt8)(r:Int) :
    Bf lo ((w.setCell (Ad b 3) (Sx t)).setCell (Ad b 2) (I6 r)) b who u { S with seen:=t,rev:=r }/\keptC w ((w.setCell (Ad b 3) (Sx t)).setCell (Ad b 2) (I6 r)) b:=by
 obtain⟨d,vm,f,g⟩:=h;have m:=heap_setCell_same w b 3 _ _ (Sx t) f;have l:=heap_setCell_same _ b 2 _ _ (I6 r) m;have j:sameBut w ((w.setCell (Ad b 3) (Sx t)).setCell (Ad b 2) (I6 r)) (λk=>k=b):=(B6 (S:=λk=>k=b) rfl).trans (B6 (S:=λk=>k=b) rfl);refine Kr d f l (NS g j (λk _ a=>by obtain rfl:=a;exact⟨d,C6 f (by decide)⟩) λk a e=>?_) (j.mono λk _ e=>.inl e) λk a=>.inl a;obtain⟨_,_,o,n⟩:=Jc g a;subst e;have:=Cx f n;revert this;decide
theorem gQ(h:Bf lo w b who u S)(f:S.mine≠[])(a:S.mine.length<=2)(d:0<=S.id/\S.id<=1000000) :
    Cg 124 #[Pd b 0] w λe w'=>e=.returned (.tuple #[])/\Bf lo w' b who u { S with mine:=S.mine.tail,id:=if S.mine.tail≠[] then S.id+1 else S.id }/\keptC w w' b:=by
 rcases hm':S.mine with _|⟨m1,_|⟨m2,_|⟨m3,g⟩⟩⟩
 . exact absurd hm' f
 . have:=LB h hm'
   rw[List.tail_cons,if_neg (by simp)];exact this
 . rw[List.tail_cons,if_pos (by simp)]
   exact LA h hm' d
 . rw[hm']at a;simp at a
theorem fw(h:Bf lo w b who u S)(l:Ck u)(rev c i:Int)(v:Value)(x:List Pt)(k:Ar lo w v x)(p:Lib.Utf8Tabs 1 2 w)(g:rev≠S.rev) :
    Cg 91 #[Pd b 0,I6 rev,.agg #[I6 c,I6 i,v]] w (Rt w .nilIface):=by
 have A:(u==0)=false:=by rcases l with rfl|rfl|rfl<;>rfl
 obtain⟨d,VM,q,o⟩:=h;obtain⟨t,C,rfl⟩:=C7 k;generalize hxn:x.length=xn at *;have n:Hid _:=Qq (c:=c) (i:=i) d q o p k;have y:=Aa λs (z:ZT lo b w.heap.size who u c i S VM (.slice t xn C) x s)=>NR z.cl;have r:(rev==S.rev)=false:=beq_eq_false_iff_ne.2 g;have B:¬rev=S.rev:=g;clear q o k p l d g hxn
 . skip
   go_enter func91,ntmps91
   go_wp2_with (go_at_call 39;refine(y.out _ n.out).mono ?_;rintro e m ⟨rfl,a⟩;have j:=Aa (ZT.grow n.out a);have f:Hid (Bw w m):=(zA _ _).trans (a.mono (by rw[Bb];omega));have D:m.cell? (Ad b 2)=some (I6 S.rev):=(Ds j.out.blk).2.2.1;clear a)
   go_ret;exact⟨rfl,f.out⟩
theorem fu(h:Bf lo w b who u S)(F:Ck u)(c i:Int)(v:Value)(x:List Pt)(B:Ar lo w v x)(n:∀p∈x,Cp p)(z:Al x<=400000)(Z:x.length<=1000000)(A:S.seen.length<=100000)(O:Lib.Utf8Tabs 1 2 w)(D:ordE x S.seen≠0) :
    Cg 91 #[Pd b 0,I6 S.rev,.agg #[I6 c,I6 i,v]] w (Rt w (.iface 30 (I6 15))):=by
 have Y:(u==0)=false:=by rcases F with rfl|rfl|rfl<;>rfl
 obtain⟨o,VM,P,L⟩:=h;obtain⟨r,t,rfl⟩:=C7 B;have J:Hid _:=Qq (c:=c) (i:=i) o P L O B;have U:=Aa λl (s:ZT lo b w.heap.size who u c i S VM (.slice r x.length t) x l)=>NR s.cl;have Q:=Aa λl (s:ZT lo b w.heap.size who u c i S VM (.slice r x.length t) x l)=>Ug _ x S.seen l s.tabs s.op.1 n (by omega) (by omega) (by omega);have I:Ao (ordE x S.seen)=.iface 30 (I6 (ordE x S.seen)):=by unfold Ao;rw[if_neg D]
 rw[if_neg D,I]at Q;generalize hxn:x.length=xn at *;generalize ordE x S.seen=E at *;clear P L B O F o hxn n z Z A I D
 . skip
   go_enter func91,ntmps91
   go_wp2_with (go_at_call 39;refine(U.out _ J.out).mono ?_;rintro e H ⟨rfl,f⟩;have m:=Aa (ZT.grow J.out f);have d:Hid (Bw w H):=(zA _ _).trans (f.mono (by rw[Bb];omega));have q2:H.cell? (Ad b 2)=some (I6 S.rev):=(Ds m.out.blk).2.2.1;clear f)
   refine wz (λl:World=>ZT lo b w.heap.size who u c i S VM (.slice r xn t) x l) 12 m.out ZT.grow λw5 g a G j=>?_;have R:∀y,(G y).cell? (Ad w.heap.size 2)=some (.slice r xn t):=λy=>Az (j.but y).box 2;have X:∀y,(G y).cell? (Ad b 3)=some (Sx S.seen):=λy=>(Ds (j.but y).blk).2.2.2.1;(iterate 6 (refine ay j a λ_ k=>?_;go_simp;apply k;clear k))
   (refine ay j a λK N=>?_;go_simp;apply Exists.intro;refine⟨λ_=>?_,N _ ?_⟩;exact Q.out _ (j.but _);clear N K)
   (iterate 5 (refine ay j a λ_ k=>?_;go_simp;apply k;clear k));clear R X j;refine ae ?_;intro W q;have C:Hid (Bw w W):=d.out.trans ((g.trans (q.mono g.size)).mono d.out.size);clear g q a;go_wp2;go_ret;exact⟨rfl,C.out⟩
theorem T9{a:List (List Pt)}(h:Hr lo w vm a)(p:a≠[]):∃g c f n d,vm=Sl g a.length c/\(a.length<=c/\c<=maxLen)/\g<w.heap.size/\w.cell? (Ad g 0)=some (.slice f n d)/\Ar lo w (.slice f n d) (a.headD []):=by
 obtain⟨g,c,rfl⟩:=TW h p;obtain⟨_,s,_⟩:=Jc h (k:=g) rfl;obtain⟨l,z,o,A⟩:=h;have j:a.length<=c/\c<=maxLen:=by
  rcases o.2 with ⟨e,_⟩|⟨D,r,B,e,_,_,t,C,_⟩
  . cases e
  . injection e with _ _ e;subst e;exact⟨t,C⟩
 rcases a with _|⟨m,a⟩
 . exact absurd rfl p
 rcases l with _|⟨y,l⟩
 . simp at z
 have q:=A 0 m y rfl rfl;obtain⟨f,d,rfl⟩:=C7 q;refine⟨g,c,f,m.length,d,rfl,j,s,?_,q⟩;rw[World.ownsRow.cellAt o 0 (by simp)];rfl
structure ZO (lo b β:Nat) (who u c i:Int) (S:Cl) (VM v:Value) (x:List Pt) (g:Nat) (p0:Option Addr) (k0 c0:Nat) (m0:List Pt) (wx:World):Prop where
 zt:ZT lo b β who u c i S VM v x wx
 lt:g<wx.heap.size
 cel:wx.cell? (Ad g 0)=some (.slice p0 k0 c0)
 op0:Ar lo wx (.slice p0 k0 c0) m0
theorem ZO.grow{lo b β:Nat}{who u c i:Int}{S:Cl}{VM v:Value}{x:List Pt}{g:Nat}{j:Option Addr}{d f:Nat}{e:List Pt}{w w':World}(h:ZO lo b β who u c i S VM v x g j d f e w)(a:Bw w w'):ZO lo b β who u c i S VM v x g j d f e w' :=
 ⟨h.zt.grow a,AK h.lt a.size,(zC a g 0 h.lt).trans h.cel,Bt h.op0 a⟩
theorem iV(h:Bf lo w b who u S)(hk:okK 2000 S)(hu:Ck u)(v:Value)(x:List Pt)(hx:Ar lo w v x)(hsz:S.seen.length+Al x<=500000)(hid:0<=S.id/\S.id<=1000000)(hrv:0<=S.rev/\S.rev<=1000000)(a:1<lo/\2<lo)(hT:Lib.Utf8Tabs 1 2 w)(ho:ordE x S.seen=0)(R:S.mine≠[])(hd:Aj (Eb S) S.seen≠Aj x S.seen) :
    Cg 91 #[Pd b 0,I6 S.rev,.agg #[I6 who,I6 S.id,v]] w (Rt w (.iface 30 (I6 15))):=by
 have hu0:(u==0)=false:=by rcases hu with rfl|rfl|rfl<;>rfl
 have hlt:=IA h;obtain⟨hlo,VM,h3,h4⟩:=h;obtain⟨g,B,o,r,s,rfl,⟨hcn,hcm⟩,N,Z,C⟩:=T9 h4 R;unfold maxLen at hcm;obtain⟨p,q,rfl⟩:=C7 hx;have Y:=JS hk.text ho;obtain⟨X,hp0⟩:=NM hk R;obtain⟨f,l⟩:∃f,Eb S=f:=⟨_,rfl⟩;have C:Ar lo w (.slice o r s) f:=by rw[←l];exact C
 have A:Bw w (w.alloc (Oc #[I6 who,I6 S.id,.slice p x.length q] 109)):=zA _ _;have H0:Hid _:=(⟨Qq (c:=who) (i:=S.id) hlo h3 h4 hT hx,AK N A.size,(zC A g 0 N).trans Z,Bt C A⟩:ZO lo b w.heap.size who u who S.id S (Sl g S.mine.length B) (.slice p x.length q) x g o r s f _);have CU:=Aa λd (z:ZO lo b w.heap.size who u who S.id S (Sl g S.mine.length B) (.slice p x.length q) x g o r s f d)=>NR z.zt.cl;have CA:=Aa λd (z:ZO lo b w.heap.size who u who S.id S (Sl g S.mine.length B) (.slice p x.length q) x g o r s f d)=>Nn _ x S.seen d z.zt.tabs z.zt.op.1 Y (by omega);have CM:=Aa λd (z:ZO lo b w.heap.size who u who S.id S (Sl g S.mine.length B) (.slice p x.length q) x g o r s f d)=>Nn _ f S.seen d z.zt.tabs z.op0.1 (by rw[←l];exact X) (by rw[←l];omega);have CP:Hid (∀d,ZO lo b w.heap.size who u who S.id S (Sl g S.mine.length B) (.slice p x.length q) x g o r s f d->Cg 30 #[Pd b 0] d (Rt d (.bool true))):=λd z=>by
  have:=Ml z.zt.cl;rwa[decide_eq_true (List.length_pos_iff.2 R)]at this
 have hmi:(0:Int)<(S.mine.length:Int):=by have:=List.length_pos_iff.2 R;omega
 have hmn:=List.length_pos_iff.2 R;have hrv1:wrap64 (S.rev+1)=S.rev+1:=E0 (by omega) (by omega);rw[l]at hd;generalize Aj f S.seen=tm at *;generalize Aj x S.seen=tx at *;have hd1:(tm==tx)=false:=beq_eq_false_iff_ne.2 hd;obtain⟨n,hn⟩:∃n,S.mine.length=n:=⟨_,rfl⟩;rw[hn]at hcn hmi hmn H0 CU CA CM CP;generalize hxn:x.length=xn at *;obtain⟨hr0,hr1⟩:=hrv;clear h3 h4 hx hT hu hlo hxn hsz ho Y X hp0 hk R l C Z N A hid a hn
 . skip
   go_enter func91,ntmps91
   go_wp2_with (go_at_call 39;refine(CU.out _ H0.out).mono ?_;rintro e w1 ⟨rfl,O⟩;have U:=Aa (ZO.grow H0.out O);have E:Hid (Bw w w1):=(zA _ _).trans (O.mono (by rw[Bb];omega));have q2:w1.cell? (Ad b 2)=some (I6 S.rev):=(Ds U.out.zt.blk).2.2.1;clear O)
   refine wz (λd:World=>ZO lo b w.heap.size who u who S.id S (Sl g n B) (.slice p xn q) x g o r s f d) 12 U.out ZO.grow λw5 I j G a=>?_;have e2:∀y,(G y).cell? (Ad w.heap.size 2)=some (.slice p xn q):=λy=>Az (a.but y).zt.box 2;have y3:∀y,(G y).cell? (Ad b 3)=some (Sx S.seen):=λy=>(Ds (a.but y).zt.blk).2.2.2.1;(iterate 6 (refine ay a j λ_ k=>?_;go_simp;apply k;clear k))
   (refine ay a j λK F=>?_;go_simp;apply Exists.intro;refine⟨λ_=>?_,F _ ?_⟩;exact CA.out _ (a.but _);clear F K)
   (iterate 5 (refine ay a j λ_ k=>?_;go_simp;apply k;clear k));clear e2 y3 a;refine ae ?_;intro v5 Q;have HZ5:=Aa (ZO.grow j Q);have HB5:Hid (Bw w v5):=E.out.trans ((I.trans (Q.mono I.size)).mono E.out.size);have D:=Aa HB5;clear I Q j;go_wp2;refine wz (λd:World=>ZO lo b w.heap.size who u who S.id S (Sl g n B) (.slice p xn q) x g o r s f d) 20 HZ5.out ZO.grow λw8 J m G a=>?_;have e0:∀y,(G y).cell? (Ad w.heap.size 0)=some (I6 who):=λy=>Az (a.but y).zt.box 0;have e1:∀y,(G y).cell? (Ad w.heap.size 1)=some (I6 S.id):=λy=>Az (a.but y).zt.box 1;have y0:∀y,(G y).cell? (Ad b 0)=some (I6 who):=λy=>(Ds (a.but y).zt.blk).1;have y6:∀y,(G y).cell? (Ad b 6)=some (I6 S.id):=λy=>(Ds (a.but y).zt.blk).2.2.2.2.2.2.1;refine ay a m λ_ k=>?_;go_simp;apply k;clear k
   (refine ay a m λK F=>?_;go_simp;apply Exists.intro;refine⟨λ_=>?_,F _ ?_⟩;exact CP.out _ (a.but _);clear F K)
   (iterate 18 (refine ay a m λ_ k=>?_;go_simp;apply k;clear k));clear e0 e1 y0 y6 a;refine ae ?_;intro v8 L;have HZ8:=Aa (ZO.grow m L);have HB8:Hid (Bw w v8):=D.out.trans ((J.trans (L.mono J.size)).mono D.out.size);have H:=Aa HB8;clear J L m;go_wp2;refine wz (λd:World=>ZO lo b w.heap.size who u who S.id S (Sl g n B) (.slice p xn q) x g o r s f d) 16 HZ8.out ZO.grow λw9 P t G a=>?_;have y3:∀y,(G y).cell? (Ad b 3)=some (Sx S.seen):=λy=>(Ds (a.but y).zt.blk).2.2.2.1;have y4:∀y,(G y).cell? (Ad b 4)=some (Sl g n B):=λy=>(Ds (a.but y).zt.blk).2.2.2.2.1;have yg:∀y,(G y).cell? (Ad g 0)=some (.slice o r s):=λy=>(a.but y).cel;(iterate 10 (refine ay a t λ_ k=>?_;go_simp;apply k;clear k))
   (refine ay a t λK F=>?_;go_simp;apply Exists.intro;refine⟨λ_=>?_,F _ ?_⟩;exact CM.out _ (a.but _);clear F K)
   (iterate 5 (refine ay a t λ_ k=>?_;go_simp;apply k;clear k));clear y3 y4 yg a;refine ae ?_;intro v9 W;have HB9:Hid (Bw w v9):=H.out.trans ((P.trans (W.mono P.size)).mono H.out.size);clear P W t;go_wp2;go_ret;exact⟨rfl,HB9.out⟩
theorem fv(h:Bf lo w b who u S)(hk:okK 2000 S)(hu:Ck u)(v:Value)(x:List Pt)(hx:Ar lo w v x)(hsz:S.seen.length+Al x<=500000)(hid:0<=S.id/\S.id<=1000000)(hrv:0<=S.rev/\S.rev<=1000000)(a:1<lo/\2<lo)(hT:Lib.Utf8Tabs 1 2 w)(ho:ordE x S.seen=0)(L:S.mine≠[])(hd:Aj (Eb S) S.seen=Aj x S.seen) :
    Cg 91 #[Pd b 0,I6 S.rev,.agg #[I6 who,I6 S.id,v]] w λe w'=>e=.returned .nilIface/\Bf lo w' b who u { S with seen:=Aj x S.seen,rev:=S.rev+1,mine:=S.mine.tail,id:=if S.mine.tail≠[] then S.id+1 else S.id }/\keptC w w' b:=by
 have hu0:(u==0)=false:=by rcases hu with rfl|rfl|rfl<;>rfl
 have hlt:=IA h;obtain⟨hlo,VM,h3,h4⟩:=h;obtain⟨g,C,q,t,z,rfl,⟨hcn,hcm⟩,Q,hce,D⟩:=T9 h4 L;unfold maxLen at hcm;obtain⟨r,s,rfl⟩:=C7 hx;have hgx:=JS hk.text ho;obtain⟨hg0,hp0⟩:=NM hk L;obtain⟨f,m⟩:∃f,Eb S=f:=⟨_,rfl⟩;have D:Ar lo w (.slice q t z) f:=by rw[←m];exact D
 have B:Bw w (w.alloc (Oc #[I6 who,I6 S.id,.slice r x.length s] 109)):=zA _ _;have H0:Hid _:=(⟨Qq (c:=who) (i:=S.id) hlo h3 h4 hT hx,AK Q B.size,(zC B g 0 Q).trans hce,Bt D B⟩:ZO lo b w.heap.size who u who S.id S (Sl g S.mine.length C) (.slice r x.length s) x g q t z f _);have CU:=Aa λd (A:ZO lo b w.heap.size who u who S.id S (Sl g S.mine.length C) (.slice r x.length s) x g q t z f d)=>NR A.zt.cl;have CA:=Aa λd (A:ZO lo b w.heap.size who u who S.id S (Sl g S.mine.length C) (.slice r x.length s) x g q t z f d)=>Nn _ x S.seen d A.zt.tabs A.zt.op.1 hgx (by omega);have CM:=Aa λd (A:ZO lo b w.heap.size who u who S.id S (Sl g S.mine.length C) (.slice r x.length s) x g q t z f d)=>Nn _ f S.seen d A.zt.tabs A.op0.1 (by rw[←m];exact hg0) (by rw[←m];omega);have CP:Hid (∀d,ZO lo b w.heap.size who u who S.id S (Sl g S.mine.length C) (.slice r x.length s) x g q t z f d->Cg 30 #[Pd b 0] d (Rt d (.bool true))):=λd A=>by
  have:=Ml A.zt.cl;rwa[decide_eq_true (List.length_pos_iff.2 L)]at this
 have hmi:(0:Int)<(S.mine.length:Int):=by have:=List.length_pos_iff.2 L;omega
 have hmn:=List.length_pos_iff.2 L;have HM:=Aa L;have HTW:=Aa hk.two;have HID:=Aa hid;have hrv1:wrap64 (S.rev+1)=S.rev+1:=E0 (by omega) (by omega);rw[m]at hd;rw[hd]at CM;clear hd;generalize Aj x S.seen=tx at *;obtain⟨S2,U⟩:∃S2,({ S with seen:=tx,rev:=S.rev+1,mine:=S.mine.tail,id:=if S.mine.tail≠[] then S.id+1 else S.id }:Cl)=S2:=⟨_,rfl⟩;rw[U];have HS2:=Aa U;clear U;obtain⟨n,hn⟩:∃n,S.mine.length=n:=⟨_,rfl⟩;rw[hn]at hcn hmi hmn H0 CU CA CM CP;generalize hxn:x.length=xn at *;obtain⟨hr0,hr1⟩:=hrv;clear h3 h4 hx hT hu hlo hxn hsz ho hgx hg0 hp0 hk L m D hce Q B hid a hn
 . skip
   go_enter func91,ntmps91
   go_wp2_with (go_at_call 39;refine(CU.out _ H0.out).mono ?_;rintro e w1 ⟨rfl,R⟩;have Y:=Aa (ZO.grow H0.out R);have F:Hid (Bw w w1):=(zA _ _).trans (R.mono (by rw[Bb];omega));have q2:w1.cell? (Ad b 2)=some (I6 S.rev):=(Ds Y.out.zt.blk).2.2.1;clear R)
   refine wz (λd:World=>ZO lo b w.heap.size who u who S.id S (Sl g n C) (.slice r xn s) x g q t z f d) 12 Y.out ZO.grow λw5 J l G a=>?_;have e2:∀y,(G y).cell? (Ad w.heap.size 2)=some (.slice r xn s):=λy=>Az (a.but y).zt.box 2;have y3:∀y,(G y).cell? (Ad b 3)=some (Sx S.seen):=λy=>(Ds (a.but y).zt.blk).2.2.2.1;(iterate 6 (refine ay a l λ_ k=>?_;go_simp;apply k;clear k))
   (refine ay a l λK H=>?_;go_simp;apply Exists.intro;refine⟨λ_=>?_,H _ ?_⟩;exact CA.out _ (a.but _);clear H K)
   (iterate 5 (refine ay a l λ_ k=>?_;go_simp;apply k;clear k));clear e2 y3 a;refine ae ?_;intro v5 X;have HZ5:=Aa (ZO.grow l X);have HB5:Hid (Bw w v5):=F.out.trans ((J.trans (X.mono J.size)).mono F.out.size);have E:=Aa HB5;clear J X l;go_wp2;refine wz (λd:World=>ZO lo b w.heap.size who u who S.id S (Sl g n C) (.slice r xn s) x g q t z f d) 20 HZ5.out ZO.grow λw8 O o G a=>?_;have e0:∀y,(G y).cell? (Ad w.heap.size 0)=some (I6 who):=λy=>Az (a.but y).zt.box 0;have e1:∀y,(G y).cell? (Ad w.heap.size 1)=some (I6 S.id):=λy=>Az (a.but y).zt.box 1;have y0:∀y,(G y).cell? (Ad b 0)=some (I6 who):=λy=>(Ds (a.but y).zt.blk).1;have y6:∀y,(G y).cell? (Ad b 6)=some (I6 S.id):=λy=>(Ds (a.but y).zt.blk).2.2.2.2.2.2.1;refine ay a o λ_ k=>?_;go_simp;apply k;clear k
   (refine ay a o λK H=>?_;go_simp;apply Exists.intro;refine⟨λ_=>?_,H _ ?_⟩;exact CP.out _ (a.but _);clear H K)
   (iterate 18 (refine ay a o λ_ k=>?_;go_simp;apply k;clear k));clear e0 e1 y0 y6 a;refine ae ?_;intro v8 P;have HZ8:=Aa (ZO.grow o P);have HB8:Hid (Bw w v8):=E.out.trans ((O.trans (P.mono O.size)).mono E.out.size);have I:=Aa HB8;clear O P o;go_wp2;refine wz (λd:World=>ZO lo b w.heap.size who u who S.id S (Sl g n C) (.slice r xn s) x g q t z f d) 16 HZ8.out ZO.grow λw9 W j G a=>?_;have y3:∀y,(G y).cell? (Ad b 3)=some (Sx S.seen):=λy=>(Ds (a.but y).zt.blk).2.2.2.1;have y4:∀y,(G y).cell? (Ad b 4)=some (Sl g n C):=λy=>(Ds (a.but y).zt.blk).2.2.2.2.1;have yg:∀y,(G y).cell? (Ad g 0)=some (.slice q t z):=λy=>(a.but y).cel;(iterate 10 (refine ay a j λ_ k=>?_;go_simp;apply k;clear k))
   (refine ay a j λK H=>?_;go_simp;apply Exists.intro;refine⟨λ_=>?_,H _ ?_⟩;exact CM.out _ (a.but _);clear H K)
   (iterate 5 (refine ay a j λ_ k=>?_;go_simp;apply k;clear k));clear y3 y4 yg a;refine ae ?_;intro v9 N;have HZ9:=Aa (ZO.grow j N);have HB9:Hid (Bw w v9):=I.out.trans ((W.trans (N.mono W.size)).mono I.out.size);have HZ9B:=Aa HB9;clear W N j
   go_wp2_with (go_at_call 124;refine(gQ HZ9.out.zt.cl HM.out HTW.out HID.out).mono ?_;rintro e w2 ⟨rfl,Z,hk2⟩;have HC2:=Aa Z;have HK2:=Aa hk2;obtain⟨_,vm2,p,_⟩:=Z;have z3:w2.frozen? (Ad b 3)=false:=Gf p;have z2:w2.frozen? (Ad b 2)=false:=Gf p;have y3:w2.cell? (Ad b 3)=some (Sx S.seen):=Az p 3;have y2:w2.cell? (Ad b 2)=some (I6 S.rev):=Az p 2;clear hk2 p)
   go_ret;obtain⟨hE1,hE2⟩:=Vz HC2.out tx (S.rev+1);exact⟨rfl,by rw[←HS2.out];exact hE1,keptC.trans (Kx HZ9B.out hlt) (keptC.trans HK2.out hE2)⟩
theorem bq(h:Bf lo w b who u S)(hk:okK 2000 S)(hu:Ck u)(c i:Int)(v:Value)(x:List Pt)(hx:Ar lo w v x)(D:S.seen.length+Al x<=500000)(Q:0<=S.id/\S.id<=1000000)(hrv:0<=S.rev/\S.rev<=1000000)(a:1<lo/\2<lo)(hT:Lib.Utf8Tabs 1 2 w)(ho:ordE x S.seen=0)(hw:¬Mv who S c i) :
    Cg 91 #[Pd b 0,I6 S.rev,.agg #[I6 c,I6 i,v]] w λe w'=>e=.returned .nilIface/\Bf lo w' b who u { S with seen:=Aj x S.seen,rev:=S.rev+1,mine:=(Di S.mine x).1,doc:=Aj (Di S.mine x).2 S.doc }/\keptC w w' b:=by
 have hu0:(u==0)=false:=by rcases hu with rfl|rfl|rfl<;>rfl
 have U:=IA h;obtain⟨H,VM,h3,h4⟩:=h;obtain⟨m,p,rfl⟩:=C7 hx;have q:=JS hk.text ho;have H0:Hid _:=Qq (c:=c) (i:=i) H h3 h4 hT hx;have CU:=Aa λd (l:ZT lo b w.heap.size who u c i S VM (.slice m x.length p) x d)=>NR l.cl;have CA:=Aa λd (l:ZT lo b w.heap.size who u c i S VM (.slice m x.length p) x d)=>Nn _ x S.seen d l.tabs l.op.1 q (by omega);obtain⟨P,L⟩:∃P,decide (0<S.mine.length)=P:=⟨_,rfl⟩;have CP:Hid (∀d,ZT lo b w.heap.size who u c i S VM (.slice m x.length p) x d->Cg 30 #[Pd b 0] d (Rt d (.bool P))):=λd l=>by
  have:=Ml l.cl;rwa[L]at this
 have W:P=false\/(P=true/\(c==who)=false)\/(P=true/\(c==who)=true/\(i==S.id)=false):=by
  by_cases X:S.mine=[]
  . left;rw[←L,X];rfl
  . right
    have hp:P=true:=by rw[←L];exact decide_eq_true (List.length_pos_iff.2 X)
    cases hb:c==who
    . exact .inl ⟨hp,rfl⟩
    . exact .inr ⟨hp,rfl,beq_eq_false_iff_ne.2 λhi=>hw ⟨X,eq_of_beq hb,hi⟩⟩
 clear hw L;have CT:=Aa λd (l:ZT lo b w.heap.size who u c i S VM (.slice m x.length p) x d)=>fD l.cl hk _ x l.op q D a l.tabs;have hrv1:wrap64 (S.rev+1)=S.rev+1:=E0 (by omega) (by omega);generalize hxn:x.length=xn at *;obtain⟨hr0,hr1⟩:=hrv;generalize Aj x S.seen=tx at *;clear h3 h4 hx hT hu H hxn D ho q hk Q a
 rcases W with rfl|⟨rfl,O⟩|⟨rfl,O,hi1⟩
 all_goals as_aux_lemma =>
  skip
  go_enter func91,ntmps91
  go_wp2_with (go_at_call 39;refine(CU.out _ H0.out).mono ?_;rintro e w1 ⟨rfl,r⟩;have E:=Aa (ZT.grow H0.out r);have o:Hid (Bw w w1):=(zA _ _).trans (r.mono (by rw[Bb];omega));have q2:w1.cell? (Ad b 2)=some (I6 S.rev):=(Ds E.out.blk).2.2.1;clear r)
  refine wz (λd:World=>ZT lo b w.heap.size who u c i S VM (.slice m xn p) x d) 12 E.out ZT.grow λw5 s j G a=>?_;have e2:∀y,(G y).cell? (Ad w.heap.size 2)=some (.slice m xn p):=λy=>Az (a.but y).box 2;have y3:∀y,(G y).cell? (Ad b 3)=some (Sx S.seen):=λy=>(Ds (a.but y).blk).2.2.2.1;(iterate 6 (refine ay a j λ_ k=>?_;go_simp;apply k;clear k))
  (refine ay a j λK F=>?_;go_simp;apply Exists.intro;refine⟨λ_=>?_,F _ ?_⟩;exact CA.out _ (a.but _);clear F K)
  (iterate 5 (refine ay a j λ_ k=>?_;go_simp;apply k;clear k));clear e2 y3 a;refine ae ?_;intro v5 A;have HZ5:=Aa (ZT.grow j A);have HB5:Hid (Bw w v5):=o.out.trans ((s.trans (A.mono s.size)).mono o.out.size);clear s A j;have n:=Aa HB5;go_wp2;refine wz (λd:World=>ZT lo b w.heap.size who u c i S VM (.slice m xn p) x d) 20 HZ5.out ZT.grow λw8 t f G a=>?_;have e0:∀y,(G y).cell? (Ad w.heap.size 0)=some (I6 c):=λy=>Az (a.but y).box 0;have e1:∀y,(G y).cell? (Ad w.heap.size 1)=some (I6 i):=λy=>Az (a.but y).box 1;have y0:∀y,(G y).cell? (Ad b 0)=some (I6 who):=λy=>(Ds (a.but y).blk).1;have y6:∀y,(G y).cell? (Ad b 6)=some (I6 S.id):=λy=>(Ds (a.but y).blk).2.2.2.2.2.2.1;refine ay a f λ_ k=>?_;go_simp;apply k;clear k
  (refine ay a f λK F=>?_;go_simp;apply Exists.intro;refine⟨λ_=>?_,F _ ?_⟩;exact CP.out _ (a.but _);clear F K)
  (iterate 18 (refine ay a f λ_ k=>?_;go_simp;apply k;clear k));clear e0 e1 y0 y6 a;refine ae ?_;intro v8 z;have I:=Aa (ZT.grow f z);have R:Hid (Bw w v8):=n.out.trans ((t.trans (z.mono t.size)).mono n.out.size);clear t z f;have J:=Aa R;have x2:v8.cell? (Ad w.heap.size 2)=some (.slice m xn p):=Az I.out.box 2
  go_wp2_with (go_at_call 125;refine(CT.out _ I.out).mono ?_;rintro e N ⟨rfl,C,B⟩;have Y:=Aa C;have HK2:=Aa B;obtain⟨_,vm2,g,_⟩:=C;have z3:N.frozen? (Ad b 3)=false:=Gf g;have z2:N.frozen? (Ad b 2)=false:=Gf g;have y3:N.cell? (Ad b 3)=some (Sx S.seen):=Az g 3;have y2:N.cell? (Ad b 2)=some (I6 S.rev):=Az g 2;clear B g)
  go_ret;obtain⟨Z,hE2⟩:=Vz Y.out tx (S.rev+1);exact⟨rfl,Z,keptC.trans (Kx J.out U) (keptC.trans HK2.out hE2)⟩
theorem gU(h:Bf lo w b who u S)(D:okK 2000 S)(o:Ck u)(rev c i:Int)(v:Value)(x:List Pt)(q:Ar lo w v x)(B:∀p∈x,Cp p)(y:Al x<=400000)(E:x.length<=1000000)(A:S.seen.length<=100000)(j:0<=S.id/\S.id<=1000000)(n:0<=S.rev/\S.rev<=1000000)(C:1<lo/\2<lo)(r:Lib.Utf8Tabs 1 2 w) :
    Cg 91 #[Pd b 0,I6 rev,.agg #[I6 c,I6 i,v]] w λe w'=>e=.returned (Ao (Ga who S rev c i x))/\Bf lo w' b who u (Fm who S rev c i x)/\keptC w w' b:=by
 have k:=IA h
 by_cases t:rev=S.rev
 case neg =>
  have a:Ga who S rev c i x=0:=if_pos t;have d:Fm who S rev c i x=S:=if_pos (.inl t);rw[a,d];refine(fw h o rev c i v x q r t).mono ?_;rintro e w' ⟨rfl,f⟩;exact⟨rfl,IP h f,Kx f k⟩
 subst t
 by_cases g:ordE x S.seen=0
 case neg =>
  have a:Ga who S S.rev c i x=15:=by unfold Ga;rw[if_neg (by simp),if_pos g]
  have d:Fm who S S.rev c i x=S:=if_pos (.inr (by rw[a];decide));rw[a,d];refine(fu h o c i v x q B y E A r g).mono ?_;rintro e w' ⟨rfl,f⟩;exact⟨rfl,IP h f,Kx f k⟩
 have m:S.seen.length+Al x<=500000:=by omega
 by_cases l:Mv who S c i
 case pos =>
  by_cases s:Aj (Eb S) S.seen=Aj x S.seen
  . have a:Ga who S S.rev c i x=0:=by unfold Ga;rw[if_neg (by simp),if_neg (by simpa using g),if_neg λe=>e.2 s]
    have d:Fm who S S.rev c i x = { S with seen:=Aj x S.seen,rev:=S.rev+1,mine:=S.mine.tail,id:=if S.mine.tail≠[] then S.id+1 else S.id }:=by unfold Fm;rw[if_neg (by rw[a];simp),if_pos l]
    rw[a,d];obtain⟨z,rfl,rfl⟩:=l;exact fv h D o v x q m j n C r g z s
  . have a:Ga who S S.rev c i x=15:=by unfold Ga;rw[if_neg (by simp),if_neg (by simpa using g),if_pos ⟨l,s⟩]
    have d:Fm who S S.rev c i x=S:=if_pos (.inr (by rw[a];decide));rw[a,d];obtain⟨z,rfl,rfl⟩:=l;refine(iV h D o v x q m j n C r g z s).mono ?_;rintro e w' ⟨rfl,f⟩;exact⟨rfl,IP h f,Kx f k⟩
 case neg =>
  have a:Ga who S S.rev c i x=0:=by unfold Ga;rw[if_neg (by simp),if_neg (by simpa using g),if_neg λe=>l e.1]
  have d:Fm who S S.rev c i x = { S with seen:=Aj x S.seen,rev:=S.rev+1,mine:=(Di S.mine x).1,doc:=Aj (Di S.mine x).2 S.doc }:=by unfold Fm;rw[if_neg (by rw[a];simp),if_neg l]
  rw[a,d];exact bq h D o c i v x q m j n C r g l
end
section
attribute [local go_sem] Oper.semAt_some
def fQ (u:Int) (k:IntKind) (o:Nat) (e l:TypeId) (z:Nat) (fs fx fp fy:FuncId):Prop:=(u=1/\k=.u8/\o=1/\e=5/\l=146/\z=1/\fs=165/\fx=131/\fp=130/\fy=132)\/(u=2/\k=.u16/\o=2/\e=218/\l=179/\z=2/\fs=166/\fx=134/\fp=133/\fy=135)\/(u=3/\k=.i32/\o=3/\e=21/\l=180/\z=4/\fs=172/\fx=138/\fp=137/\fy=139)
section
variable {u : Int} {k : IntKind} {o : Nat} {e l : TypeId} {z : Nat} {fs fx fp fy : FuncId} {w : World} {U : List UInt8} {v : Value}
theorem Pw(a:fQ u k o e l z fs fx fp fy):(prog.info? e).map (λi=>(i.zero,i.size,i.bytes))=some (some (.int k 0),1,z):=by
 rcases a with ⟨rfl,rfl,rfl,rfl,rfl,rfl,_⟩|⟨rfl,rfl,rfl,rfl,rfl,rfl,_⟩|⟨rfl,rfl,rfl,rfl,rfl,rfl,_⟩<;>kernel_rfl
theorem SO(r:fQ u k o e l z fs fx fp fy)(g:(scan U).2=true)(h:U.length<=1000000)(f:World)(j:Lib.Utf8Tabs 1 2 f) :
    Cg fy #[Sx U] f λe w'=>∃p n c q,e=.returned (.slice p n c)/\n<=2000000/\sl w' k p n c q/\Bw f w':=by
 have m:C1 (Ch U)<=1000000:=by
  have:=congrArg List.length (MP g);have:=Ie (Ch U);omega
 obtain⟨y,t,s⟩:=fH m
 rcases r with ⟨rfl,rfl,rfl,rfl,rfl,rfl,_,_,_,rfl⟩|⟨rfl,rfl,rfl,rfl,rfl,rfl,_,_,_,rfl⟩|⟨rfl,rfl,rfl,rfl,rfl,rfl,_,_,_,rfl⟩
 . exact(bI U g h f).mono λe w' ⟨p,n,c,a,b,d⟩=>⟨p,n,c,_,a,by rw[b.1,Pb,BS];omega,b,d⟩
 . exact(bJ U g h f j).mono λe w' ⟨p,n,c,a,b,d⟩=>⟨p,n,c,_,a,by rw[b.1,Pa,E6,BS];omega,b,d⟩
 . exact(bK U g h f j).mono λe w' ⟨p,n,c,a,b,d⟩=>⟨p,n,c,_,a,by rw[b.1,O9,E6,BS];omega,b,d⟩
theorem O4(h:fQ u k o e l z fs fx fp fy)(d:Lib.Utf8Tabs 1 2 w):Cg fx #[.slice none 0 0] w (Rt w (.tuple #[.string ⟨#[]⟩,.nilIface])):=by
 have g:Hid _:=Vb [] (by decide) rfl w d;have f:(convert 146 9 (.slice none 0 0)).run prog w=.ok (.string ⟨#[]⟩) w:=eI (l:=[]) ⟨rfl,.inl ⟨rfl,rfl,rfl⟩⟩;clear d
 rcases h with ⟨rfl,rfl,rfl,rfl,rfl,rfl,_,rfl,_⟩|⟨rfl,rfl,rfl,rfl,rfl,rfl,_,rfl,_⟩|⟨rfl,rfl,rfl,rfl,rfl,rfl,_,rfl,_⟩
 . go_enter func131,ntmps131
   go_wp2_with (go_at_call 62;refine AC g.out ?_;rintro e n ⟨p,q,m,j,rfl,a⟩)
   go_ret2
   exact⟨rfl,a.alloc a.size _⟩
 . go_enter func134,ntmps134
   go_wp2
   go_loopw [4,5] (λb i wr=>b=.slice none 0 0/\i=.int .i64 0/\wr=w) (λ_ _ _=>0)
   case atStart=>exact⟨rfl,rfl,rfl⟩
   case round =>
    obtain⟨rfl,rfl,rfl⟩:=hrel;go_wp2
    go_ret2
    exact⟨rfl,.refl _ _⟩
 . go_enter func138,ntmps138
   go_wp2
   go_loopw [4,9] (λb i wr=>b=.slice none 0 0/\i=.int .i64 0/\wr=w) (λ_ _ _=>0)
   case atStart=>exact⟨rfl,rfl,rfl⟩
   case round =>
    obtain⟨rfl,rfl,rfl⟩:=hrel;go_wp2
    go_ret2
    exact⟨rfl,.refl _ _⟩
theorem O8(r:fQ u k o e l z fs fx fp fy)(B:Lib.Utf8Tabs 1 2 w)(G:Ae w v [⟨0,0,U⟩])(Y:U.length<=1000000) :
    Cg fs #[.slice none 0 0,v,.func (.func fx) #[] #[]] w (Rt w (.tuple #[I6 (U.length:Int),.nilIface])):=by
 have O:=Aa λH (a:Bw w H)=>O4 r (Go.Proofs.Utf8Tabs_below B a);obtain⟨p,c,rfl,t,K,D⟩:=G;obtain⟨j,o',rfl,f,A⟩:=D (by simp);obtain⟨s,y,C⟩:=A 0 _ rfl;have E:=Aa s;have m:=Aa y;have n:=Aa C;have F:(ByteArray.mk U.toArray).size=U.length:=by simp[ByteArray.size]
 have P:(U.length:Int)<=1000000:=by omega
 unfold maxLen at K;have t:1<=c:=t;clear B D A s y C;show Cg fs #[.slice none 0 0,.slice (some (Ad j o')) 1 c,.func (.func fx) #[] #[]] w _
 rcases r with ⟨rfl,rfl,rfl,rfl,rfl,rfl,rfl,rfl,_⟩|⟨rfl,rfl,rfl,rfl,rfl,rfl,rfl,rfl,_⟩|⟨rfl,rfl,rfl,rfl,rfl,rfl,rfl,rfl,_⟩
 all_goals as_aux_lemma =>
  first
   | go_enter func165,ntmps165
   | go_enter func166,ntmps166
   | go_enter func172,ntmps172
  go_wp2
  go_loopw [8,9,18] (λQ J i wr=>∃x:Nat,i=.int .i64 x/\x<=1/\Q=.int .i64 (x*(U.length:Int))/\J=.slice none 0 0/\Bw w wr) (λ_ _ i _=>1 - (intOf i).toNat)
  case atStart=>exact⟨0,rfl,by decide,by simp,rfl,.refl _ _⟩
  case round =>
   obtain⟨x,rfl,h,rfl,rfl,a⟩:=hrel;have g:=Aa a
   rcases x with _|x
   . have L:=(zC a j (o'+0*3) f).trans E.out
     have N:=(zC a j (o'+0*3+1) f).trans m.out;have I:=(zC a j (o'+0*3+2) f).trans n.out;simp only[FT,EI]at L N I;clear h a
     go_wp2_with (first
      | ((first|go_at_call 131|go_at_call 134|go_at_call 138);refine(O.out _ (g.out.alloc g.out.size _)).mono ?_;rintro e R ⟨rfl,d⟩
         have h:=(d.block wr.heap.size (by rw[Bb];omega)).trans (heap_alloc_new wr _);have X:=cQ h 0 rfl;have W:=cQ h 2 rfl;have q:Hid (Bw w R):=(g.out.alloc g.out.size _).trans (d.mono (g.out.alloc g.out.size _).size)
         clear d h))
     exact⟨⟨1,by go_num,by decide,by simp,rfl,q.out⟩,by simp[intOf]⟩
   . obtain rfl:x=0:=by omega
     clear h a;go_wp2
     go_ret2
     exact⟨by simp,g.out⟩
theorem Pj(B:fQ u k o e l z fs fx fp fy)(K:Lib.Utf8Tabs 1 2 w)(hr:Ae w v [⟨0,0,U⟩])(hU:(scan U).2=true)(hl:U.length<=8000){b:Nat}(I:w.cell? (Ad b o)=some (.slice none 0 0))(hz:w.frozen? (Ad b o)=false) :
    Cg fp #[Pd b o,v,.func (.func fx) #[] #[],.func (.func fy) #[] #[]] w λe w'=>e=.returned .nilIface/\Below b w w':=by
 have CS:Hid _:=O8 B K hr (AF hl (by decide));have CP:=Aa λwx (d:Bw w wx)=>SO B hU (AF hl (by decide)) wx (Go.Proofs.Utf8Tabs_below K d);obtain⟨W,hi,F,L,P⟩:=info_parts (Pw B);obtain⟨p,c,rfl,X,h2,h3⟩:=hr;obtain⟨D,o',rfl,q,A⟩:=h3 (by simp);obtain⟨Y,Z,f2⟩:=A 0 _ rfl;have HF:=Aa Y;have G:=Aa Z;have H:=Aa f2;have j:b<w.heap.size:=Ca w _ I;have HC:=Aa I;have HZ:=Aa hz;have J:=Aa j;have hu1:(U.length:Int)<=8000:=by omega
 unfold maxLen at h2;have X:1<=c:=X;clear K h3 A Y Z f2 hU;show Cg fp #[Pd b o,.slice (some (Ad D o')) 1 c,.func (.func fx) #[] #[],.func (.func fy) #[] #[]] w _
 rcases B with ⟨rfl,rfl,rfl,rfl,rfl,rfl,rfl,rfl,rfl,rfl⟩|⟨rfl,rfl,rfl,rfl,rfl,rfl,rfl,rfl,rfl,rfl⟩|⟨rfl,rfl,rfl,rfl,rfl,rfl,rfl,rfl,rfl,rfl⟩
 all_goals as_aux_lemma =>
  first
   | go_enter func130,ntmps130
   | go_enter func133,ntmps133
   | go_enter func137,ntmps137
  go_wp2_with ((first|go_at_call 165|go_at_call 166|go_at_call 172);refine AC CS.out ?_;rintro e w1 ⟨rfl,m⟩;have O:=(zC m b _ j).trans HC.out;have N:=Aa m;clear m I)
  clear O hz
  go_loopw [11,12,35] (λy R i wr=>∃x:Nat,i=.int .i64 x/\x<=1/\(x=0->y=.slice none 0 0)/\(∃p n c,y=.slice p n c)/\R=.slice none 0 0/\Bw w wr) (λ_ _ i _=>1 - (intOf i).toNat)
  case atStart=>exact⟨0,rfl,by decide,λ_=>rfl,⟨_,_,_,rfl⟩,rfl,N.out⟩
  case round =>
   obtain⟨x,rfl,f,C,⟨p,n,cp,rfl⟩,rfl,d⟩:=hrel;have s:=Aa d
   rcases x with _|x
   . have C:=C rfl
     injection C with v1 v2 v3;subst v1 v2 v3;have g0:=(zC d D (o'+0*3) q).trans HF.out;have g1:=(zC d D (o'+0*3+1) q).trans G.out;have g2:=(zC d D (o'+0*3+2) q).trans H.out;simp only[FT,EI]at g0 g1 g2;clear f d
     go_wp2_with (first
      | (have _:=g;at_builtin;refine ly _ rfl _ _ _ rfl w.heap.size _ W (.int _ 0) _ (by first | exact underlying146 | exact underlying179 | exact underlying180) hi F L P rfl _ _ _ rfl (BL _ _ _ _) _ pz nz cz zs rfl Q.out (by unfold maxLen;omega) (by omega) g.out.size ?_)
      | (at_builtin;refine wpList_append_own_none rfl _ _ _ rfl w.heap.size _ W 1 (by first | exact underlying146 | exact underlying179 | exact underlying180) hi _ 0 [] rfl (BL _ _ _ _) rfl ?_)
      | ((first|go_at_call 132|go_at_call 135|go_at_call 139);refine(CP.out _ (s.out.alloc s.out.size _)).mono ?_;rintro e w2 ⟨pz,nz,cz,zs,rfl,hnz,hs,r⟩
         have f:=(r.block wr.heap.size (by rw[Bb];omega)).trans (heap_alloc_new wr _);have HX:=Aa f;have g:Hid (Bw w w2):=(s.out.alloc s.out.size _).trans (r.mono (s.out.alloc s.out.size _).size);have Q:=Aa hs
         clear r f hs))
     intro v' w4 a t;obtain⟨p14,c14,rfl⟩:=Bm a;have f:=(t.block wr.heap.size (As HX.out) λe=>by cases e).trans HX.out;have x0:=cQ f 0 rfl;have O:=cQ f 1 rfl;have E:Hid (Bw w w4):=g.out.grown t g.out.size λk hk=>by cases hk
     clear f a t;go_wp2;exact⟨⟨1,by go_num,by decide,λh=>(by cases h),⟨_,_,_,rfl⟩,rfl,E.out⟩,by simp[intOf]⟩
   . obtain rfl:x=0:=by omega
     have O:=(zC d b _ j).trans HC.out;have x2:=(d.frozen (p:=(Ad b _)) j).trans HZ.out;clear f d C;go_wp2;go_ret;exact⟨rfl,(s.out.mono (CW J.out)).setCell (Ai _) _⟩
theorem Mo{b:Nat}(h:w.cell? (Ad b 0)=some (I6 u)):Cg 129 #[Pd b 0] w λe w'=>e=.returned (I6 u)/\w'=w:=by
 go_enter func129,ntmps129
 go_wp2;go_ret;exact⟨rfl,rfl⟩
theorem SR(f:Ck u){b:Nat}(a:w.heap[b]?=some (Oc #[I6 u,.slice none 0 0,.slice none 0 0,.slice none 0 0] 182)):Cg 128 #[Pd b 0] w λe w'=>e=.returned (I6 0)/\w'=w:=by
 have d:=cQ a 0 rfl;have n:=cQ a 1 rfl;have p:=cQ a 2 rfl;have m:=cQ a 3 rfl;have h:Hid _:=Mo d;clear a
 rcases f with rfl|rfl|rfl
 all_goals
  go_enter func128,ntmps128
  go_wp2_with (go_at_call 129;refine AC h.out ?_;rintro e j ⟨rfl,g⟩;obtain rfl:=g.symm)
  go_ret;exact⟨rfl,rfl⟩
theorem Nh(C:Ck u)(y:Lib.Utf8Tabs 1 2 w)(r:Ae w v [⟨0,0,U⟩])(A:(scan U).2=true)(n:U≠[])(F:U.length<=8000){b:Nat}(j:w.heap[b]?=some (Oc #[I6 u,.slice none 0 0,.slice none 0 0,.slice none 0 0] 182)) :
    Cg 99 #[Pd b 0,v] w λe w'=>e=.returned .nilIface/\Below b w w':=by
 have E:chkE [⟨0,0,U⟩] 0=0:=by simp[chkE,Dw,D9,Db,n,A]
 have I:Hid (Cg 68 #[v,I6 0] w (Rt w .nilIface)):=by
  have:=L3 v _ 0 w y r (λq K=>by
   obtain rfl:=List.mem_singleton.1 K
   refine⟨?_,?_,?_,?_,?_⟩<;>simp only<;>omega) (by decide) (by simp)
  rw[E]at this;exact this
 have d:b<w.heap.size:=(As j);have B:Hid (∀{u k o e l z fs fx fp fy},fQ u k o e l z fs fx fp fy->o<4->0<o->∀g,Bw w g->Cg fp #[Pd b o,v,.func (.func fx) #[] #[],.func (.func fy) #[] #[]] g λe w'=>e=.returned .nilIface/\Below b g w'):=λD R Q g f=>by
  have h:=(f.block b d).trans j;refine Pj D (Go.Proofs.Utf8Tabs_below y f) (Ec r f (Ai _)) A F ?_ (Gf h);rw[Az h]
  rcases D with ⟨_,_,rfl,_⟩|⟨_,_,rfl,_⟩|⟨_,_,rfl,_⟩<;>rfl
 have G:Hid _:=SR C j;have H:Hid (∀g,Bw w g->_):=λg f=>Mo (Az ((f.block b d).trans j) 0);have t:=Aa d;obtain⟨p,c,rfl,O,P,J⟩:=r;clear y A n F j E J d
 rcases C with rfl|rfl|rfl
 all_goals as_aux_lemma =>
  go_enter func99,ntmps99
  go_wp2_with (first
   | (go_at_call 68;refine AC I.out ?_;rintro e N ⟨rfl,m⟩;have a:=Aa m;clear m)
   | (go_at_call 128;refine AC G.out ?_;rintro e w0 ⟨rfl,f⟩;obtain rfl:=f.symm)
   | (go_at_call 129;refine(H.out _ a.out).mono ?_;rintro e L ⟨rfl,f⟩;obtain rfl:=f.symm)
   | ((first | (go_at_call 130;refine(B.out (.inl ⟨rfl,rfl,rfl,rfl,rfl,rfl,rfl,rfl,rfl,rfl⟩) (by decide) (by decide) _ a.out).mono ?_) | (go_at_call 133;refine(B.out (.inr (.inl ⟨rfl,rfl,rfl,rfl,rfl,rfl,rfl,rfl,rfl,rfl⟩)) (by decide) (by decide) _ a.out).mono ?_) | (go_at_call 137;refine(B.out (.inr (.inr ⟨rfl,rfl,rfl,rfl,rfl,rfl,rfl,rfl,rfl,rfl⟩)) (by decide) (by decide) _ a.out).mono ?_));rintro e W ⟨rfl,s⟩))
  go_ret;exact⟨rfl,(a.out.mono (CW t.out)).trans s⟩
theorem Nb(p:Ck u)(q:Lib.Utf8Tabs 1 2 w)(y:(scan U).2=true)(g:U≠[])(s:U.length<=8000){d:World}(f:Bw w d){b:Nat}(m:b=d.heap.size):Cg 99 #[Pd b 0,Sl (b+1) 1 1] ((d.alloc (Oc #[I6 u,.slice none 0 0,.slice none 0 0,.slice none 0 0] 182)).alloc (Oc #[I6 0,I6 0,Sx U] 87)) (Rt w .nilIface):=by
 have A:Bw d (d.alloc (Oc #[I6 u,.slice none 0 0,.slice none 0 0,.slice none 0 0] 182)):=zA _ _;have B:=A.alloc (by rw[Bb];omega) (Oc #[I6 0,I6 0,Sx U] 87);have j:=f.trans (B.mono f.size);have n:=(heap_alloc_old (d.alloc (Oc #[I6 u,.slice none 0 0,.slice none 0 0,.slice none 0 0] 182)) (Oc #[I6 0,I6 0,Sx U] 87) (r:=d.heap.size) (by rw[Bb];omega)).trans (heap_alloc_new d _);have h:=heap_alloc_new (d.alloc (Oc #[I6 u,.slice none 0 0,.slice none 0 0,.slice none 0 0] 182)) (Oc #[I6 0,I6 0,Sx U] 87);rw[Bb]at h;rw[←m]at n h;generalize (d.alloc (Oc #[I6 u,.slice none 0 0,.slice none 0 0,.slice none 0 0] 182)).alloc (Oc #[I6 0,I6 0,Sx U] 87)=W3 at *;have t:Ae W3 (Sl (b+1) 1 1) [⟨0,0,U⟩]:=bF (ps:=[⟨0,0,U⟩]) h (by simp[maxLen]);refine(Nh p (Go.Proofs.Utf8Tabs_below q j) t y g s n).mono ?_;rintro e w' ⟨a,b⟩;exact⟨a,j.trans (b.mono (by rw[m];exact f.size))⟩
theorem bS(r:Ck u)(m:Lib.Utf8Tabs 1 2 w)(n:(scan U).2=true)(p:U.length<=8000):Cg 64 #[I6 u,Sx U] w λe w'=>∃b,e=.returned (.tuple #[Pd b 0,.nilIface])/\Bw w w':=by
 have s:Hid _:=Vb U (AF p (by decide)) n w m;have E:=Aa λ(d:U≠[]) wx b (hw:Bw w wx) (hb:b=wx.heap.size)=>Nb r m n d p hw hb;clear m n p
 rcases r with rfl|rfl|rfl
 all_goals as_aux_lemma =>
  by_cases d:U=[]
  . subst d
    go_enter func64,ntmps64
    go_wp2_with (go_at_call 62;refine AC s.out ?_;rintro e y ⟨A,B,D,C,rfl,g⟩;have f:=Aa g;clear g)
    go_ret2
    exact⟨_,rfl,(f.out.alloc f.out.size _).alloc (AF f.out.size (by simp)) _⟩
  . have F:U.isEmpty=false:=by cases U with | nil=>exact absurd rfl d | cons a t=>rfl
    have j:=Aa d;clear d
    go_enter func64,ntmps64
    go_wp2_with (first
     | (go_at_call 62;refine AC s.out ?_;rintro e y ⟨A,B,D,C,rfl,g⟩;have f:=Aa g;clear g)
     | (go_at_call 99;refine(E.out j.out _ _ (f.out.alloc f.out.size _) (AN _ _).symm).mono ?_;rintro e G ⟨rfl,h⟩;have q:=Aa h;clear h))
    go_ret2
    exact⟨_,rfl,q.out⟩
theorem iD(a:¬Ck u)(s:ByteArray):Cg 64 #[I6 u,.string s] w (Rt w (.tuple #[.pointer none,.iface 30 (I6 1)])):=by
 unfold Ck at a;have d:(u != 1)=true:=by simpa using λe=>a (.inl e)
 have g:(u != 2)=true:=by simpa using λe=>a (.inr (.inl e))
 have f:(u != 3)=true:=by simpa using λe=>a (.inr (.inr e))
 clear a
 go_enter func64,ntmps64
 go_wp2
 go_ret2
 exact⟨rfl,A9 _ _⟩
end
end
section
attribute [local go_sem] Oper.semAt_some Dz Dl
variable {w : World}{lo b : Nat}{who u : Int}{S : Cl}
def Jb (s:List UInt8):Cl:=⟨s,s,0,0,0,[]⟩
theorem fj{s:List UInt8}(h:V s):okK 2000 (Jb s):=⟨h,trivial,rfl,by simp[Jb],λm a=>by cases a⟩
theorem gR(who:Int)(lo:Nat)(u:Nat)(p:Q3 u)(a:List Nat)(y:∀r∈a,Df r)(G:C1 a<=8000)(w:World)(h:lo<=w.heap.size)(t:Lib.Utf8Tabs 1 2 w):Cg 33 #[I6 who,I6 (u:Int),Sx (encs a)] w λe w'=>∃b,e=.returned (.tuple #[Pd b 0,.nilIface])/\Bf lo w' b who (u:Int) (Jb (encs a))/\w.heap.size<=b/\Bw w w'/\∀x,Dv w' b x->x=b:=by
 have C:Hid _:=bS (dQ p) t (show(scan (encs a)).2=true by rw[MN a y]) (by have:=Ie a;omega);have m:(encs a).length=C1 a:=(Ie a).symm;have E:=Aa λD=>Sd (encs a) (by omega) D;have n:=Aa h;generalize encs a=s at *;clear t G h p y m
 go_enter func33,ntmps33
 go_wp2_with (first
  | (go_at_call 64;refine AC C.out ?_;rintro e H ⟨I,rfl,d⟩;have g:=Aa d;clear d)
  | (go_at_call 63;refine(E.out _).mono ?_;rintro e B ⟨rfl,f⟩;have j:=Aa (g.out.trans (f.mono g.out.size));clear f))
 go_ret2
 have J:=n.out;have q:=j.out.size;refine⟨B.heap.size,rfl,⟨by omega,.slice none 0 0,heap_alloc_new _ _,Zd _ _⟩,q,j.out.alloc q _,λx F=>?_⟩
 rcases F with e|⟨vm,e,A⟩
 . exact e
 . rw[Az (heap_alloc_new B _) 4]at e
   have e:some (Value.slice none 0 0)=some vm:=e;rw[←Bq e]at A
   cases A
theorem gS(who u:Int)(d:¬Ck u)(s:ByteArray)(w:World):Cg 33 #[I6 who,I6 u,.string s] w (Rt w (.tuple #[.pointer none,.iface 30 (I6 1)])):=by
 have f:Hid _:=iD (w:=w) d s;clear d
 go_enter func33,ntmps33
 go_wp2_with (go_at_call 64;refine AC f.out ?_;rintro e g ⟨rfl,a⟩)
 go_ret2
 exact⟨rfl,a⟩
theorem Zk{p:Option Addr}{n c:Nat}{ps:List Pt}(h:Ae w (.slice p n c) ps):n=ps.length/\(ps≠[]->∃a,p=some a/\∀j u,(Cw ps)[j]?=some u->w.cell? (a.add j)=some u):=by
 obtain⟨H,F,e,_,_,B⟩:=h;injection e with e1 e2 q;subst e1;refine⟨e2,λf=>?_⟩;obtain⟨b,o,rfl,_,C⟩:=B f;refine⟨(Ad b o),rfl,λj u t=>?_⟩;have g:=(De t);rw[Oz]at g;have s:j / 3<ps.length:=by omega
 have G:=Nat.div_add_mod j 3;have m:=Nat.mod_lt j (show 0<3 by decide);have d:=Sb ps (j / 3) ps[j / 3] (B7 s) (j % 3) m;rw[show j / 3*3+j % 3=j by omega,t]at d;obtain⟨A,D,E⟩:=C (j / 3) _ (B7 s);have q:o+j / 3*3+j % 3=o+j:=by omega
 have y:((Ad b o):Addr).add j=(Ad b (o+j / 3*3+j % 3)):=by rw[q];simp[Addr.add]
 rw[y];generalize j % 3=r at *
 rcases r with _|_|_|r
 . rw[EI,A];exact d.symm ▸ rfl
 . rw[D];exact d.symm ▸ rfl
 . rw[E];exact d.symm ▸ rfl
 . omega
theorem gO(ps:List Pt):∀u∈Cw ps,u.oneCell'=true:=λu a=>by
 obtain⟨p,_,d⟩:=List.mem_flatMap.1 a;exact Gx p u d
theorem O7(c:Nat)(w:World):(binOp .eql 37 (.slice none 0 c) (.slice none 0 0)).run prog w=.ok (.bool true) w:=by kernel_rfl
theorem MZ(a:Addr)(n c:Nat)(w:World):(binOp .eql 37 (.slice (some a) n c) (.slice none 0 0)).run prog w=.ok (.bool false) w:=by kernel_rfl
attribute [local go_sem] O7 MZ
theorem iW(v:Value)(ps:List Pt)(w:World)(h:Ae w v ps)(Y:ps.length<=1000000):Cg 85 #[v] w λe w'=>∃G,e=.returned G/\opN w.heap.size w' G ps/\Bw w w':=by
 obtain⟨p,c,rfl⟩:∃p c,v=.slice p ps.length c:=by obtain⟨p,c,e,_⟩:=h;exact⟨p,c,e⟩
 rcases p with _|a
 . have F:ps=[]:=by
     by_cases e:ps=[]
     . exact e
     . obtain⟨a,m,_⟩:=(Zk h).2 e;cases m
   subst F;clear h
   go_enter func85,ntmps85
   go_wp2;go_ret;exact⟨_,rfl,Ik _ _,A9 _ _⟩
 . have W:Hid (∀j u,(Cw ps)[j]?=some u->w.cell? (a.add j)=some u):=by
     intro j u g;have f:ps≠[]:=λe=>by subst e;simp[Cw]at g
     obtain⟨Z,e,R⟩:=(Zk h).2 f;injection e with e;subst e;exact R j u g
   have E:Hid (ps≠[]->a.block<w.heap.size):=λf=>by
    obtain⟨N,L,e,_,_,X⟩:=h;injection e with e1 _ _;obtain⟨b,o,m,Q,_⟩:=X f;rw[←e1]at m;injection m with m;subst m;exact Q
   obtain⟨O,J,q,r,t⟩:=info_parts Ho;have P:=Aa J;have B:=Aa q;have C:=Aa r;have H:=Aa t;obtain⟨n,I⟩:∃n,ps.length=n:=⟨_,rfl⟩;have K:=Aa I;rw[I]at Y ⊢;clear h J q r t I
   go_enter func85,ntmps85
   go_wp2_with (at_builtin;have s:(w.alloc (Oc #[] 87)).ownsRow w.heap.size 87 3 (Sl w.heap.size 0 0) 0 []:=GA (e:=87) (base:=w.heap.size) (size:=3) w #[] 0 (Ai _) (by unfold maxLen;omega) rfl;refine wpList_append_own _ rfl _ _ 37 rfl w.heap.size 87 O (.agg #[I6 0,I6 0,.string ⟨#[]⟩]) 3 32 underlying37 P.out B.out C.out H.out rfl (by decide) _ _ _ rfl s a n c (Cw ps) rfl (by rw[Oz,K.out]) (λj u g=>?_) (gO _) (by unfold maxLen;omega) (by omega) (by simp) ?_)
   . skip
     have f:ps≠[]:=λe=>by subst e;simp[Cw]at g
     exact(BN _ _ (a.add j) (by have:=E.out f;simp only[Addr.add];split<;>exact this)).trans (W.out j u g)
   intro G w' d y _;obtain⟨N,L,rfl⟩:=Bm d;have D:Hid (Bw w w'):=(zA _ _).grown y (by simp) λj g=>by obtain rfl:=Bq g;exact Ai _
   have A:Hid (opN w.heap.size w' (.slice N n L) ps):=J6 (Ai _) (by rw[K.out];simpa using d);clear d y;go_wp2;go_ret;exact⟨_,rfl,A.out,D.out⟩
structure ZA (lo b:Nat) (who u:Int) (S:Cl) (VM:Value) (g:Nat) (p0:Option Addr) (k0 c0:Nat) (m0:List Pt) (wx:World):Prop where
 blk:wx.heap[b]?=some (Oc (Gu who u S VM) 95)
 lt:g<wx.heap.size
 cel:wx.cell? (Ad g 0)=some (.slice p0 k0 c0)
 op0:Ar lo wx (.slice p0 k0 c0) m0
theorem ZA.grow{VM:Value}{g:Nat}{m:Option Addr}{d j:Nat}{f:List Pt}{w':World}(h:ZA lo b who u S VM g m d j f w)(a:Bw w w'):ZA lo b who u S VM g m d j f w' :=
 ⟨(a.block b (As h.blk)).trans h.blk,AK h.lt a.size,(zC a g 0 h.lt).trans h.cel,Bt h.op0 a⟩
theorem iR(h:Bf lo w b who u S)(m:S.mine=[]) :
    Cg 50 #[Pd b 0] w (Rt w (.tuple #[I6 0,I6 S.rev,.slice none 0 0,.bool false])):=by
 have j:Hid _:=Ml h;rw[show decide (0<S.mine.length)=false by rw[m];rfl]at j;have n:=Aa h;clear h m
 go_enter func50,ntmps50
 go_wp2_with (first
  | (go_at_call 30;refine AC j.out ?_;rintro e p ⟨rfl,d⟩;have a:=Aa d;clear d)
  | (go_at_call 29;refine(XC (IP n.out a.out)).mono ?_;rintro e q ⟨rfl,f⟩;have g:=Aa (a.out.trans (f.mono a.out.size));clear f))
 refine bodyPost_ret (v:=.tuple #[I6 0,I6 S.rev,.slice none 0 0,.bool false]) (by simp[results,results50,go_sem]) rfl ⟨rfl,g.out⟩
theorem iS(h:Bf lo w b who u S)(O:S.mine≠[])(hl:(Eb S).length<=1000000) :
    Cg 50 #[Pd b 0] w λe w'=>∃Z,e=.returned (.tuple #[I6 S.id,I6 S.rev,Z,.bool true])/\(∀lo',Ar lo' w' Z (Eb S))/\Bw w w':=by
 have CP:Hid _:=Ml h;rw[decide_eq_true (List.length_pos_iff.2 O)]at CP;obtain⟨hlo,VM,h3,h4⟩:=h;obtain⟨g,cc,E,H,J,rfl,⟨Y,hcm⟩,L,F,r⟩:=T9 h4 O;unfold maxLen at hcm;have r:Ar lo w (.slice E H J) (Eb S):=r;have H0:Hid _:=(⟨h3,L,F,r⟩:ZA lo b who u S (Sl g S.mine.length cc) g E H J (Eb S) w);have CK:=Aa λN (ho:Ae N (.slice E H J) (Eb S))=>iW _ _ N ho hl;have W:=List.length_pos_iff.2 O;have P:(0:Int)<(S.mine.length:Int):=by omega
 generalize Eb S=m0 at *;obtain⟨n,hn⟩:∃n,S.mine.length=n:=⟨_,rfl⟩;rw[hn]at Y P W H0;clear h3 h4 O hl L F r hlo hn
 go_enter func50,ntmps50
 go_wp2_with (go_at_call 30;refine AC CP.out ?_;rintro e w1 ⟨rfl,A⟩;have I:=Aa A;have X:=Aa (ZA.grow H0.out A);clear A)
 refine wz (λN:World=>ZA lo b who u S (Sl g n cc) g E H J m0 N) 19 X.out ZA.grow λw30 t B G p=>?_;have a:=I.out.trans (t.mono I.out.size);have y6:∀y,(G y).cell? (Ad b 6)=some (I6 S.id):=λy=>(Ds (p.but y).blk).2.2.2.2.2.2.1;have y2:∀y,(G y).cell? (Ad b 2)=some (I6 S.rev):=λy=>(Ds (p.but y).blk).2.2.1;have y4:∀y,(G y).cell? (Ad b 4)=some (Sl g n cc):=λy=>(Ds (p.but y).blk).2.2.2.2.1;have yg:∀y,(G y).cell? (Ad g 0)=some (.slice E H J):=λy=>(p.but y).cel;(iterate 14 (refine ay p B λ_ k=>?_;go_simp;apply k;clear k));clear y6 y2 y4 yg;refine aO 14 ⟨_,rfl,?_⟩;intro R d K hK
 go_simp
 have m:=a.trans (d.mono a.size);have s:=ZA.grow B d;refine(CK.out R s.op0.1).mono ?_;rintro e w3 ⟨Z,rfl,D,q⟩;obtain⟨p3,c3,rfl⟩:=IC D;refine⟨_,rfl,hK _ _ (λ_=>ZA.grow s q) ?_⟩;have j:=ZA.grow s q;clear hK K B;refine az p j 15 λ_ k=>?_;go_simp;apply k;clear k;refine az p j 16 λ_ k=>?_;go_simp;apply k;clear k;refine az p j 17 λ_ k=>?_;go_simp;apply k;clear k;refine az p j 18 λ_ k=>?_;go_simp;apply k;clear k;clear p j;refine ae ?_;intro w4 C;have f:=m.trans (q.mono m.size);have Q:Hid (Bw w w4):=f.trans (C.mono f.size);have HN4:Hid (∀lo',Ar lo' w4 (.slice p3 m0.length c3) m0):=λlo'=>Bt (Ev D) C;clear t d q C f a m D s;go_wp2;refine bodyPost_ret (v:=.tuple #[I6 S.id,I6 S.rev,.slice p3 m0.length c3,.bool true]) (by simp[results,results50,go_sem]) rfl ⟨_,rfl,HN4.out,Q.out⟩
end
section
attribute [local go_sem] Oper.semAt_some Dz Dl
theorem Zr{lo:Nat}{w:World}{r G bmx:Nat}{B:List Nat}{R:Rm}(h:Ac lo w r G bmx B R){i:Nat}(J:i<R.fl.length)(hfl:R.fl.length<=400) :
    Cg 56 #[Pd r 0,I6 (i:Int)] w λe w'=>e=.returned (.tuple #[])/\Ac lo w' r G bmx B (outR R i)/\keptF w w' r:=by
 obtain⟨O,P,f,d,t,h3,F⟩:=Kj h;have E:R.fl≠[]:=λe=>by rw[e]at J;exact absurd J (AP _)
 obtain⟨g,_,q,_⟩:=Tt F E;have Z:Hid _:=PA F J (by omega);have p:=λk=>Kd (k:=k) F;have L:r≠g:=λe=>by
  obtain⟨_,_,I,y⟩:=p g (by rw[q];rfl);rw[←e]at y;have:=Cx t y;revert this;decide
 have N:=cQ t 2 rfl
 have K:Hid (∀j,Hk 111 lo j (.slice f (R.fl.length - 1) d) (R.fl.eraseIdx i)->w.grownBy j (Value.slice f R.fl.length d).ownBlock->j.cell? (Ad r 2)=some (.slice f R.fl.length d)/\j.frozen? (Ad r 2)=false/\Ac lo (j.setCell (Ad r 2) (.slice f (R.fl.length - 1) d)) r G bmx B (outR R i)/\keptF w (j.setCell (Ad r 2) (.slice f (R.fl.length - 1) d)) r):=λj H C=>by
  have s:=h.low;have m:j.heap[r]?=some (Oc #[Pd G 0,.slice O B.length P,.slice f R.fl.length d,I6 (R.lost:Int)] 78):=(C.block r (As t) (by rw[q];exact λe=>L (Bq e))).trans t;have Q:sameBut w (j.setCell (Ad r 2) (.slice f (R.fl.length - 1) d)) (λk=>k=r\/(Value.slice f R.fl.length d).ownBlock=some k):=(IU (S:=λk=>k=r\/(Value.slice f R.fl.length d).ownBlock=some k) C λk e=>.inr e).comp (B6 (S:=λk=>k=r\/(Value.slice f R.fl.length d).ownBlock=some k) (.inl rfl)) λk _ h=>h;have D:=heap_setCell_same j r 2 _ _ (.slice f (R.fl.length - 1) d) m;refine⟨Az m 2,Gf m,?_,Q.mono λk _ e=>e.imp id λe=>⟨_,N,e⟩,λk A=>?_⟩
  case refine_2 =>
   rcases A with rfl|⟨v,e,A⟩
   . exact .inl (.inl rfl)
   . have W:(j.setCell (Ad r 2) (.slice f (R.fl.length - 1) d)).cell? (Ad r 2)=some (.slice f (R.fl.length - 1) d):=Az D 2
     rw[W]at e;obtain rfl:=Bq e;refine .inl (.inr ⟨_,N,?_⟩);rw[q]at A ⊢;exact A
  refine Ve (R':=outR R i) (X:=λk=>k=r\/(Value.slice f R.fl.length d).ownBlock=some k) (vc:=.slice O B.length P) (vf:=.slice f (R.fl.length - 1) d) h (heap_setCell_same j r 2 _ _ _ m) ⟨_,_,_,t⟩ ?_ Q (λk A e=>?_) rfl rfl rfl rfl rfl
  . refine JB (S:=λk=>k=r) H (B6 rfl) λk A e=>?_
    subst e;exact⟨s,C6 m (by decide),λI fz y=>by have:=Cx m y;revert this;decide⟩
  . rcases e with rfl | e
    . exact⟨s,_,_,t,.inl rfl⟩
    . obtain⟨a,_,I,y⟩:=p k e
      exact⟨a,I,_,y,.inr rfl⟩
 have hw1:wrap64 ((i:Int)+1)=(i:Int)+1:=E0 (by omega) (by omega);generalize R.fl.length=n at *;clear h t h3 F E p q
 go_enter func56,ntmps56
 go_wp2_with (go_at_call 88;refine AC Z.out ?_;rintro e j ⟨rfl,H,C⟩;obtain⟨u1,u2,u3,u4⟩:=K.out j H C;have Y:=Aa u3;have U4:=Aa u4;clear H C u3 u4)
 go_end0;exact⟨rfl,Y.out,U4.out⟩
variable {lo bmx r bx : Nat}{w : World}{bs : List Nat}{R : Rm}
theorem OU{d a:World}(h:sameBut w d (El lo w bmx))(f:Bw d a):sameBut w a (El lo w bmx):=h.comp (Cf f (λ_=>False)) λ_ _ h=>h.elim
theorem ex(h:Ac lo w r bx bmx bs R){i:Nat}(t:i<R.fl.length)(m:R.fl.length<=400) :
    Cg 18 #[Pd r 0,I6 (i:Int)] w λe w'=>e=.returned .nilIface/\Ac lo w' r bx bmx bs (outR R i)/\sameBut w w' (El lo w bmx):=by
 have B:R.fl[i]?=some R.fl[i]:=B7 t;have y:Hid _:=UZ h i B m;have E:Hid (∀j,Bw w j->Cg 56 #[Pd r 0,I6 (i:Int)] j λe w'=>e=.returned (.tuple #[])/\Ac lo w' r bx bmx bs (outR R i)/\sameBut j w' (El lo j bmx)):=λj q=>(Zr (Gg h q) t m).mono λe w' ⟨a,b,c⟩=>⟨a,b,Ku (c.touch (Gg h q))⟩;unfold pkV at y;generalize R.fl[i]=p at *;clear h B
 go_enter func18,ntmps18
 go_wp2_with (first
  | (go_at_call 55;refine AC y.out ?_;rintro e D ⟨v,rfl,A,d⟩;obtain⟨G,H,rfl⟩:=C7 A;have F:=Aa d;have f:Hid (∀o,Bw w (D.alloc o)):=λo=>d.alloc d.size o;clear A d)
  | (go_at_call 56;refine(E.out _ (f.out _)).mono ?_;rintro e I ⟨rfl,s,g⟩;have C:=Aa s;have n:Hid _:=Md (f.out _) g;clear s g))
 go_ret;exact⟨rfl,C.out,n.out⟩
theorem iq(h:Ac lo w r bx bmx bs R)(k:Int)(f:k<0\/(R.fl.length:Int)<=k) :
    Cg 18 #[Pd r 0,I6 k] w (Rt w (.iface 30 (I6 2))):=by
 have g:Hid _:=Va h k f;clear h f
 go_enter func18,ntmps18
 go_wp2_with (go_at_call 55;refine AC g.out ?_;rintro e j ⟨rfl,a⟩;have m:=Aa a;have d:Hid (∀o,Bw w (j.alloc o)):=λo=>a.alloc a.size o;clear a)
 go_ret;exact⟨rfl,d.out _⟩
theorem iy(h:Ac lo w r bx bmx bs R){i:Nat}{p:Pk}(D:R.fl[i]?=some p)(f:R.lost<=1000000000000)(n:R.fl.length<=400) :
    Cg 20 #[Pd r 0,I6 (i:Int)] w λe w'=>e=.returned .nilIface/\Ac lo w' r bx bmx bs (Cm R p)/\sameBut w w' (El lo w bmx):=by
 have C:Hid _:=UZ h i D n;have A:Hid (∀j v,Bw w j->Ar lo j v p.x.op->Cg 51 #[Pd r 0,pkV p v] j λe w'=>e=.returned (.tuple #[])/\Ac lo w' r bx bmx bs (Cm R p)/\sameBut j w' (El lo j bmx)):=λj v t q=>(Qv (Gg h t) p v q f n).mono λe w' ⟨a,b,c⟩=>⟨a,b,Ku (c.touch (Gg h t))⟩;unfold pkV at C A;clear h D f
 go_enter func20,ntmps20
 go_wp2_with (first
  | (go_at_call 55;refine AC C.out ?_;rintro e y ⟨v,rfl,q,g⟩;obtain⟨F,H,rfl⟩:=C7 q;have G:=Aa g;have d:Hid (∀o,Bw w (y.alloc o)/\Ar lo (y.alloc o) (.slice F p.x.op.length H) p.x.op):=λo=>⟨g.alloc g.size o,Bt q (zA _ _)⟩;clear q g)
  | (go_at_call 51;refine(A.out _ _ (d.out _).1 (d.out _).2).mono ?_;rintro e I ⟨rfl,B,m⟩;have E:=Aa B;have s:Hid _:=Md (d.out _).1 m;clear B m))
 go_ret;exact⟨rfl,E.out,s.out⟩
theorem jW(h:Ac lo w r bx bmx bs R)(k:Int)(f:k<0\/(R.fl.length:Int)<=k) :
    Cg 20 #[Pd r 0,I6 k] w (Rt w (.iface 30 (I6 2))):=by
 have g:Hid _:=Va h k f;clear h f
 go_enter func20,ntmps20
 go_wp2_with (go_at_call 55;refine AC g.out ?_;rintro e j ⟨rfl,a⟩;have m:=Aa a;have d:Hid (∀o,Bw w (j.alloc o)):=λo=>a.alloc a.size o;clear a)
 go_ret;exact⟨rfl,d.out _⟩
end
section
attribute [local go_sem] Oper.semAt_some Dz Dl
variable {lo bmx : Nat}{w : World}{R : Rm}
theorem So(R:Rm)(p:Pk)(h:R.fl.length<=400):(Cm R p).lost<=R.lost+1/\(Cm R p).fl.length<=400:=by
 unfold Cm
 split
 . exact⟨Ai _,h⟩
 . exact⟨BX _,by show(R.fl++[p]).length<=400;rw[AA,DN];omega⟩
theorem YG(k:Nat):∀(g:List SE)(f:Int)(R:Rm),R.fl.length<=400->(tellL k f g R).lost<=R.lost+g.length/\(tellL k f g R).fl.length<=400
 | [],_,_,h=>⟨Ai _,h⟩
 | x :: g,f,R,h=>by
  obtain⟨a,b⟩:=So R ⟨3,k,f,0,x⟩ h;obtain⟨c,d⟩:=YG k g (f+1) _ b;rw[AJ];exact⟨by show(tellL k (f+1) g (Cm R ⟨3,k,f,0,x⟩)).lost<=_;omega,d⟩
theorem Lg{base:Nat}{w':World}{g:Value}{E:List SE}(h:Fa 109 lo base w g E)(m:sameBut w w' (Te lo w)):Fa 109 lo base w' g E :=
 Kc h m λk ⟨a,p,T,j,f⟩=>⟨a,C6 j (by rcases f with rfl|rfl<;>decide),λn q d=>by
  have:=Cx j d;subst this
  rcases f with e|e<;>revert e<;>decide⟩
theorem MS{d j:World}(h:sameBut w d (El lo w bmx))(n:sameBut d j (El lo d bmx)):sameBut w j (El lo w bmx):=h.comp n λk p e=>by
 by_cases f:El lo w bmx k
 . exact f
 . obtain ⟨a,e | ⟨m,T,g,q⟩⟩:=e
   . exact absurd ⟨a,.inl e⟩ f
   . rw[h.2 k p f]at g
     exact⟨a,.inr ⟨m,T,g,q⟩⟩
theorem eO{k:Nat}{f:Int}{a:List SE}{R':Rm}{i:Nat}{x:SE}(h:tellL k (f+(i:Int)) (a.drop i) R'=tellL k f a R)(d:a[i]?=some x):tellL k (f+((i+1:Nat):Int)) (a.drop (i+1)) (Cm R' ⟨3,k,f+(i:Int),0,x⟩)=tellL k f a R:=by
 have g:i<a.length:=(De d);rw[BK g]at h;rw[B7 g]at d;rw[Bq d]at h;rw[←h,show f+((i+1:Nat):Int)=f+(i:Int)+1 by omega];rfl
theorem XW{r bx:Nat}{bs:List Nat}{l0:Int}(h:Ac lo w r bx bmx bs R)(C:Gz l0 R.t R.E)(hE:R.E.length<=300)(K m:Nat)(hm:m<=R.E.length)(d:R.lost<=100000000000)(D:R.fl.length<=400) :
    Cg 90 #[Pd r 0,I6 (K:Int),I6 (m:Int)] w λe w'=>e=.returned (.tuple #[])/\Ac lo w' r bx bmx bs (tellR R K (m:Int))/\keptF w w' r:=by
 have Z:lo<=w.heap.size:=CW (DV h.low (Ig h));have CL:Hid _:=eG h.srv C m hm (by omega);have HT:Hid (tellR R K (m:Int)=tellL K (m:Int) (R.E.drop m) R):=by
  show tellR R K (m:Int)=_;unfold tellR;rw[if_neg (by omega),EC]
 have L:Hid (∀A,Bw w A->Ac lo A r bx bmx bs R):=λA hb=>Gg h hb;have x0:w.cell? (Ad r 0)=some (Pd bx 0):=by
  obtain⟨pc,cc,pf,cf,H,_⟩:=Kj h;exact Az H 0
 obtain⟨a,p⟩:∃a,R.E.drop m=a:=⟨_,rfl⟩;have hxl:a.length<=300:=by rw[←p,AM];omega
 rw[p]at CL HT;have hm1:(m:Int)<=300:=by omega
 have hxi:(a.length:Int)<=300:=by omega
 have s:=Aa d;have HRL:=Aa (Ig h);have X:=Aa D;clear h C hE hm d D p Z;rw[HT.out]
 go_enter func90,ntmps90
 go_wp2_with (go_at_call 123;refine AC CL.out ?_;rintro e A ⟨v1,rfl,n,t⟩;obtain⟨pl,cl,rfl⟩:=Io n;have Q:=Aa n;have f:=Aa t;clear n t)
 go_loopw [21] (λi wr=>∃k:Nat,i=.int .i64 k/\k<=a.length/\∃R',tellL K ((m:Int)+(k:Int)) (a.drop k) R'=tellL K (m:Int) a R/\Ac lo wr r bx bmx bs R'/\keptF A wr r/\R'.lost<=R.lost+k/\R'.fl.length<=400) (λi _=>a.length - (intOf i).toNat)
 case atStart=>exact⟨0,rfl,AV _,R,by simp,L.out _ f.out,Ip (Ig (L.out _ f.out)) (A9 _ _),Ai _,X.out⟩
 case round =>
  obtain⟨k,rfl,hk,R',e1,e2,e3,e4,e5⟩:=hrel;have E1:=Aa e1;have Y:=Aa e2;have J:=Aa e3;have I:Hid (R'.lost<=R.lost+k/\R'.fl.length<=400):=⟨e4,e5⟩;have hki:(k:Int)<=300:=by omega
  clear e1 e2 e3 e4 e5
  by_cases j:k<a.length
  . have W:a[k]?=some a[k]:=B7 j
    have E:a≠[]:=by intro e;rw[e]at j;exact absurd j (AP _)
    have F:=Lg Q.out (keptF.touch J.out (L.out _ f.out));obtain⟨g,rfl,hgl,_,N,O,B⟩:=Qg F E;obtain⟨vx,a0,a1,a2,q⟩:=B k _ W;obtain⟨pv,cv,rfl⟩:=C7 q;have HX:=Aa W;generalize a[k]=x at *;have P:=Aa q;have hwr:wrap64 ((m:Int)+(k:Int))=(m:Int)+(k:Int):=E0 (by omega) (by omega);have G:(k:Int)<(a.length:Int):=by omega
    have CS:Hid (∀o,Cg 51 #[Pd r 0,pkV ⟨3,K,(m:Int)+(k:Int),0,x⟩ (.slice pv x.op.length cv)] (wr.alloc o) λe w'=>e=.returned (.tuple #[])/\Ac lo w' r bx bmx bs (Cm R' ⟨3,K,(m:Int)+(k:Int),0,x⟩)/\keptF (wr.alloc o) w' r):=λo=>Qv (Gg Y.out ((A9 _ _).alloc (Ai _) o)) _ _ (Bt P.out ((A9 _ _).alloc (Ai _) o)) (by have:=I.out.1;have:=s.out;omega) I.out.2;unfold pkV at CS;clear B q W F E N O
    go_wp2_with (go_at_call 51;refine(CS.out _).mono ?_;rintro e w2 ⟨rfl,H,y⟩;have H2:=Aa H;have HS2:Hid _:=keptF.trans (keptF.trans J.out (Ip (Ig Y.out) (zA _ _))) y;clear H y)
    go_roundw
    case rel =>
     obtain⟨s1,s2⟩:=So R' ⟨3,K,(m:Int)+(k:Int),0,x⟩ I.out.2;exact⟨k+1,by go_num,by omega,_,eO E1.out HX.out,H2.out,HS2.out,by have:=I.out.1;omega,s2⟩
    case measure=>simp[intOf];omega
  . obtain rfl:k=a.length:=by omega
    have G:¬((a.length:Int)<(a.length:Int)):=by omega
    go_wp2;go_end0;have e:=E1.out;rw[List.drop_length]at e;rw[←e];exact⟨rfl,Y.out,keptF.trans (Ip HRL.out f.out) J.out⟩
end
section
attribute [local go_sem] Oper.semAt_some Dz Dl
variable {lo bmx r bx : Nat}{w w' : World}{bs : List Nat}{R : Rm}{l0 n : Int}{D : List (List UInt8)}
structure Env (lo:Nat) (w:World):Prop where
 lay:F6 w
 tabs:Lib.Utf8Tabs 1 2 w
 g1:0<lo
 g2:1<lo/\2<lo
theorem Env.below(h:Env lo w)(a:Bw w w'):Env lo w':=⟨OS h.lay a,Go.Proofs.Utf8Tabs_below h.tabs a,h.g1,h.g2⟩
theorem Env.same{lo:Nat}{w w':World}{X:Nat->Prop}(h:Env lo w)(d:sameBut w w' X)(a:∀k,X k->lo<=k):Env lo w' :=
 ⟨ZL h.lay d λe=>absurd (a _ e) (Nat.not_le.2 h.g1),Sq h.tabs d (λe=>absurd (a _ e) (Nat.not_le.2 h.g2.1)) λe=>absurd (a _ e) (Nat.not_le.2 h.g2.2),h.g1,h.g2⟩
theorem Env.room(h:Env lo w)(a:sameBut w w' (El lo w bmx)):Env lo w':=h.same a λk e=>e.1
theorem Qu{x:List Pt}{t:List UInt8}(h:good x t)(d:t.length<=10000)(f:Al x<=10000):(∀p∈x,Cp p)/\x.length<=20000:=by
 refine⟨h.wf (by omega),?_⟩;have a:=Rk x h.one;rw[h.wt]at a;omega
structure ZB (r β g:Nat) (Br Bβ Bg:Obj) (wx:World):Prop where
 b1:wx.heap[r]?=some Br
 b2:wx.heap[β]?=some Bβ
 b3:wx.heap[g]?=some Bg
theorem ZB.grow{β g:Nat}{f a j:Obj}(h:ZB r β g f a j w)(d:Bw w w'):ZB r β g f a j w' :=
 ⟨(d.block r (As h.b1)).trans h.b1,(d.block β (As h.b2)).trans h.b2,(d.block g (As h.b3)).trans h.b3⟩
theorem ZB.same{r β g:Nat}{j a f:Obj}{w w':World}{X:Nat->Prop}(h:ZB r β g j a f w)(d:sameBut w w' X)(p:¬X r)(q:¬X β)(m:¬X g):ZB r β g j a f w' :=
 ⟨(d.2 r (As h.b1) p).trans h.b1,(d.2 β (As h.b2) q).trans h.b2,(d.2 g (As h.b3) m).trans h.b3⟩
theorem Q8(h:Ac lo w r bx bmx bs R)(p:Pk){d:Option Addr}{a:Nat}(g:Ar lo w (.slice d p.x.op.length a) p.x.op) :
    Ac lo (w.alloc (Oc #[I6 p.kind,I6 (p.c:Int),I6 p.rev,I6 p.id,I6 p.x.c,I6 p.x.i,.slice d p.x.op.length a] 111)) r bx bmx bs R/\Ar lo (w.alloc (Oc #[I6 p.kind,I6 (p.c:Int),I6 p.rev,I6 p.id,I6 p.x.c,I6 p.x.i,.slice d p.x.op.length a] 111)) (.slice d p.x.op.length a) p.x.op /\
     Bw w (w.alloc (Oc #[I6 p.kind,I6 (p.c:Int),I6 p.rev,I6 p.id,I6 p.x.c,I6 p.x.i,.slice d p.x.op.length a] 111))/\(w.alloc (Oc #[I6 p.kind,I6 (p.c:Int),I6 p.rev,I6 p.id,I6 p.x.c,I6 p.x.i,.slice d p.x.op.length a] 111)).heap[w.heap.size]?=some (Oc #[I6 p.kind,I6 (p.c:Int),I6 p.rev,I6 p.id,I6 p.x.c,I6 p.x.i,.slice d p.x.op.length a] 111):=by
 have f:Bw w (w.alloc (Oc #[I6 p.kind,I6 (p.c:Int),I6 p.rev,I6 p.id,I6 p.x.c,I6 p.x.i,.slice d p.x.op.length a] 111)):=zA _ _;exact⟨Gg h f,Bt g f,f,heap_alloc_new _ _⟩
theorem NG(h:Ac lo w r bx bmx bs R){k:Nat}(d:k<R.cl.length):∃b,bs[k]?=some b/\Bf lo w b (k:Int) (Bo R k).1 (Bo R k).2:=by
 have a:k<bs.length:=by rw[h.cls.len];exact d
 refine⟨bs[k],B7 a,h.cls.each k _ _ (B7 a) ?_⟩;unfold Bo;rw[B7 d];rfl
theorem VK{f:Option Addr}{t k b:Nat}(h:w.ownsRow lo 47 1 (.slice f bs.length t) bs.length (Ef bs))(d:bs[k]?=some b):∃g a,f=some (Ad g 0)/\w.heap[g]?=some (Oc a 47)/\a[k]?=some (Pd b 0):=by
 have j:k<bs.length:=(De d)
 rcases h.2 with ⟨_,p⟩|⟨g,s,a,e,A,q,C,E,B,y⟩
 . rw[p]at j;exact absurd j (AP _)
 . injection e with e1 _ _
   refine⟨g,a,e1,q,?_⟩;have m:=congrArg (·[k]?) y;simp only[DU,show k<bs.length*1 by omega,if_true,T4 d]at m;rw[←CE];exact m
theorem Inv.counts(h:Inv l0 n D R)(a:Ap R<=10000000000):R.lost<=10000000000/\R.n<=10000000000/\R.fl.length<=400:=by
 unfold Ap at a;exact⟨by omega,by omega,h.room⟩
theorem kF(h:Ac lo w r bx bmx bs R)(j:Inv l0 n D R)(p:Pk)(B:okPk R.E D R.cl.length p)(P:p.kind=2)(v:Value)(y:Ar lo w v p.x.op)(d:Ap R<=10000000000) :
    Cg 57 #[Pd r 0,pkV p v] w λe w'=>e=.returned (.tuple #[])/\Ac lo w' r bx bmx bs (tellR R p.c p.rev)/\sameBut w w' (El lo w bmx):=by
 obtain⟨W,X,rfl⟩:=C7 y;obtain⟨O,K,q,H⟩:=Q8 h p y;obtain⟨Q,N,E⟩:=j.counts d;obtain⟨m,t⟩:∃m:Nat,p.rev=(m:Int):=⟨p.rev.toNat,by have:=B.rev.1;omega⟩;have f:m<=R.E.length:=by have:=B.rev.2;omega
 have L:Hid (∀s,Bw w s->Cg 90 #[Pd r 0,I6 (p.c:Int),I6 (m:Int)] s λe w'=>e=.returned (.tuple #[])/\Ac lo w' r bx bmx bs (tellR R p.c p.rev)/\sameBut w w' (El lo w bmx)):=λs C=>by
  have F:=Gg h C;refine(XW F j.srv j.few p.c m f (by omega) E).mono ?_;rintro e w' ⟨rfl,a,b⟩;exact⟨rfl,by rw[t];exact a,Md C (Ku (b.touch F))⟩
 have I:=Aa q;rw[t]at q H I;unfold pkV;rw[t,P]at *;generalize p.c=a1 at *;generalize p.id=a3 at *;generalize p.x.c=a4 at *;generalize p.x.i=a5 at *;generalize p.x.op.length=a6 at *;clear h j B y O K q H d Q N E f
 go_enter func57,ntmps57
 go_wp2_with (go_at_call 90;refine(L.out _ I.out).mono ?_;rintro e Y ⟨rfl,G,g⟩;have J:=Aa G;have A:=Aa g;clear G g)
 go_end0;exact⟨rfl,J.out,A.out⟩
theorem kG(W:Env lo w)(h:Ac lo w r bx bmx bs R)(H:Inv l0 n D R)(hn:n<=100000)(p:Pk)(O:okPk R.E D R.cl.length p)(hk:p.kind=3)(v:Value)(E:Ar lo w v p.x.op)(hbl:bs.length<=1000) :
    Cg 57 #[Pd r 0,pkV p v] w λe w'=>e=.returned (.tuple #[])/\Ac lo w' r bx bmx bs (setC R p.c (Fm (p.c:Int) (Bo R p.c).2 p.rev p.x.c p.x.i p.x.op))/\sameBut w w' (El lo w bmx):=by
 obtain⟨F,I,rfl⟩:=C7 E;obtain⟨g1,g2,g3,g4⟩:=Q8 h p E;obtain⟨b,J,_⟩:=NG h O.c;obtain⟨pc,cc,pf,cf,h2,h3,_⟩:=Kj h;obtain⟨g,j,rfl,hg,C⟩:=VK h3 J;obtain⟨_,f⟩:=H.clk O.c;have hsm:=f.small H.lk;have hrl:=f.revle H.lk;have hE:=H.few;have hpx:=H.lk.puts (O.told hk);obtain⟨d,hd,_,hdl⟩:=H.lk.at_ (i:=p.rev.toNat) (by have:=O.rev;omega);obtain⟨hgd,_⟩:=H.lk.link _ _ _ (O.told hk) hd;obtain⟨Y,hxl⟩:=Qu hgd (by omega) (by omega)
 have CC:Hid (∀t,Bw w t->Cg 91 #[Pd b 0,I6 p.rev,.agg #[I6 p.x.c,I6 p.x.i,.slice F p.x.op.length I]] t λe w'=>∃u,e=.returned u/\Ac lo w' r bx bmx bs (setC R p.c (Fm (p.c:Int) (Bo R p.c).2 p.rev p.x.c p.x.i p.x.op))/\sameBut w w' (El lo w bmx)/\∀β,w.heap.size<=β->ZB r β g (Oc #[Pd bx 0,Sl g bs.length cc,.slice pf R.fl.length cf,I6 (R.lost:Int)] 78) (Oc #[I6 p.kind,I6 (p.c:Int),I6 p.rev,I6 p.id,I6 p.x.c,I6 p.x.i,.slice F p.x.op.length I] 111) (Oc j 47) t->ZB r β g (Oc #[Pd bx 0,Sl g bs.length cc,.slice pf R.fl.length cf,I6 (R.lost:Int)] 78) (Oc #[I6 p.kind,I6 (p.c:Int),I6 p.rev,I6 p.id,I6 p.x.c,I6 p.x.i,.slice F p.x.op.length I] 111) (Oc j 47) w'):=λt B=>by
  have hr:=Gg h B;have W:=W.below B;have E:=Bt E B;obtain⟨b',hb',hc⟩:=NG hr O.c;rw[J]at hb';obtain rfl:=Bq hb';refine AC (gU hc f.ok f.unit p.rev p.x.c p.x.i (.slice F p.x.op.length I) p.x.op (Bt E (A9 _ _)) Y (by omega) (by omega) (by omega) ⟨f.id.1,by have:=f.id.2;split at this<;>omega⟩ ⟨f.rev,by omega⟩ W.g2 W.tabs) ?_;rintro e w' ⟨rfl,a,c⟩;obtain⟨i1,i2⟩:=Vd hr J a c;have no:∀x cs T fz,t.heap[x]?=some (.cells cs T fz)->T≠95->T≠37->¬Dv t b x:=λx cs T fz E t1 t2 ho=>by
   obtain⟨_,_,cs',T',hc',hT⟩:=Kt hc ho;have:=Cx E hc';subst this
   rcases hT with e|e
   . exact t1 e
   . exact t2 e
  exact⟨_,rfl,i1,Md B i2,λβ _ P=>P.same c.1 (no _ _ _ _ P.b1 (by decide) (by decide)) (no _ _ _ _ P.b2 (by decide) (by decide)) (no _ _ _ _ P.b3 (by decide) (by decide))⟩
 have HB:=Aa g3
 have HZ:Hid (ZB r w.heap.size g (Oc #[Pd bx 0,Sl g bs.length cc,.slice pf R.fl.length cf,I6 (R.lost:Int)] 78) (Oc #[I6 p.kind,I6 (p.c:Int),I6 p.rev,I6 p.id,I6 p.x.c,I6 p.x.i,.slice F p.x.op.length I] 111) (Oc j 47) (w.alloc (Oc #[I6 p.kind,I6 (p.c:Int),I6 p.rev,I6 p.id,I6 p.x.c,I6 p.x.i,.slice F p.x.op.length I] 111))) :=
  ⟨(g3.block r (Ig h)).trans h2,g4,(g3.block g (As hg)).trans hg⟩
 have hkb:p.c<bs.length:=(De J);have hki:(p.c:Int)<(bs.length:Int):=by omega
 have hbi:(bs.length:Int)<=1000:=by omega
 unfold pkV;rw[hk]at *;obtain⟨β,L⟩:∃β,w.heap.size=β:=⟨_,rfl⟩;have HBT:Hid (w.heap.size=β):=L;rw[L]at HZ;generalize hR':setC R p.c (Fm (p.c:Int) (Bo R p.c).2 p.rev p.x.c p.x.i p.x.op)=R' at *;generalize p.c=a1 at *;generalize p.rev=a2 at *;generalize p.id=a3 at *;generalize p.x.c=a4 at *;generalize p.x.i=a5 at *;generalize p.x.op.length=a6 at *;generalize R.fl.length=a7 at *;generalize (R.lost:Int)=a8 at *;have HCUR:Hid (j[a1]?=some (Pd b 0)):=C;clear h H O E g1 g2 g3 g4 h2 h3 hg C f hsm hrl hE W J hR' L hpx hd hdl hgd Y hxl
 go_enter func57,ntmps57
 go_wp2;refine Kh (λt:World=>ZB r β g (Oc #[Pd bx 0,Sl g bs.length cc,.slice pf a7 cf,I6 a8] 78) (Oc #[I6 3,I6 (a1:Int),I6 a2,I6 a3,I6 a4,I6 a5,.slice F a6 I] 111) (Oc j 47) t) 13 13 (by kernel_rfl) rfl ?_;intro w30 q;have A:=HZ.out.grow q;have N:=HB.out.trans (q.mono HB.out.size);obtain⟨G,s⟩:=JC (Z:=λt:World=>ZB r β g (Oc #[Pd bx 0,Sl g bs.length cc,.slice pf a7 cf,I6 a8] 78) (Oc #[I6 3,I6 (a1:Int),I6 a2,I6 a3,I6 a4,I6 a5,.slice F a6 I] 111) (Oc j 47) t) A (λ{w w'} h J=>ZB.grow h J);have y1:=λy=>cQ (s.but y).b1 1 rfl;have yg:∀y,(G y).cell? (Ad g a1)=some (Pd b 0):=λy=>(Az (s.but y).b3 a1).trans HCUR.out;have c1:=λy=>cQ (s.but y).b2 1 rfl;have c2:=λy=>cQ (s.but y).b2 2 rfl;have c3:=λy=>cQ (s.but y).b2 3 rfl;have c4:=λy=>cQ (s.but y).b2 4 rfl;have c5:=λy=>cQ (s.but y).b2 5 rfl;have c6:=λy=>cQ (s.but y).b2 6 rfl;rw[HBT.out];(iterate 12 (refine ay s A λ_ k=>?_;go_simp;apply k;clear k));clear y1 yg c1 c2 c3 c4 c5 c6 s;refine aO 12 ⟨_,rfl,?_⟩;intro w31 m K hK;have hz2:=A.grow m;have hbB:=N.trans (m.mono N.size)
 go_simp
 refine(CC.out w31 hbB).mono ?_;rintro e w2 ⟨u,rfl,h2,Q,hzz⟩;refine⟨_,rfl,hK _ _ (λP=>hzz β (DZ HBT.out) P) ?_⟩;have H2:=Aa h2;have HS2:=Aa Q;clear hK K A hz2 N hbB q m h2 Q hzz;refine ae ?_;intro w3 X;have HB3:=Aa X;clear X;go_wp2;go_end0;exact⟨rfl,Gg H2.out HB3.out,OU HS2.out HB3.out⟩
theorem ls(he:Env lo w)(h:Ac lo w r bx bmx bs R)(P:Inv l0 n D R)(hn:n<=100000)(p:Pk)(hp:okPk R.E D R.cl.length p)(hk:p.kind=4)(v:Value)(E:Ar lo w v p.x.op)(hbl:bs.length<=1000) :
    Cg 57 #[Pd r 0,pkV p v] w λe w'=>e=.returned (.tuple #[])/\Ac lo w' r bx bmx bs (setC R p.c (Fh (Bo R p.c).2 p.id))/\sameBut w w' (El lo w bmx):=by
 obtain⟨I,L,rfl⟩:=C7 E;obtain⟨g1,g2,g3,g4⟩:=Q8 h p E;obtain⟨b,C,_⟩:=NG h hp.c;obtain⟨pc,cc,pf,W,h2,h3,_⟩:=Kj h;obtain⟨g,d,rfl,hg,B⟩:=VK h3 C;obtain⟨_,f⟩:=P.clk hp.c;have hsm:=f.small P.lk;have hrl:=f.revle P.lk;have hE:=P.few
 have CC:Hid (∀s,Bw w s->Cg 92 #[Pd b 0,I6 p.id] s λe w'=>e=.returned (.tuple #[])/\Ac lo w' r bx bmx bs (setC R p.c (Fh (Bo R p.c).2 p.id))/\sameBut w w' (El lo w bmx)/\∀β,w.heap.size<=β->ZB r β g (Oc #[Pd bx 0,Sl g bs.length cc,.slice pf R.fl.length W,I6 (R.lost:Int)] 78) (Oc #[I6 p.kind,I6 (p.c:Int),I6 p.rev,I6 p.id,I6 p.x.c,I6 p.x.i,.slice I p.x.op.length L] 111) (Oc d 47) s->ZB r β g (Oc #[Pd bx 0,Sl g bs.length cc,.slice pf R.fl.length W,I6 (R.lost:Int)] 78) (Oc #[I6 p.kind,I6 (p.c:Int),I6 p.rev,I6 p.id,I6 p.x.c,I6 p.x.i,.slice I p.x.op.length L] 111) (Oc d 47) w'):=λs A=>by
  have hr:=Gg h A;have he:=he.below A;have E:=Bt E A;obtain⟨b',hb',hc⟩:=NG hr hp.c;rw[C]at hb';obtain rfl:=Bq hb';refine AC (kf hc p.id ⟨f.dr.1,by have:=f.dr.2;have:=f.id.2;split at this<;>split at *<;>omega⟩) ?_;rintro e w' ⟨rfl,a,c⟩;obtain⟨i1,i2⟩:=Vd hr C a c;have no:∀x cs T fz,s.heap[x]?=some (.cells cs T fz)->T≠95->T≠37->¬Dv s b x:=λx cs T fz E t1 t2 ho=>by
   obtain⟨_,_,cs',T',hc',hT⟩:=Kt hc ho;have:=Cx E hc';subst this
   rcases hT with e|e
   . exact t1 e
   . exact t2 e
  exact⟨rfl,i1,Md A i2,λβ _ J=>J.same c.1 (no _ _ _ _ J.b1 (by decide) (by decide)) (no _ _ _ _ J.b2 (by decide) (by decide)) (no _ _ _ _ J.b3 (by decide) (by decide))⟩
 have HB:=Aa g3
 have HZ:Hid (ZB r w.heap.size g (Oc #[Pd bx 0,Sl g bs.length cc,.slice pf R.fl.length W,I6 (R.lost:Int)] 78) (Oc #[I6 p.kind,I6 (p.c:Int),I6 p.rev,I6 p.id,I6 p.x.c,I6 p.x.i,.slice I p.x.op.length L] 111) (Oc d 47) (w.alloc (Oc #[I6 p.kind,I6 (p.c:Int),I6 p.rev,I6 p.id,I6 p.x.c,I6 p.x.i,.slice I p.x.op.length L] 111))) :=
  ⟨(g3.block r (Ig h)).trans h2,g4,(g3.block g (As hg)).trans hg⟩
 have hkb:p.c<bs.length:=(De C);have hki:(p.c:Int)<(bs.length:Int):=by omega
 have hbi:(bs.length:Int)<=1000:=by omega
 unfold pkV;rw[hk]at *;obtain⟨β,F⟩:∃β,w.heap.size=β:=⟨_,rfl⟩;have HBT:Hid (w.heap.size=β):=F;rw[F]at HZ;generalize hR':setC R p.c (Fh (Bo R p.c).2 p.id)=R' at *;generalize p.c=a1 at *;generalize p.rev=a2 at *;generalize p.id=a3 at *;generalize p.x.c=a4 at *;generalize p.x.i=a5 at *;generalize p.x.op.length=a6 at *;generalize R.fl.length=a7 at *;generalize (R.lost:Int)=a8 at *;have HCUR:Hid (d[a1]?=some (Pd b 0)):=B;clear h P hp E g1 g2 g3 g4 h2 h3 hg B f hsm hrl hE he C hR' F
 go_enter func57,ntmps57
 go_wp2;refine Kh (λs:World=>ZB r β g (Oc #[Pd bx 0,Sl g bs.length cc,.slice pf a7 W,I6 a8] 78) (Oc #[I6 4,I6 (a1:Int),I6 a2,I6 a3,I6 a4,I6 a5,.slice I a6 L] 111) (Oc d 47) s) 11 11 (by kernel_rfl) rfl ?_;intro w30 m;have t:=HZ.out.grow m;have H:=HB.out.trans (m.mono HB.out.size);obtain⟨G,q⟩:=JC (Z:=λs:World=>ZB r β g (Oc #[Pd bx 0,Sl g bs.length cc,.slice pf a7 W,I6 a8] 78) (Oc #[I6 4,I6 (a1:Int),I6 a2,I6 a3,I6 a4,I6 a5,.slice I a6 L] 111) (Oc d 47) s) t (λ{w w'} h C=>ZB.grow h C);have y1:=λy=>cQ (q.but y).b1 1 rfl;have yg:∀y,(G y).cell? (Ad g a1)=some (Pd b 0):=λy=>(Az (q.but y).b3 a1).trans HCUR.out;have c1:=λy=>cQ (q.but y).b2 1 rfl;have c2:=λy=>cQ (q.but y).b2 2 rfl;have c3:=λy=>cQ (q.but y).b2 3 rfl;have c4:=λy=>cQ (q.but y).b2 4 rfl;have c5:=λy=>cQ (q.but y).b2 5 rfl;have c6:=λy=>cQ (q.but y).b2 6 rfl;rw[HBT.out];(iterate 10 (refine ay q t λ_ k=>?_;go_simp;apply k;clear k));clear y1 yg c1 c2 c3 c4 c5 c6 q;refine aO 10 ⟨_,rfl,?_⟩;intro w31 j K hK;have hz2:=t.grow j;have Q:=H.trans (j.mono H.size)
 go_simp
 refine(CC.out w31 Q).mono ?_;rintro e w2 ⟨rfl,h2,N,X⟩;refine⟨_,rfl,hK _ _ (λJ=>X β (DZ HBT.out) J) ?_⟩;have H2:=Aa h2;have HS2:=Aa N;clear hK K t hz2 H Q m j h2 N X;refine ae ?_;intro w3 O;have Y:=Aa O;clear O;go_wp2;go_end0;exact⟨rfl,Gg H2.out Y.out,OU HS2.out Y.out⟩
end
section
attribute [local go_sem] Oper.semAt_some Dz Dl
variable {lo r bx bmx : Nat}{w : World}{bs : List Nat}{D : List (List UInt8)}{R : Rm}
theorem i7(h:Ay lo w r bx bmx bs D R){i:Nat}{p:Pk}(y:R.fl[i]?=some p)(a:R.lost<=1000000000000)(m:R.fl.length<=400) :
    Cg 19 #[Pd r 0,I6 (i:Int)] w λe w'=>e=.returned (.tuple #[])/\Ay lo w' r bx bmx bs D (Cm R p)/\keptF w w' r:=by
 obtain⟨pc,cc,pf,cf,E,I,C⟩:=Ht h;have F:i<R.fl.length:=(De y);have q:R.fl≠[]:=λe=>by rw[e]at F;exact absurd F (AP _)
 obtain⟨g,rfl,t,_,_,_,f⟩:=Rv C q;obtain⟨Y,K,L,P,X,Q,N,a6,d⟩:=f i p y;obtain⟨Z,cv,rfl⟩:=C7 d;have A:Hid _:=OH h p _ d a m;have W:=cQ E 2 rfl;have G:(i:Int)<(R.fl.length:Int):=by omega
 have J:(R.fl.length:Int)<=400:=by omega
 unfold pkV at A;generalize R.fl.length=n at *;generalize Cm R p=R' at *;clear h E I C y q f d t a m
 go_enter func19,ntmps19
 go_wp2_with (go_at_call 49;refine AC A.out ?_;rintro e O ⟨rfl,B,j⟩;have H:=Aa B;have s:=Aa j;clear B j)
 go_end0;exact⟨rfl,H.out,s.out⟩
theorem XO{l0 n:Int}{D0:List (List UInt8)}(h:Ay lo w r bx bmx bs D R)(hi:Inv l0 n D0 R){k:Nat}(hk:k<R.cl.length)(f:R.lost<=1000000000000)(hbl:bs.length<=1000) :
    Cg 13 #[Pd r 0,I6 (k:Int)] w λe w'=>e=.returned (.tuple #[])/\Ay lo w' r bx bmx bs D (sendC R k)/\keptF w w' r:=by
 obtain⟨y,Z,hc⟩:=L4 h hk;obtain⟨pc,cc,pf,cf,N,h3,h4⟩:=Ht h;obtain⟨g,rfl,hgc⟩:=N6 h3 Z;obtain⟨hlo,v1,v2,j,s,hv2⟩:=id hc;obtain⟨J,O,rfl⟩:=C7 s;have B:=hi.room;have x1:=cQ N 1 rfl;have y4:w.cell? (Ad y 4)=some (I6 (Bo R k).2.rev):=Az j 4;have y5:w.cell? (Ad y 5)=some (I6 (Bo R k).2.id):=Az j 5;have y6:w.cell? (Ad y 6)=some (.slice J (B8 (Bo R k).2 0).length O):=Az j 6;have y8:w.cell? (Ad y 8)=some (.bool (decide (1<=(Bo R k).2.mine.length))):=Az j 8;have hkb:k<bs.length:=(De Z);have hk1:(k:Int)<(bs.length:Int):=by omega
 have hk2:(bs.length:Int)<=1000:=by omega
 by_cases I:(Bo R k).2.mine=[]
 . have ha:Et R k=⟨2,k,(Bo R k).2.rev,0,Gp⟩:=by unfold Et;rw[if_pos I]
   have Q:decide (1<=(Bo R k).2.mine.length)=false:=by rw[I];rfl
   rw[Q]at y8;have F:Hid _:=OH h ⟨2,k,(Bo R k).2.rev,0,Gp⟩ (.slice none 0 0) (Ev (Ik 0 w)) f B;unfold sendC;rw[ha];unfold pkV Gp at F;unfold Gp;generalize Cm R _=R' at *;generalize (Bo R k).2.rev=rv at *;clear h hi hk hc N h3 h4 j s hv2 y5 y6 I ha Q f B Z hlo
   go_enter func13,ntmps13
   go_wp2_with (go_at_call 49;refine AC F.out ?_;rintro e w1 ⟨rfl,h1,W⟩;have H1:=Aa h1;have HS1:=Aa W;clear h1 W)
   go_end0;exact⟨rfl,H1.out,HS1.out⟩
 . have ha:Et R k=⟨1,k,(Bo R k).2.rev,(Bo R k).2.id,⟨k,(Bo R k).2.id,Eb (Bo R k).2⟩⟩:=by unfold Et;rw[if_neg I]
   have Q:decide (1<=(Bo R k).2.mine.length)=true:=decide_eq_true (List.length_pos_iff.2 I);rw[Q]at y8;have hh:B8 (Bo R k).2 0=Eb (Bo R k).2:=by
    unfold B8 Eb
    rcases (Bo R k).2.mine with _|⟨m,ms⟩<;>rfl
   rw[hh]at s y6;have F:Hid (∀H,Bw w H->Cg 49 #[Pd r 0,pkV ⟨1,k,(Bo R k).2.rev,(Bo R k).2.id,⟨k,(Bo R k).2.id,Eb (Bo R k).2⟩⟩ (.slice J (Eb (Bo R k).2).length O)] H λe w'=>e=.returned (.tuple #[])/\Ay lo w' r bx bmx bs D (sendC R k)/\keptF w w' r/\∀L:List (Addr×Value),(∀q∈L,q.1.block=y)->ZK L H->ZK L w'):=λH E=>by
    have hr:=Ii h E;refine(OH hr ⟨1,k,(Bo R k).2.rev,(Bo R k).2.id,⟨k,(Bo R k).2.id,Eb (Bo R k).2⟩⟩ _ (Bt s E) f B).mono ?_;rintro e w' ⟨rfl,a,c⟩;refine⟨rfl,?_,(Ip (Fu h) E).trans c,λL hL hz=>ll hr Z c hL hz⟩;unfold sendC;rw[ha];exact a
   unfold pkV at F;simp only at F;have HZ:Hid (ZK [(((Ad y 4):Addr),I6 (Bo R k).2.rev),(((Ad y 5):Addr),I6 (Bo R k).2.id),(((Ad y 6):Addr),.slice J (Eb (Bo R k).2).length O)] w):=.cons y4 (.cons y5 (.cons y6 (.nil w)));have HF:Hid (∀w' A,Ay lo w' r bx bmx bs D (sendC R k)->keptF w w' r->Bw w' A->Ay lo A r bx bmx bs D (sendC R k)/\keptF w A r):=λw' A a c E=>⟨Ii a E,c.trans (Ip (Fu a) E)⟩;generalize sendC R k=R' at *;generalize (Bo R k).2.rev=rv at *;generalize (Bo R k).2.id=ii at *;generalize (Eb (Bo R k).2).length=nv at *;clear h hi hk hc N h3 h4 j s hv2 y4 y5 y6 I ha Q hh f B Z hlo
   go_enter func13,ntmps13
   go_wp2;refine wz (λH:World=>ZK [(((Ad y 4):Addr),I6 rv),(((Ad y 5):Addr),I6 ii),(((Ad y 6):Addr),.slice J nv O)] H) 22 HZ.out ZK.grow λw30 p X G hG=>?_;have q0:∀t,(G t).cell? ((Ad y 4):Addr)=some (I6 rv):=λt=>hG.but t (((Ad y 4):Addr),I6 rv) (by simp);have q1:∀t,(G t).cell? ((Ad y 5):Addr)=some (I6 ii):=λt=>hG.but t (((Ad y 5):Addr),I6 ii) (by simp);have q2:∀t,(G t).cell? ((Ad y 6):Addr)=some (.slice J nv O):=λt=>hG.but t (((Ad y 6):Addr),.slice J nv O) (by simp);(iterate 21 (refine ay hG X λ_ k=>?_;go_simp;apply k;clear k));clear q0 q1 q2 hG;refine aO 21 ⟨_,rfl,?_⟩;intro w31 C K hK
   go_simp
   refine(F.out w31 (p.trans (C.mono p.size))).mono ?_;rintro e w2 ⟨rfl,N,P,hz2⟩;have H2:=Aa N;have HS2:=Aa P;refine⟨_,rfl,hK _ _ (λhz=>hz2 _ (λq hq=>by simp at hq;rcases hq with rfl|rfl|rfl<;>rfl) hz) ?_⟩;clear hK K N P X hz2 p C;refine ae ?_;intro w3 Y;have HFF:Hid _:=HF.out _ _ H2.out HS2.out Y;clear Y;go_wp2;go_end0;exact⟨rfl,HFF.out⟩
end
section
attribute [local go_sem] Oper.semAt_some Dz Dl
variable {w : World}{y lo : Nat}{who u : Int}{S : Cl}
theorem Ct{d f:Value}(a:w.heap[y]?=some (Oc (Hl who u S d f) 69)) :
    w.cell? (Ad y 0)=some (I6 who)/\w.cell? (Ad y 1)=some (I6 u)/\w.cell? (Ad y 2)=some (Sx S.doc)/\w.cell? (Ad y 3)=some (Sx S.seen)/\w.cell? (Ad y 4)=some (I6 S.rev)/\w.cell? (Ad y 5)=some (I6 S.id)/\w.cell? (Ad y 6)=some d/\w.cell? (Ad y 7)=some f/\w.cell? (Ad y 8)=some (.bool (decide (1<=S.mine.length)))/\w.cell? (Ad y 9)=some (.bool (decide (2<=S.mine.length)))/\w.cell? (Ad y 10)=some (I6 S.drops)/\∀o,w.frozen? (Ad y o)=false :=
 ⟨Az a 0,Az a 1,Az a 2,Az a 3,Az a 4,Az a 5,Az a 6,Az a 7,Az a 8,Az a 9,Az a 10,λo=>Gf a⟩
theorem NN{w':World}(h:Cj lo w y who u S)(a:Bw w w'):Cj lo w' y who u S/\sameBut w w' λk=>k=y:=⟨fV h a,Cf a _⟩
theorem j6(h:Cj lo w y who u S)(i:Int)(q:0<=S.drops/\S.drops<=1000000) :
    Cg 53 #[Pd y 0,I6 i] w λe w'=>e=.returned (.tuple #[])/\Cj lo w' y who u (Fh S i)/\sameBut w w' λk=>k=y:=by
 have C:=Aa h;obtain⟨d,v1,v2,j,p,m⟩:=h;obtain⟨Q,c1,rfl⟩:=C7 p;obtain⟨X,c2,rfl⟩:=C7 m;generalize (B8 S 0).length=n1 at *;generalize (B8 S 1).length=n2 at *;have L:=Aa j;have t:=Aa d;obtain⟨_,_,x2,x3,x4,x5,x6,Y,A,x9,F,a⟩:=Ct j;have f2:=a 2;have f6:=a 6;have f7:=a 7;have P:=a 8;have f9:=a 9;have O:=a 10
 by_cases f:S.mine=[]
 . have g:Hid (Fh S i=S):=if_neg λh=>h.1 f
   rw[show decide (1<=S.mine.length)=false by rw[f];rfl]at A;clear j p m f q d a
   go_enter func53,ntmps53
   go_wp2;go_end0;rw[g.out];exact⟨rfl,C.out,OT _ _⟩
 . rw [show decide (1<=S.mine.length)=true from decide_eq_true (List.length_pos_iff.2 f)]at A
   generalize decide (2<=S.mine.length)=d2 at *
   by_cases s:i=S.id
   . have g:Hid (Fh S i = { S with mine:=[],doc:=S.seen,drops:=S.drops+1 }):=if_pos ⟨f,s⟩
     have B:wrap64 (S.drops+1)=S.drops+1:=E0 (by omega) (by omega);obtain⟨Z,d1⟩:=q;subst s;clear j p m f d a
     go_enter func53,ntmps53
     go_wp2;go_end0;rw[g.out];refine⟨rfl,?_⟩;have I:=heap_setCell_same w y 2 _ _ (Sx S.seen) L.out;have N:=heap_setCell_same _ y 8 _ _ (.bool false) I;have G:=heap_setCell_same _ y 9 _ _ (.bool false) N;have J:=heap_setCell_same _ y 6 _ _ (.slice none 0 0) G;have K:=heap_setCell_same _ y 7 _ _ (.slice none 0 0) J;have H:=heap_setCell_same _ y 10 _ _ (I6 (S.drops+1)) K;have E:∀W,Ar lo W (.slice none 0 0) []:=λW=>Ev (Ik 0 W);refine⟨⟨t.out,.slice none 0 0,.slice none 0 0,H,E _,E _⟩,?_⟩;exact(((((B6 (S:=λk=>k=y) rfl).trans (B6 (S:=λk=>k=y) rfl)).trans (B6 (S:=λk=>k=y) rfl)).trans (B6 (S:=λk=>k=y) rfl)).trans (B6 (S:=λk=>k=y) rfl)).trans (B6 (S:=λk=>k=y) rfl)
   . have g:Hid (Fh S i=S):=if_neg λh=>s h.2
     clear j p m f q d a
     go_enter func53,ntmps53
     go_wp2;go_end0;rw[g.out];exact⟨rfl,C.out,OT _ _⟩
end
section
variable {w w0 wr : World}{b j N n g1 g2 q : Nat}{ps : List Pt}{P : List (List UInt8)}{D : List Bool}
theorem Sy{a i:Nat}{x:Value}(h:a≠b):(w.setCell (Ad b i) x).cell? (Ad a j)=w.cell? (Ad a j):=FV _ _ _ _ (by intro e;simp only[Addr.mk.injEq]at e;exact h e.1.symm)
def Nu (x:Dp):List Value:=[I6 x.1,.int .u8 (x.2.toNat:Int)]
def Gk (l:List Dp):List Value:=l.flatMap Nu
theorem OY(l m:List Dp):Gk (l++m)=Gk l++Gk m:=by simp[Gk]
theorem Uy(l:List Dp):(Gk l).length=l.length*2:=by
 induction l with
 | nil=>rfl
 | cons x l ih =>
  have:Gk (x :: l)=Nu x++Gk l:=rfl;rw[this,AA,ih,AJ];show 2+_=_;omega
theorem TN:(prog.info? 161).map (λi=>(i.zero,i.size,i.bytes))=some (some (.agg #[I6 0,.int .u8 0]),2,16):=by kernel_rfl
theorem SF(x:Dp):∀u∈Nu x,u.oneCell'=true:=by
 intro u a;simp only[Nu,DR,DL,or_false]at a
 rcases a with rfl|rfl<;>rfl
theorem gM(l:List Dp):∀u∈Gk l,u.oneCell'=true:=by
 intro u d;obtain⟨x,_,a⟩:=List.mem_flatMap.1 d;exact SF x u a
theorem gL(l:List Dp)(i:Nat)(x:Dp)(a:l[i]?=some x):(Gk l)[i*2]?=some (I6 x.1)/\(Gk l)[i*2+1]?=some (.int .u8 (x.2.toNat:Int)):=by
 induction l generalizing i with
 | nil=>simp at a
 | cons y l ih =>
  have e:Gk (y :: l)=I6 y.1 :: .int .u8 (y.2.toNat:Int) :: Gk l:=rfl
  cases i with
  | zero =>
   obtain rfl:y=x:=by simpa using a
   rw[e];exact⟨rfl,rfl⟩
  | succ i =>
   obtain⟨f,d⟩:=ih i (by simpa using a);rw[e,show(i+1)*2=i*2+1+1 by omega];exact⟨by simpa using f,by simpa using d⟩
theorem WH:∀(l:List Pt)(p:Pt)(i:Int),Ax i (l++[p])=Ax i l++(Dt (i+Ak l) p.keep.toNat++Bl p.put)
 | [],p,i=>by simp[Ax,Ak]
 | q :: l,p,i=>by
  have ih:=WH l p (i+q.keep+q.drop);rw[BR,Ax,Ax,ih];have e:Ak (q :: l)=q.keep+q.drop+Ak l:=by simp[Ak,Ab]
  rw[e,show i+q.keep+q.drop+Ak l=i+(q.keep+q.drop+Ak l) by omega];simp
theorem Wv:∀(l:List Pt)(p:Pt)(a:List Dp),(∀q∈l,0<=q.keep/\0<=q.drop)->Bz a (l++[p])=Bz a l++((a.drop (Ak l).toNat).take p.keep.toNat++Bl p.put)
 | [],p,a,_=>by simp[Bz,Ak]
 | q :: l,p,a,h=>by
  have m:=h q (by simp)
  have A:0<=Ak l:=by
   have f:=λx d=>h x (DS q d);clear h m
   induction l with
   | nil=>simp[Ak]
   | cons x l ih =>
    have s:=f x (by simp);have t:=ih λy g=>f y (by simp[g]);have e:Ak (x :: l)=x.keep+x.drop+Ak l:=by simp[Ak,Ab]
    omega
  have ih:=Wv l p (a.drop (q.keep+q.drop).toNat) λx d=>h x (by simp[d]);rw[BR,Bz,Bz,ih,DI];have e:Ak (q :: l)=q.keep+q.drop+Ak l:=by simp[Ak,Ab]
  rw[e,show(q.keep+q.drop+Ak l).toNat=(q.keep+q.drop).toNat+(Ak l).toNat by omega];simp
theorem Xk(l:List Pt)(p:Pt):Ak (l++[p])=Ak l+(p.keep+p.drop):=by simp[Ak,Ab]
theorem fN(i:Int)(t:Nat):Dt i (t+1)=Dt i t++[(i+t,0)]:=by
 rw[QQ];simp[Dt]
theorem Xw(u:List UInt8)(t:Nat)(h:t<u.length):Bl (u.take (t+1))=Bl (u.take t)++[(-1,u[t])]:=by
 rw[AD h,SB];rfl
theorem OW:∀(l:List Pt),(∀q∈l,0<=q.keep/\0<=q.drop)->0<=Ak l
 | [],_=>by simp[Ak]
 | x :: l,h=>by
  have d:=h x (by simp);have f:=OW l λy a=>h y (by simp[a]);have e:Ak (x :: l)=x.keep+x.drop+Ak l:=by simp[Ak,Ab]
  omega
theorem WA(h:Bs ps)(j:Nat):(((ps.take j).map Dm).sum:Int)<=Bj ps:=by
 have g:=Da h.one
 have a:∀(l:List Pt),(∀q∈l,0<=q.keep/\0<=q.drop)->0<=(l.map Dm).sum/\(l.map Dm).sum<=Bj l:=by
  intro l
  induction l with
  | nil=>intro _;simp[Bj]
  | cons x l ih =>
   intro f;have p:=f x (by simp);obtain⟨s,A⟩:=ih λy m=>f y (by simp[m]);have e:Bj (x :: l)=Ee x+Bj l:=by simp[Bj]
   have B:Dm x=x.keep+x.put.length:=rfl;have t:Ee x=x.keep+x.drop+x.put.length:=rfl;rw[AY,BQ,e];omega
 have p:=(a (ps.take j) λq d=>g q (BZ d)).2;have s:=(a (ps.drop j) λq d=>g q (DJ d));have e:Bj ps=Bj (ps.take j)+Bj (ps.drop j):=by
  have:=OV (ps.take j) (ps.drop j);rwa[AW]at this
 omega
theorem T8(h:Bs ps)(j:Nat):(Ax 0 (ps.take j)).length<2000000:=by
 have d:=Rl (ps.take j) 0 λq a=>(Da h.one q (BZ a)).1;have g:=WA h j;have f:=h.w;omega
theorem Y9:∀(l:List Pt)(a:List Dp),(∀q∈l,0<=q.keep/\0<=q.drop)->((Bz a l).length:Int)<=(l.map Dm).sum
 | [],_,_=>by simp[Bz]
 | q :: l,a,h=>by
  have f:=h q (by simp);have ih:=Y9 l (a.drop (q.keep+q.drop).toNat) λx d=>h x (by simp[d]);simp only[Bz,AA,AO,Ma,AY,BQ,Dm];omega
theorem XL(h:Bs ps)(M:List Dp)(j:Nat):(Bz M (ps.take j)).length<2000000:=by
 have d:=Y9 (ps.take j) M λq a=>Da h.one q (BZ a);have g:=WA h j;have f:=h.w;omega
theorem kv(M:List Dp)(A K j:Nat)(u:Value)(h:(Gk ((M.drop A).take K))[j]?=some u):(Gk M)[A*2+j]?=some u:=by
 by_cases g:A<=M.length
 . have f:M=M.take A++((M.drop A).take K++(M.drop A).drop K):=by rw[AW,AW]
   have a:=(De h);rw[f,OY,OY];have d:(Gk (M.take A)).length=A*2:=by rw[Uy,AO];omega
   rw[AL (by omega),d,Nat.add_sub_cancel_left,AX a];exact h
 . rw[DH (by omega)]at h
   simp[Gk]at h
theorem QB{w':World}{o:Obj}{v:Value}{C:List Value}(h:w.heap[b]?=some o)(p:w.ownsRow N 161 2 v n C)(m:w.grownBy w' v.ownBlock)(s:∀c f,o≠.cells c 161 f):w'.heap[b]?=some o:=by
 refine(m.block b (Cn h) ?_).trans h;intro e
 rcases p.2 with ⟨A,_⟩|⟨g,d,B,rfl,_,a,_⟩
 . rw[A]at e;cases e
 . have t:some b=some g:=e
   obtain rfl:=Bq t;rw[h]at a;exact s _ _ (Bq a)
theorem Ro(n:Int):∀(E:List Dp)(pos:Int),0<=pos->Fb n E pos->∀x∈E,x.1<0\/(0<=x.1/\x.1<n)
 | [],_,_,_,_,a=>by cases a
 | (i,c) :: E,pos,h0,h,x,a=>by
   rw[Fb]at h
   by_cases d:i<0
   . rw[if_pos d]at h
     rcases List.mem_cons.1 a with rfl|a
     . exact .inl d
     . exact Ro n E pos h0 h x a
   . rw[if_neg d]at h
     rcases List.mem_cons.1 a with rfl|a
     . exact .inr ⟨by show 0<=i;omega,h.2.1⟩
     . exact Ro n E (i+1) (by omega) h.2.2 x a
structure CInv (n j:Nat) (s:O0):Prop where
 put:s.put.length=n+1
 drop:s.drop.length=n
 last:s.last<=n
 small:∀u∈s.put,u.length<=j
theorem CInv.step{s:O0}{x:Dp}(h:CInv n j s)(p:x.1<0\/(0<=x.1/\x.1<(n:Int))):CInv n (j+1) (GR s x):=by
 obtain⟨f,g,m,d⟩:=h;unfold GR
 split
 . refine ⟨by simpa using f,g,m,λu a=>?_⟩
   rcases List.mem_or_eq_of_mem_set a with a|rfl
   . have:=d u a;omega
   . have:(s.put[s.last]?.getD []).length<=j:=by
       cases hq:s.put[s.last]? with
       | none=>simp
       | some v=>exact d v (BI hq)
     rw[AA];simp;omega
 . refine⟨f,by simpa using g,by show(x.1+1).toNat<=n;omega,λu a=>by have:=d u a;omega⟩
def Gr (n:Nat):O0:=⟨List.replicate (n+1) [],List.replicate n true,0⟩
theorem PI(n:Nat):CInv n 0 (Gr n):=⟨by simp[Gr],by simp[Gr],AV _,λu a=>by rw[List.eq_of_mem_replicate a];simp⟩
theorem PH(n:Nat)(E:List Dp)(h:∀x∈E,x.1<0\/(0<=x.1/\x.1<(n:Int)))(j:Nat)(a:j<=E.length):CInv n j ((E.take j).foldl GR (Gr n)):=by
 induction j with
 | zero=>exact PI n
 | succ j ih =>
  rw[AD (by omega),BJ];exact(ih (by omega)).step (h _ (BE _))
structure Gq (w0:World) (N g1 g2 q n:Nat) (P:List (List UInt8)) (D:List Bool) (wr:World):Prop where
 r1:wr.ownsRow N 9 1 (Sl g1 (n+1) (n+1)) (n+1) (P.map Cz)
 r2:wr.ownsRow N 4 1 (Sl g2 n n) n (D.map Value.bool)
 c0:wr.cell? (Ad q 0)=some (Sl g1 (n+1) (n+1))
 c1:wr.cell? (Ad q 1)=some (Sl g2 n n)
 ne:g1≠g2/\q≠g1/\q≠g2
 below:Below N w0 wr
theorem UD(h:Gq w0 N g1 g2 q n P D wr)(d:N<=wr.heap.size)(o:Obj):Gq w0 N g1 g2 q n P D (wr.alloc o):=by
 have a:Bw wr (wr.alloc o):=zA _ _;exact⟨h.r1.alloc o,h.r2.alloc o,(a.cell (Ca wr _ h.c0)).trans h.c0,(a.cell (Ca wr _ h.c1)).trans h.c1,h.ne,h.below.alloc d o⟩
theorem XR(h:Gq w0 N g1 g2 q n P D wr)(i:Nat)(d:Bool):Gq w0 N g1 g2 q n P (D.set i d) (wr.setCell (Ad g2 i) (.bool d)):=by
 obtain⟨g,m⟩:=h.r2.stored i (.bool d);have a:=h.r2.lt g2 rfl;have f:=h.r1.kept m (.inr (by simp only[Value.ownBlock];intro e;exact h.ne.1 (Bq e)));have e:(D.set i d).map Value.bool=(D.map Value.bool).set i (.bool d):=by rw[List.map_set]
 refine⟨f,by rw[e];exact g,?_,?_,h.ne,h.below.setCell (by show N<=g2;exact a.1) _⟩
 . rw[Sy h.ne.2.2];exact h.c0
 . rw[Sy h.ne.2.2];exact h.c1
theorem cM(h:Gq w0 N g1 g2 q n P D wr)(i:Nat)(u:List UInt8):Gq w0 N g1 g2 q n (P.set i u) D (wr.setCell (Ad g1 i) (.string ⟨u.toArray⟩)):=by
 obtain⟨d,g⟩:=h.r1.stored i (.string ⟨u.toArray⟩);have a:=h.r1.lt g1 rfl;have f:=h.r2.kept g (.inr (by simp only[Value.ownBlock];intro e;exact h.ne.1 (Bq e).symm));have e:(P.set i u).map Cz=(P.map Cz).set i (.string ⟨u.toArray⟩):=by rw[List.map_set];rfl
 refine⟨by rw[e];exact d,f,?_,?_,h.ne,h.below.setCell (by show N<=g1;exact a.1) _⟩
 . rw[Sy h.ne.2.1];exact h.c0
 . rw[Sy h.ne.2.1];exact h.c1
theorem dH(h:Gq w0 N g1 g2 q n P D wr):Gq w0 N g1 g2 q n P D wr.drew:=⟨h.r1.drew,h.r2.drew,h.c0,h.c1,h.ne,h.below.drew⟩
theorem gI(u:List UInt8)(c:UInt8):ByteArray.mk u.toArray++ByteArray.mk #[c]=ByteArray.mk (u++[c]).toArray:=by
 apply EZ;rw[ByteArray.data_append];simp
def Ms (g:Dj):Nat:=Ep g.1+g.2.length
theorem UH(f:List UInt8->Dj)(X:Nat)(d:∀a,Ms (f a)<=a.length+X):∀(m:Nat)(a:List UInt8),Ms (Iy a m f)<=a.length+X
 | 0,a=>d a
 | m + 1,a=>by
  have ih:=UH f X d m [];have e:Ms (Iy a (m+1) f)=a.length+Ms (Iy [] m f):=by
   show Ep ((a,true) :: (Iy [] m f).1)+_=_;unfold Ms Ep;simp only[AY,BQ];show _+(Iy [] m f).2.length=_;omega
  rw[e];simp only[AR]at ih;omega
theorem Ub(n:Int):∀(E:List Dp)(a:List UInt8)(pos:Int),Ms (Dk n E a pos)<=a.length+E.length
 | [],a,pos=>by
  rw[Dk];exact UH _ 0 (λa=>by simp[Ms,Ep]) _ a
 | (i, c) :: E,a,pos=>by
   rw[Dk]
   by_cases d:i<0
   . rw[if_pos d]
     have:=Ub n E (a++[c]) pos;simp only[AA,AJ,AR]at this ⊢;omega
   . rw [if_neg d]
     have ih:=Ub n E [] (i+1);have:=UH (λa=>((a,false) :: (Dk n E [] (i+1)).1,(Dk n E [] (i+1)).2)) E.length (λa=>by
      unfold Ms Ep at ih ⊢;simp only[AY,BQ,AR]at ih ⊢
      omega) (i - pos).toNat a
     simp only[AJ];omega
theorem ep(n:Int)(E:List Dp)(a:List UInt8)(pos:Int):Ep (Dk n E a pos).1+(Dk n E a pos).2.length<=a.length+E.length:=Ub n E a pos
def PF (w0:World) (N g1 g2 q n:Nat) (k:Nat) (i:Value) (wr:World):Prop :=
 ∃j:Nat,i=I6 j/\j+k=n/\Gq w0 N g1 g2 q n (List.replicate (n+1) []) (List.replicate j true++List.replicate (n - j) false) wr
def PD (w0:World) (N g1 g2 q n:Nat) (E:List Dp) (k:Nat) (u22 i:Value) (wr:World):Prop :=
 ∃j:Nat,i=I6 j/\j+k=E.length/\u22=I6 (((E.take j).foldl GR (Gr n)).last:Nat)/\Gq w0 N g1 g2 q n ((E.take j).foldl GR (Gr n)).put ((E.take j).foldl GR (Gr n)).drop wr
def PG (w0:World) (N:Nat) (a:List Pt) (k:Nat) (u11 u12 u46:Value) (wr:World):Prop :=
 ∃j:Nat,u46=I6 j/\j+k=a.length/\u12=I6 (Ak (a.take j))/\wr.ownsRow N 161 2 u11 (Ax 0 (a.take j)).length (Gk (Ax 0 (a.take j)))/\Below N w0 wr
def PE (w0:World) (N:Nat) (M:List Dp) (b:List Pt) (k:Nat) (u16 u12 u84:Value) (wr:World):Prop :=
 ∃j:Nat,u84=I6 j/\j+k=b.length/\u12=I6 (Ak (b.take j))/\wr.ownsRow N 161 2 u16 (Bz M (b.take j)).length (Gk (Bz M (b.take j)))/\Below N w0 wr
def PC (w0:World) (N:Nat) (M:List Dp) (A0:Int) (K:Nat) (b:Nat) (o:Obj) (k:Nat) (u11 u12 u52:Value) (wr:World):Prop :=
 ∃t:Nat,u52=I6 t/\t+k=K/\u12=I6 (A0+t)/\wr.ownsRow N 161 2 u11 (M++Dt A0 t).length (Gk (M++Dt A0 t))/\Below N w0 wr/\wr.heap[b]?=some o
def Lz (w0:World) (N:Nat) (M:List Dp) (U:List UInt8) (b:Nat) (o:Obj) (k:Nat) (u11 u65:Value) (wr:World):Prop :=
 ∃t:Nat,u65=I6 t/\t+k=U.length/\wr.ownsRow N 161 2 u11 (M++Bl (U.take t)).length (Gk (M++Bl (U.take t)))/\Below N w0 wr/\wr.heap[b]?=some o
end
end Go.Proofs.YtkcpjanmemdjlaaGreatDoor
