/-
  A part of the texts that the proof uses.
-/
import Derived.Test.YtedgnlgjmnccgabGreatDoorPartB
import Derived.Test.YtedgnlgjmnccgabGreatDoorPartA
import Derived.Shelf.Strings.Builder1
import Derived.Shelf.Strings.Builder2
import Derived.Shelf.Small.Utf8
import Derived.Shelf.Strings.BuilderF
import Derived.Shelf.Strings.BuilderK
import Derived.Shelf.Utf8.AppendRunePlain
import Derived.Shelf.Utf8.RuneCount
import Derived.Shelf.Strings.Builder2Cap
import Derived.Shelf.LaysM
import Derived.Shelf.Strconv.Clone
import Derived.Shelf.Strings.Search1
import Derived.Shelf.Strings.Search2
import Derived.Shelf.Strings.Search3
import Derived.Shelf.Strings.Cut
import Derived.Shelf.Strings.Count
import Derived.Shelf.Strings.Shaped
import Derived.Shelf.Strings.RuneCount
import Derived.Shelf.Unicode.DecodeSlow
import Derived.Shelf.Unicode.DecodeAny
import Derived.Shelf.Strings.BuilderCap
import Derived.Test.YtedgnlgjmnccgabGreatDoorProg
import Derived.Laws.EntriesVeiled
import Derived.Deep.RegionWith
import Derived.Deep.QuietTactic
import Derived.BigQuiet
import Derived.OwnWalkIn
import Derived.TacticsInMore
import Derived.LoopNIn
import Derived.LoopIn
import Derived.Stop.RegionWithIn
import Derived.Lib.Builder
import Derived.Lib.OthersKept
import Derived.Lib.FrozenHead
set_option maxRecDepth 100000
set_option maxHeartbeats 40000000
set_option linter.unusedVariables false
namespace Go.Proofs.YtedgnlgjmnccgabGreatDoor
section
variable {s : NSt}
structure OneS (s:NSt):Prop where
 out:∀p∈s.out,oneP p
 drop:0<=s.drop
theorem JgL(h:OneS s):∀p∈JaC s,oneP p:=by
 intro p hp;unfold JaC at hp
 rcases List.mem_append.1 hp with hp|hp
 . exact h.out p hp
 . rcases List.mem_append.1 hp with hp | hp
   . split at hp
     . simp at hp
     . rename_i hne
       rw[List.mem_singleton.1 hp];exact .inr (.inr ⟨rfl,rfl,hne⟩)
   . split at hp
     . simp at hp
     . rename_i hne
       rw[List.mem_singleton.1 hp];have:=h.drop;exact .inr (.inl ⟨rfl,by show 0<s.drop;omega,rfl⟩)
theorem Jq3{l:List Pt}(h:∀p∈l,oneP p){k:Int}(hk:0<k):∀p∈Jbi l k,oneP p:=by
 intro p hp;unfold Jbi at hp;have hnew:oneP (⟨k,0,[]⟩:Pt):=.inl ⟨hk,rfl,rfl⟩
 cases hq:l.getLast? with
 | none =>
  rw[hq]at hp;simp only[List.mem_append,List.mem_singleton]at hp
  rcases hp with hp|rfl
  . exact h p hp
  . exact hnew
 | some q =>
  rw[hq]at hp;have hql:q∈l:=List.mem_of_getLast? hq;simp only at hp
  split at hp
  . rename_i h0
    simp only[List.mem_append,List.mem_singleton]at hp
    rcases hp with hp|rfl
    . exact h p (List.dropLast_subset l hp)
    . rcases h q hql with ⟨h1,h2,h3⟩|⟨h1,_,_⟩|⟨h1,_,_⟩
      . exact .inl ⟨by show 0<q.keep+k;omega,h2,h3⟩
      . omega
      . omega
  . simp only[List.mem_append,List.mem_singleton]at hp
    rcases hp with hp|rfl
    . exact h p hp
    . exact hnew
theorem Jmu(h:OneS s)(p:Pt)(hk:0<=p.keep)(hd:0<=p.drop):OneS (addP s p):=by
 unfold addP;have h':OneS ⟨s.out,s.put++p.put,s.drop+p.drop⟩:=⟨h.out,by have:=h.drop;show 0<=s.drop+p.drop;omega⟩
 split
 . exact h'
 . rename_i hk0
   exact⟨Jq3 (JgL h') (by omega),by show(0:Int)<=0;omega⟩
theorem Jrf(ps:List Pt)(h:∀p∈ps,0<=p.keep/\0<=p.drop):∀s,OneS s->OneS (ps.foldl addP s):=by
 induction ps with
 | nil=>exact fun s hs=>hs
 | cons p ps ih=>exact fun s hs=>ih (fun q hq=>h q (by simp[hq])) _ (Jmu hs p (h p (by simp)).1 (h p (by simp)).2)
theorem JeR(ps:List Pt)(h:∀p∈ps,0<=p.keep/\0<=p.drop):∀p∈Jae ps,oneP p :=
 JgL (Jrf ps h nst0 ⟨by simp[nst0],by simp[nst0]⟩)
def Jar (ps:List Pt):Int:=(ps.map lenP).sum
def Jfb (s:NSt):Int:=Jar s.out+s.drop
theorem Jcj(a b:List Pt):Jar (a++b)=Jar a+Jar b:=by simp[Jar]
theorem Jfx(s:NSt):Jar (JaC s)=Jfb s:=by
 unfold JaC Jfb;rw[Jcj,Jcj]
 by_cases hp:s.put=[]<;>by_cases hd:s.drop=0<;>simp[Jar,lenP,hp,hd]
theorem JoS(l:List Pt)(k:Int):Jar (Jbi l k)=Jar l+k:=by
 unfold Jbi
 cases hq:l.getLast? with
 | none=>simp[Jar,lenP]
 | some q =>
  simp only
  split
  . have e:l=l.dropLast++[q]:=by
      have hne:l≠[]:=by rintro rfl;simp at hq
      have:=List.dropLast_concat_getLast hne;rw[List.getLast?_eq_some_getLast hne]at hq;rw[osi hq]at this;exact this.symm
    conv=>rhs;rw[e]
    rw[Jcj,Jcj];simp[Jar,lenP];omega
  . rw[Jcj];simp[Jar,lenP]
theorem JeY(s:NSt)(p:Pt):Jfb (addP s p)=Jfb s+lenP p:=by
 unfold addP
 split
 . rename_i h
   simp[Jfb,lenP,h];omega
 . show Jar (Jbi _ _)+0=_
   rw[JoS,Jfx];simp[Jfb,lenP];omega
theorem JkD(ps:List Pt):∀s,Jfb (ps.foldl addP s)=Jfb s+Jar ps:=by
 induction ps with
 | nil=>intro s;simp[Jar]
 | cons p ps ih =>
  intro s;rw[List.foldl_cons,ih,JeY];simp[Jar];omega
theorem Jhw(ps:List Pt):Jar (Jae ps)=Jar ps:=by
 unfold Jae;rw[Jfx,JkD];simp[Jfb,nst0,Jar]
theorem JeS(ps:List Pt)(h:∀p∈ps,0<=p.keep/\0<=p.drop):(Jeo ps:Int)=Jar ps:=by
 unfold Jeo
 have key:∀(ps:List Pt),(∀p∈ps,0<=p.keep/\0<=p.drop)->∀acc,((Jbc acc ps).1.length:Int)=Jar ps:=by
  intro ps
  induction ps with
  | nil=>intro _ acc;simp[Jbc,Jar]
  | cons p ps ih =>
   intro h acc;have h1:=Jl1 ([],acc) p (h p (by simp)).1 (h p (by simp)).2;have h2:=ih (fun q hq=>h q (by simp[hq])) (Jcb ([],acc) p).2;simp only[Jbc,List.length_append,Jar,List.map_cons,List.sum_cons]at h2 ⊢
   push_cast
   simp only[List.length_nil]at h1;omega
 exact key ps h []
end
section
open Go.RowKit
attribute [local go_sem] Oper.semAt_some
variable {w : World}
def pk (a m:Int):Int:=IntKind.u64.wrap a % m
theorem pk_bd(a m:Int)(h:0<m):0<=pk a m/\pk a m<m:=⟨Int.emod_nonneg _ (by omega),Int.emod_lt_of_pos _ h⟩
theorem JmC(a m:Int)(ha: -9223372036854775808<=a/\a<9223372036854775808)(h0:0<m)(hm:m<100)(w:World) :
    Calls Tryz.prog 20 #[.int .i64 a,.int .i64 m] w fun e w'=>e=.returned (.int .i64 (pk a m))/\Below w.heap.size w w':=by
 obtain⟨a1,a2⟩:=ha;have hne:m≠0:=by omega
 have e1:IntKind.u64.wrap m=m:=by rw[IntKind.wrap_u64];omega
 go_enter Tryz.func20,Tryz.ntmps20
 go_wp2;go_ret;have h1:0<=IntKind.u64.wrap a:=by rw[IntKind.wrap_u64];omega
 have h2:(IntKind.u64.wrap a).tmod m=IntKind.u64.wrap a % m:=Int.tmod_eq_emod_of_nonneg h1;have h3:=Int.emod_nonneg (IntKind.u64.wrap a) hne;have h4:=Int.emod_lt_of_pos (IntKind.u64.wrap a) h0;have h5:wrap64 ((IntKind.u64.wrap a).tmod m)=pk a m:=by rw[h2];unfold wrap64 pk;omega
 exact⟨by rw[←h5];rfl,brf _ _⟩
theorem Jca(w:World)(n:Nat)(hn:w.heap.size=n)(l:List Value)(t:TypeId):∀j u,l[j]?=some u->(w.alloc (.cells l.toArray t)).cell? ((⟨n,0,none⟩:Addr).add j)=some u:=by
 subst hn;exact JdB w l t
theorem cellOnF{A B:World}{b:Nat}(h:B.heap[b]?=A.heap[b]?)(o:Nat):B.cell? ⟨b,o,none⟩=A.cell? ⟨b,o,none⟩:=by
 simp[World.cell?,h]
theorem JbH{w2:World}{o:Obj}(h:Below (w.alloc o).heap.size (w.alloc o) w2):w.heap.size+1<=w2.heap.size:=by
 have:=h.size;rw[wsa]at this;exact this
theorem Jdm{w':World}{β o:Nat}{v x:Value}(hg:w.grownBy w' v.ownBlock)(hlt:β<w.heap.size)(hne:∀k,v.ownBlock=some k->k<β)(h:w.cell? ⟨β,o,none⟩=some x):w'.cell? ⟨β,o,none⟩=some x :=
 (cellOnF (hg.block β hlt fun e=>absurd (hne _ e.symm) (Nat.lt_irrefl _)) o).trans h
def Jf1 (N:Int) (q:Pt):Prop:=0<=q.keep/\q.keep<=N/\0<=q.drop/\q.drop<=N/\q.put.length<=150
theorem Jcr{N:Int}{qs:List Pt}{q:Pt}(h:∀p∈qs,Jf1 N p)(hq:Jf1 N q):∀p∈qs++[q],Jf1 N p:=by
 intro p hp
 rcases List.mem_append.1 hp with hp|hp
 . exact h p hp
 . rw[List.mem_singleton.1 hp];exact hq
def fitI (w:World) (N:Int) (n k:Nat) (v:Value) (M:Int) (wr:World):Prop :=
 ∃qs:List Pt,wr.ownsRow w.heap.size 50 3 v qs.length (Jag qs)/\qs.length<=2*k/\(∀q∈qs,Jf1 N q)/\0<=M/\M<=N/\k<=n/\k<=30/\Below w.heap.size w wr
theorem fit_any(v:Value)(ps:List Pt)(N:Int)(w:World)(hT:Lib.Utf8Tabs 2 3 w)(hr:opAt w v ps)(hwf:∀p∈ps,p.put.length<=150->wfP p)(hN0:0<=N)(hN1:N<=100000) :
    Calls Tryz.prog 22 #[v,.int .i64 N] w fun e w'=>∃v' qs,e=.returned v'/\w'.ownsRow w.heap.size 50 3 v' qs.length (Jag qs)/\qs.length<=61/\(∀q∈qs,Jf1 N q)/\Below w.heap.size w w':=by
 obtain⟨p,c,rfl,r1,r2,r3⟩:=hr;obtain⟨n,hn⟩:∃n,n=ps.length:=⟨_,rfl⟩;rw[←hn]at r1 ⊢;have HN:Hid (n=ps.length):=hn;clear hn
 have R3:Hid (ps≠[]->∃b o,p=some ⟨b,o,none⟩/\b<w.heap.size/\∀i q,ps[i]?=some q ->
  w.cell? ⟨b,o+i*3,none⟩=some (.int .i64 q.keep)/\w.cell? ⟨b,o+i*3+1,none⟩=some (.int .i64 q.drop)/\w.cell? ⟨b,o+i*3+2,none⟩=some (.string ⟨q.put.toArray⟩)):=r3
 have HWF:Hid (∀p∈ps,p.put.length<=150->wfP p):=hwf;have HT:Hid (Lib.Utf8Tabs 2 3 w):=hT;obtain⟨i0,hi,hz0,hz1,hz2⟩:=info_parts JbT;clear r3 hwf hT;unfold maxLen at r2
 go_enter Tryz.func22,Tryz.ntmps22
 go_wp2
 go_loopw [5,1,6] (fun v5 m i wr=>∃(k:Nat) (M:Int),i=.int .i64 k/\m=.int .i64 M/\fitI w N n k v5 M wr) (fun _ _ i _=>30 - (intOf i).toNat)
 case atStart=>exact⟨0,N,rfl,rfl,[],World.ownsRow_nil _ _ _ _,Nat.zero_le _,by simp,hN0,Int.le_refl _,Nat.zero_le _,Nat.zero_le _,brf _ _⟩
 case round =>
  obtain⟨k,M,rfl,rfl,qs,hown,hql,hqs,hM0,hM1,hkn,hk30,hwr⟩:=hrel;obtain⟨pv,cv,rfl⟩:=Jad hown;have HQS:Hid (∀q∈qs,Jf1 N q):=hqs;have HOW:Hid (wr.ownsRow w.heap.size 50 3 (.slice pv qs.length cv) qs.length (Jag qs)):=hown;have HWR:=hdz hwr;have hws:=hwr.size;have HLT:Hid (∀k,(Value.slice pv qs.length cv).ownBlock=some k->k<wr.heap.size):=fun k hk=>(hown.lt k hk).2
  clear hown hqs hwr
  by_cases hlt:k<n/\k<30
  . obtain ⟨hlt1,hlt2⟩:=hlt
    have hkr:k<ps.length:=by rw[←HN.out];exact hlt1
    have hne:ps≠[]:=by intro e;rw[e]at hkr;exact absurd hkr (Nat.not_lt_zero _)
    obtain⟨b,o,rfl,hbw,hcell⟩:=R3.out hne;obtain⟨c0,c1,c2⟩:=hcell k ps[k] (lgg hkr);have g0:=(HWR.out.cell (p:=⟨b,o+k*3,none⟩) hbw).trans c0;have g1:=(HWR.out.cell (p:=⟨b,o+k*3+1,none⟩) hbw).trans c1;have g2:=(HWR.out.cell (p:=⟨b,o+k*3+2,none⟩) hbw).trans c2;have hwq:=HWF.out ps[k] (List.getElem_mem _);generalize ps[k]=q at *;obtain⟨K,D,U⟩:=q;simp only at g0 g1 g2 hwq;have hj1:(k:Int)<(n:Int):=by omega
    have hj2:(k:Int)<30:=by omega
    have hUz:(ByteArray.mk U.toArray).size=U.length:=by simp[ByteArray.size]
    have HB0:Hid (Below w.heap.size w (wr.alloc (.cells #[.int .i64 K,.int .i64 D,.string ⟨U.toArray⟩] 50))):=HWR.out.alloc hws _;have ho0:Hid ((wr.alloc (.cells #[.int .i64 K,.int .i64 D,.string ⟨U.toArray⟩] 50)).ownsRow w.heap.size 50 3 (.slice pv qs.length cv) qs.length (Jag qs)):=HOW.out.alloc _;have X0:Hid ((wr.alloc (.cells #[.int .i64 K,.int .i64 D,.string ⟨U.toArray⟩] 50)).heap[wr.heap.size]?=some (.cells #[.int .i64 K,.int .i64 D,.string ⟨U.toArray⟩] 50 (0,0))):=heap_alloc_new _ _;clear hcell c0 c1 c2 hne hkr
    by_cases hbig:150<U.length
    . have hbig':(150:Int)<(U.length:Int):=by omega
      clear hwq;go_wp2
      go_roundw
      case rel=>exact⟨k+1,M,by go_num,rfl,qs,ho0.out,by omega,HQS.out,hM0,hM1,by omega,by omega,HB0.out⟩
      case measure=>simp[intOf];omega
    . have hbig':¬(150:Int)<(U.length:Int):=by omega
      obtain⟨wk1,wk2,wd1,wd2,_⟩:=hwq (by omega);have cC:=JcK ⟨U.toArray⟩ (by rw[hUz];omega) (wr.alloc (.cells #[.int .i64 K,.int .i64 D,.string ⟨U.toArray⟩] 50)) (Go.Proofs.Utf8Tabs_below HT.out HB0.out);have hl0:wr.heap.size<(wr.alloc (.cells #[.int .i64 K,.int .i64 D,.string ⟨U.toArray⟩] 50)).heap.size:=by simp
      obtain⟨K1,hK1⟩:∃K1,pk K 12=K1:=⟨_,rfl⟩;obtain⟨K2,hK2⟩:∃K2,pk D 7=K2:=⟨_,rfl⟩;have hk1:=pk_bd K 12 (by omega);have hk2:=pk_bd D 7 (by omega);have CP1:Hid (∀wx,Calls Tryz.prog 20 #[.int .i64 K,.int .i64 12] wx fun e w'=>e=.returned (.int .i64 K1)/\Below wx.heap.size wx w'):=fun wx=>by rw[←hK1];exact JmC K 12 ⟨wk1,wk2⟩ (by omega) (by omega) wx
      have CP2:Hid (∀wx,Calls Tryz.prog 20 #[.int .i64 D,.int .i64 7] wx fun e w'=>e=.returned (.int .i64 K2)/\Below wx.heap.size wx w'):=fun wx=>by rw[←hK2];exact JmC D 7 ⟨wd1,wd2⟩ (by omega) (by omega) wx
      rw[hK1]at hk1;rw[hK2]at hk2;obtain⟨hk10,hk11⟩:=hk1;obtain⟨hk20,hk21⟩:=hk2;have y2:(wr.alloc (.cells #[.int .i64 K,.int .i64 D,.string ⟨U.toArray⟩] 50)).cell? ⟨wr.heap.size,2,none⟩=some (.string ⟨U.toArray⟩):=chp X0.out 2;have y1:(wr.alloc (.cells #[.int .i64 K,.int .i64 D,.string ⟨U.toArray⟩] 50)).cell? ⟨wr.heap.size,1,none⟩=some (.int .i64 D):=chp X0.out 1;have y0:(wr.alloc (.cells #[.int .i64 K,.int .i64 D,.string ⟨U.toArray⟩] 50)).cell? ⟨wr.heap.size,0,none⟩=some (.int .i64 K):=chp X0.out 0;clear wk1 wk2 wd1 wd2 HWR hK1 hK2 hwq;have hpk:(¬0<K1)\/(0<K1/\¬K1<=M)\/(0<K1/\K1<=M):=by omega
      by_cases hU:U=[]
      . have hUe:U.isEmpty=true:=by rw[hU];rfl
        have hsc:(scan U).2=true:=by rw[hU];rfl
        have HC:Hid (Calls Tryz.prog 78 #[.string ⟨U.toArray⟩] (wr.alloc (.cells #[.int .i64 K,.int .i64 D,.string ⟨U.toArray⟩] 50)) fun e w'=>∃n1 n2 n3 n4,e=.returned (.tuple #[.agg #[.int .i64 n1,.int .i64 n2,.int .i64 n3,.int .i64 n4],.nilIface])/\Below (wr.alloc (.cells #[.int .i64 K,.int .i64 D,.string ⟨U.toArray⟩] 50)).heap.size (wr.alloc (.cells #[.int .i64 K,.int .i64 D,.string ⟨U.toArray⟩] 50)) w'):=Calls.mono cC fun e w' h=>by
         obtain⟨v,x,rfl,hb,⟨_,rfl,rfl⟩|⟨h0,_⟩⟩:=h
         . exact⟨_,_,_,_,rfl,hb⟩
         . rw[show(ByteArray.mk U.toArray).data.toList=U from rfl,hsc]at h0;cases h0
        clear cC hsc hU
        rcases hpk with hp|⟨hp,hp'⟩|⟨hp,hp'⟩
        ·
         have hpk2:(¬0<K2)\/(0<K2/\¬K2<=M)\/(0<K2/\K2<=M):=by omega
         rcases hpk2 with hr|⟨hr,hr'⟩|⟨hr,hr'⟩
         ·
          go_wp2_with (first
           | (go_at_call 78;refine Calls.mono HC.out ?_;rintro e w2 ⟨n1,n2,n3,n4,rfl,hb2⟩;have HB2:=hdz (HB0.out.trans (hb2.mono HB0.out.size));have HO2:Hid (w2.ownsRow w.heap.size 50 3 (.slice pv qs.length cv) qs.length (Jag qs)):=Jaj ho0.out hb2;have z2:=(hb2.cell (p:=⟨wr.heap.size,2,none⟩) hl0).trans y2;have z1:=(hb2.cell (p:=⟨wr.heap.size,1,none⟩) hl0).trans y1;have z0:=(hb2.cell (p:=⟨wr.heap.size,0,none⟩) hl0).trans y0;have hba:Below w2.heap.size w2 (w2.alloc (.cells #[.int .i64 n1,.int .i64 n2,.int .i64 n3,.int .i64 n4] 25)):=(brf _ w2).alloc (nlr _) _;have t2:=Jav hba z2;have t1:=Jav hba z1;have t0:=Jav hba z0;have hl2:=JbH hb2;have hs2:=HB2.out.size;have HO3:Hid ((w2.alloc (.cells #[.int .i64 n1,.int .i64 n2,.int .i64 n3,.int .i64 n4] 25)).ownsRow w.heap.size 50 3 (.slice pv qs.length cv) qs.length (Jag qs)):=HO2.out.alloc _;have HB3:Hid (Below w.heap.size w (w2.alloc (.cells #[.int .i64 n1,.int .i64 n2,.int .i64 n3,.int .i64 n4] 25))):=HB2.out.alloc HB2.out.size _;clear hb2 hba)
           | (have _:=HO4;go_at_call 20;refine(CP2.out _).mono ?_;rintro e w6 ⟨rfl,hb6⟩;have HB6:=hdz (HB4.out.trans (hb6.mono HB4.out.size));have HO6:Hid (w6.ownsRow w.heap.size 50 3 (.slice pv qs.length cv) qs.length (Jag qs)):=Jaj HO4.out hb6;have p2:=Jav hb6 q2;have hs6:=HB6.out.size;clear hb6)
           | (go_at_call 20;refine(CP1.out _).mono ?_;rintro e w4 ⟨rfl,hb4⟩;have HB4:=hdz (HB3.out.trans (hb4.mono HB3.out.size));have HO4:Hid (w4.ownsRow w.heap.size 50 3 (.slice pv qs.length cv) qs.length (Jag qs)):=Jaj HO3.out hb4;have q2:=Jav hb4 t2;have q1:=Jav hb4 t1;have hs4:=HB4.out.size;have hs24:=hb4.size;rw[wsa]at hs24;clear hb4)
           | fail)
          go_roundw
          case rel =>
           refine⟨k+1,M,by go_num,by first | rfl | go_num,qs,?_,by first | omega | (simp;omega),HQS.out,by omega,by omega,by omega,by omega,HB6.out⟩;exact HO6.out
          case measure=>simp[intOf];omega
         ·
          go_wp2_with (first
           | (go_at_call 78;refine Calls.mono HC.out ?_;rintro e w2 ⟨n1,n2,n3,n4,rfl,hb2⟩;have HB2:=hdz (HB0.out.trans (hb2.mono HB0.out.size));have HO2:Hid (w2.ownsRow w.heap.size 50 3 (.slice pv qs.length cv) qs.length (Jag qs)):=Jaj ho0.out hb2;have z2:=(hb2.cell (p:=⟨wr.heap.size,2,none⟩) hl0).trans y2;have z1:=(hb2.cell (p:=⟨wr.heap.size,1,none⟩) hl0).trans y1;have z0:=(hb2.cell (p:=⟨wr.heap.size,0,none⟩) hl0).trans y0;have hba:Below w2.heap.size w2 (w2.alloc (.cells #[.int .i64 n1,.int .i64 n2,.int .i64 n3,.int .i64 n4] 25)):=(brf _ w2).alloc (nlr _) _;have t2:=Jav hba z2;have t1:=Jav hba z1;have t0:=Jav hba z0;have hl2:=JbH hb2;have hs2:=HB2.out.size;have HO3:Hid ((w2.alloc (.cells #[.int .i64 n1,.int .i64 n2,.int .i64 n3,.int .i64 n4] 25)).ownsRow w.heap.size 50 3 (.slice pv qs.length cv) qs.length (Jag qs)):=HO2.out.alloc _;have HB3:Hid (Below w.heap.size w (w2.alloc (.cells #[.int .i64 n1,.int .i64 n2,.int .i64 n3,.int .i64 n4] 25))):=HB2.out.alloc HB2.out.size _;clear hb2 hba)
           | (have _:=HO4;go_at_call 20;refine(CP2.out _).mono ?_;rintro e w6 ⟨rfl,hb6⟩;have HB6:=hdz (HB4.out.trans (hb6.mono HB4.out.size));have HO6:Hid (w6.ownsRow w.heap.size 50 3 (.slice pv qs.length cv) qs.length (Jag qs)):=Jaj HO4.out hb6;have p2:=Jav hb6 q2;have hs6:=HB6.out.size;clear hb6)
           | (go_at_call 20;refine(CP1.out _).mono ?_;rintro e w4 ⟨rfl,hb4⟩;have HB4:=hdz (HB3.out.trans (hb4.mono HB3.out.size));have HO4:Hid (w4.ownsRow w.heap.size 50 3 (.slice pv qs.length cv) qs.length (Jag qs)):=Jaj HO3.out hb4;have q2:=Jav hb4 t2;have q1:=Jav hb4 t1;have hs4:=HB4.out.size;have hs24:=hb4.size;rw[wsa]at hs24;clear hb4)
           | fail)
          go_roundw
          case rel =>
           refine⟨k+1,M,by go_num,by first | rfl | go_num,qs,?_,by first | omega | (simp;omega),HQS.out,by omega,by omega,by omega,by omega,HB6.out⟩;exact HO6.out
          case measure=>simp[intOf];omega
         ·
          have hw2:IntKind.i64.wrap (M - K2)=M - K2:=by rw[IntKind.wrap_i64];omega
          go_wp2_with (first
           | (go_at_call 78;refine Calls.mono HC.out ?_;rintro e w2 ⟨n1,n2,n3,n4,rfl,hb2⟩;have HB2:=hdz (HB0.out.trans (hb2.mono HB0.out.size));have HO2:Hid (w2.ownsRow w.heap.size 50 3 (.slice pv qs.length cv) qs.length (Jag qs)):=Jaj ho0.out hb2;have z2:=(hb2.cell (p:=⟨wr.heap.size,2,none⟩) hl0).trans y2;have z1:=(hb2.cell (p:=⟨wr.heap.size,1,none⟩) hl0).trans y1;have z0:=(hb2.cell (p:=⟨wr.heap.size,0,none⟩) hl0).trans y0;have hba:Below w2.heap.size w2 (w2.alloc (.cells #[.int .i64 n1,.int .i64 n2,.int .i64 n3,.int .i64 n4] 25)):=(brf _ w2).alloc (nlr _) _;have t2:=Jav hba z2;have t1:=Jav hba z1;have t0:=Jav hba z0;have hl2:=JbH hb2;have hs2:=HB2.out.size;have HO3:Hid ((w2.alloc (.cells #[.int .i64 n1,.int .i64 n2,.int .i64 n3,.int .i64 n4] 25)).ownsRow w.heap.size 50 3 (.slice pv qs.length cv) qs.length (Jag qs)):=HO2.out.alloc _;have HB3:Hid (Below w.heap.size w (w2.alloc (.cells #[.int .i64 n1,.int .i64 n2,.int .i64 n3,.int .i64 n4] 25))):=HB2.out.alloc HB2.out.size _;clear hb2 hba)
           | (have _:=HO4;go_at_call 20;refine(CP2.out _).mono ?_;rintro e w6 ⟨rfl,hb6⟩;have HB6:=hdz (HB4.out.trans (hb6.mono HB4.out.size));have HO6:Hid (w6.ownsRow w.heap.size 50 3 (.slice pv qs.length cv) qs.length (Jag qs)):=Jaj HO4.out hb6;have p2:=Jav hb6 q2;have hs6:=HB6.out.size;clear hb6)
           | (go_at_call 20;refine(CP1.out _).mono ?_;rintro e w4 ⟨rfl,hb4⟩;have HB4:=hdz (HB3.out.trans (hb4.mono HB3.out.size));have HO4:Hid (w4.ownsRow w.heap.size 50 3 (.slice pv qs.length cv) qs.length (Jag qs)):=Jaj HO3.out hb4;have q2:=Jav hb4 t2;have q1:=Jav hb4 t1;have hs4:=HB4.out.size;have hs24:=hb4.size;rw[wsa]at hs24;clear hb4)
           | (have _:=HO6;at_builtin;refine wpList_append_own _ rfl _ _ 23 rfl w.heap.size 50 i0 (.agg #[.int .i64 0,.int .i64 0,.string ⟨#[]⟩]) 3 32 Tryz.underlying23 hi hz0 hz1 hz2 rfl (by decide) _ _ _ rfl (HO6.out.alloc _) ⟨w6.heap.size,0,none⟩ 1 1 (Jas ⟨0,K2,[]⟩) rfl rfl (Jca _ _ (by first | rfl | simp) _ _) (JaD _) (by unfold maxLen;omega) (by omega) (by first | omega | (simp;omega)) ?_)
           | fail)
          intro v'' w'' hown'' hg'' _;obtain⟨p'',c'',rfl⟩:=Jad hown'';have HB7:Hid (Below w.heap.size w w''):=(HB6.out.alloc HB6.out.size _).grown hg'' (by simp;omega) fun k hk=>(HO6.out.lt k hk).1
          have HO7:Hid (w''.ownsRow w.heap.size 50 3 (.slice p'' (qs.length+1) c'') (qs.length+1) (Jag qs++Jas ⟨0,K2,[]⟩)):=hown'';clear hown'' hg'';go_wp2
          go_roundw
          case rel =>
           refine⟨k+1,M - K2,by go_num,by first | rfl | go_num,(qs)++[⟨0,K2,[]⟩],?_,by first | omega | (simp;omega),Jcr (HQS.out) ⟨Int.le_refl _,hN0,by show 0<=K2;omega,by show K2<=N;omega,by simp⟩,by omega,by omega,by omega,by omega,HB7.out⟩;rw[Jbh,List.length_append];exact HO7.out
          case measure=>simp[intOf];omega
        ·
         have hpk2:(¬0<K2)\/(0<K2/\¬K2<=M)\/(0<K2/\K2<=M):=by omega
         rcases hpk2 with hr|⟨hr,hr'⟩|⟨hr,hr'⟩
         ·
          go_wp2_with (first
           | (go_at_call 78;refine Calls.mono HC.out ?_;rintro e w2 ⟨n1,n2,n3,n4,rfl,hb2⟩;have HB2:=hdz (HB0.out.trans (hb2.mono HB0.out.size));have HO2:Hid (w2.ownsRow w.heap.size 50 3 (.slice pv qs.length cv) qs.length (Jag qs)):=Jaj ho0.out hb2;have z2:=(hb2.cell (p:=⟨wr.heap.size,2,none⟩) hl0).trans y2;have z1:=(hb2.cell (p:=⟨wr.heap.size,1,none⟩) hl0).trans y1;have z0:=(hb2.cell (p:=⟨wr.heap.size,0,none⟩) hl0).trans y0;have hba:Below w2.heap.size w2 (w2.alloc (.cells #[.int .i64 n1,.int .i64 n2,.int .i64 n3,.int .i64 n4] 25)):=(brf _ w2).alloc (nlr _) _;have t2:=Jav hba z2;have t1:=Jav hba z1;have t0:=Jav hba z0;have hl2:=JbH hb2;have hs2:=HB2.out.size;have HO3:Hid ((w2.alloc (.cells #[.int .i64 n1,.int .i64 n2,.int .i64 n3,.int .i64 n4] 25)).ownsRow w.heap.size 50 3 (.slice pv qs.length cv) qs.length (Jag qs)):=HO2.out.alloc _;have HB3:Hid (Below w.heap.size w (w2.alloc (.cells #[.int .i64 n1,.int .i64 n2,.int .i64 n3,.int .i64 n4] 25))):=HB2.out.alloc HB2.out.size _;clear hb2 hba)
           | (have _:=HO4;go_at_call 20;refine(CP2.out _).mono ?_;rintro e w6 ⟨rfl,hb6⟩;have HB6:=hdz (HB4.out.trans (hb6.mono HB4.out.size));have HO6:Hid (w6.ownsRow w.heap.size 50 3 (.slice pv qs.length cv) qs.length (Jag qs)):=Jaj HO4.out hb6;have p2:=Jav hb6 q2;have hs6:=HB6.out.size;clear hb6)
           | (go_at_call 20;refine(CP1.out _).mono ?_;rintro e w4 ⟨rfl,hb4⟩;have HB4:=hdz (HB3.out.trans (hb4.mono HB3.out.size));have HO4:Hid (w4.ownsRow w.heap.size 50 3 (.slice pv qs.length cv) qs.length (Jag qs)):=Jaj HO3.out hb4;have q2:=Jav hb4 t2;have q1:=Jav hb4 t1;have hs4:=HB4.out.size;have hs24:=hb4.size;rw[wsa]at hs24;clear hb4)
           | fail)
          go_roundw
          case rel =>
           refine⟨k+1,M,by go_num,by first | rfl | go_num,qs,?_,by first | omega | (simp;omega),HQS.out,by omega,by omega,by omega,by omega,HB6.out⟩;exact HO6.out
          case measure=>simp[intOf];omega
         ·
          go_wp2_with (first
           | (go_at_call 78;refine Calls.mono HC.out ?_;rintro e w2 ⟨n1,n2,n3,n4,rfl,hb2⟩;have HB2:=hdz (HB0.out.trans (hb2.mono HB0.out.size));have HO2:Hid (w2.ownsRow w.heap.size 50 3 (.slice pv qs.length cv) qs.length (Jag qs)):=Jaj ho0.out hb2;have z2:=(hb2.cell (p:=⟨wr.heap.size,2,none⟩) hl0).trans y2;have z1:=(hb2.cell (p:=⟨wr.heap.size,1,none⟩) hl0).trans y1;have z0:=(hb2.cell (p:=⟨wr.heap.size,0,none⟩) hl0).trans y0;have hba:Below w2.heap.size w2 (w2.alloc (.cells #[.int .i64 n1,.int .i64 n2,.int .i64 n3,.int .i64 n4] 25)):=(brf _ w2).alloc (nlr _) _;have t2:=Jav hba z2;have t1:=Jav hba z1;have t0:=Jav hba z0;have hl2:=JbH hb2;have hs2:=HB2.out.size;have HO3:Hid ((w2.alloc (.cells #[.int .i64 n1,.int .i64 n2,.int .i64 n3,.int .i64 n4] 25)).ownsRow w.heap.size 50 3 (.slice pv qs.length cv) qs.length (Jag qs)):=HO2.out.alloc _;have HB3:Hid (Below w.heap.size w (w2.alloc (.cells #[.int .i64 n1,.int .i64 n2,.int .i64 n3,.int .i64 n4] 25))):=HB2.out.alloc HB2.out.size _;clear hb2 hba)
           | (have _:=HO4;go_at_call 20;refine(CP2.out _).mono ?_;rintro e w6 ⟨rfl,hb6⟩;have HB6:=hdz (HB4.out.trans (hb6.mono HB4.out.size));have HO6:Hid (w6.ownsRow w.heap.size 50 3 (.slice pv qs.length cv) qs.length (Jag qs)):=Jaj HO4.out hb6;have p2:=Jav hb6 q2;have hs6:=HB6.out.size;clear hb6)
           | (go_at_call 20;refine(CP1.out _).mono ?_;rintro e w4 ⟨rfl,hb4⟩;have HB4:=hdz (HB3.out.trans (hb4.mono HB3.out.size));have HO4:Hid (w4.ownsRow w.heap.size 50 3 (.slice pv qs.length cv) qs.length (Jag qs)):=Jaj HO3.out hb4;have q2:=Jav hb4 t2;have q1:=Jav hb4 t1;have hs4:=HB4.out.size;have hs24:=hb4.size;rw[wsa]at hs24;clear hb4)
           | fail)
          go_roundw
          case rel =>
           refine⟨k+1,M,by go_num,by first | rfl | go_num,qs,?_,by first | omega | (simp;omega),HQS.out,by omega,by omega,by omega,by omega,HB6.out⟩;exact HO6.out
          case measure=>simp[intOf];omega
         ·
          have hw2:IntKind.i64.wrap (M - K2)=M - K2:=by rw[IntKind.wrap_i64];omega
          go_wp2_with (first
           | (go_at_call 78;refine Calls.mono HC.out ?_;rintro e w2 ⟨n1,n2,n3,n4,rfl,hb2⟩;have HB2:=hdz (HB0.out.trans (hb2.mono HB0.out.size));have HO2:Hid (w2.ownsRow w.heap.size 50 3 (.slice pv qs.length cv) qs.length (Jag qs)):=Jaj ho0.out hb2;have z2:=(hb2.cell (p:=⟨wr.heap.size,2,none⟩) hl0).trans y2;have z1:=(hb2.cell (p:=⟨wr.heap.size,1,none⟩) hl0).trans y1;have z0:=(hb2.cell (p:=⟨wr.heap.size,0,none⟩) hl0).trans y0;have hba:Below w2.heap.size w2 (w2.alloc (.cells #[.int .i64 n1,.int .i64 n2,.int .i64 n3,.int .i64 n4] 25)):=(brf _ w2).alloc (nlr _) _;have t2:=Jav hba z2;have t1:=Jav hba z1;have t0:=Jav hba z0;have hl2:=JbH hb2;have hs2:=HB2.out.size;have HO3:Hid ((w2.alloc (.cells #[.int .i64 n1,.int .i64 n2,.int .i64 n3,.int .i64 n4] 25)).ownsRow w.heap.size 50 3 (.slice pv qs.length cv) qs.length (Jag qs)):=HO2.out.alloc _;have HB3:Hid (Below w.heap.size w (w2.alloc (.cells #[.int .i64 n1,.int .i64 n2,.int .i64 n3,.int .i64 n4] 25))):=HB2.out.alloc HB2.out.size _;clear hb2 hba)
           | (have _:=HO4;go_at_call 20;refine(CP2.out _).mono ?_;rintro e w6 ⟨rfl,hb6⟩;have HB6:=hdz (HB4.out.trans (hb6.mono HB4.out.size));have HO6:Hid (w6.ownsRow w.heap.size 50 3 (.slice pv qs.length cv) qs.length (Jag qs)):=Jaj HO4.out hb6;have p2:=Jav hb6 q2;have hs6:=HB6.out.size;clear hb6)
           | (go_at_call 20;refine(CP1.out _).mono ?_;rintro e w4 ⟨rfl,hb4⟩;have HB4:=hdz (HB3.out.trans (hb4.mono HB3.out.size));have HO4:Hid (w4.ownsRow w.heap.size 50 3 (.slice pv qs.length cv) qs.length (Jag qs)):=Jaj HO3.out hb4;have q2:=Jav hb4 t2;have q1:=Jav hb4 t1;have hs4:=HB4.out.size;have hs24:=hb4.size;rw[wsa]at hs24;clear hb4)
           | (have _:=HO6;at_builtin;refine wpList_append_own _ rfl _ _ 23 rfl w.heap.size 50 i0 (.agg #[.int .i64 0,.int .i64 0,.string ⟨#[]⟩]) 3 32 Tryz.underlying23 hi hz0 hz1 hz2 rfl (by decide) _ _ _ rfl (HO6.out.alloc _) ⟨w6.heap.size,0,none⟩ 1 1 (Jas ⟨0,K2,[]⟩) rfl rfl (Jca _ _ (by first | rfl | simp) _ _) (JaD _) (by unfold maxLen;omega) (by omega) (by first | omega | (simp;omega)) ?_)
           | fail)
          intro v'' w'' hown'' hg'' _;obtain⟨p'',c'',rfl⟩:=Jad hown'';have HB7:Hid (Below w.heap.size w w''):=(HB6.out.alloc HB6.out.size _).grown hg'' (by simp;omega) fun k hk=>(HO6.out.lt k hk).1
          have HO7:Hid (w''.ownsRow w.heap.size 50 3 (.slice p'' (qs.length+1) c'') (qs.length+1) (Jag qs++Jas ⟨0,K2,[]⟩)):=hown'';clear hown'' hg'';go_wp2
          go_roundw
          case rel =>
           refine⟨k+1,M - K2,by go_num,by first | rfl | go_num,(qs)++[⟨0,K2,[]⟩],?_,by first | omega | (simp;omega),Jcr (HQS.out) ⟨Int.le_refl _,hN0,by show 0<=K2;omega,by show K2<=N;omega,by simp⟩,by omega,by omega,by omega,by omega,HB7.out⟩;rw[Jbh,List.length_append];exact HO7.out
          case measure=>simp[intOf];omega
        ·
         have hpk2:(¬0<K2)\/(0<K2/\¬K2<=M - K1)\/(0<K2/\K2<=M - K1):=by omega
         rcases hpk2 with hr|⟨hr,hr'⟩|⟨hr,hr'⟩
         ·
          have hw1:IntKind.i64.wrap (M - K1)=M - K1:=by rw[IntKind.wrap_i64];omega
          go_wp2_with (first
           | (go_at_call 78;refine Calls.mono HC.out ?_;rintro e w2 ⟨n1,n2,n3,n4,rfl,hb2⟩;have HB2:=hdz (HB0.out.trans (hb2.mono HB0.out.size));have HO2:Hid (w2.ownsRow w.heap.size 50 3 (.slice pv qs.length cv) qs.length (Jag qs)):=Jaj ho0.out hb2;have z2:=(hb2.cell (p:=⟨wr.heap.size,2,none⟩) hl0).trans y2;have z1:=(hb2.cell (p:=⟨wr.heap.size,1,none⟩) hl0).trans y1;have z0:=(hb2.cell (p:=⟨wr.heap.size,0,none⟩) hl0).trans y0;have hba:Below w2.heap.size w2 (w2.alloc (.cells #[.int .i64 n1,.int .i64 n2,.int .i64 n3,.int .i64 n4] 25)):=(brf _ w2).alloc (nlr _) _;have t2:=Jav hba z2;have t1:=Jav hba z1;have t0:=Jav hba z0;have hl2:=JbH hb2;have hs2:=HB2.out.size;have HO3:Hid ((w2.alloc (.cells #[.int .i64 n1,.int .i64 n2,.int .i64 n3,.int .i64 n4] 25)).ownsRow w.heap.size 50 3 (.slice pv qs.length cv) qs.length (Jag qs)):=HO2.out.alloc _;have HB3:Hid (Below w.heap.size w (w2.alloc (.cells #[.int .i64 n1,.int .i64 n2,.int .i64 n3,.int .i64 n4] 25))):=HB2.out.alloc HB2.out.size _;clear hb2 hba)
           | (go_at_call 20;refine(CP1.out _).mono ?_;rintro e w4 ⟨rfl,hb4⟩;have HB4:=hdz (HB3.out.trans (hb4.mono HB3.out.size));have HO4:Hid (w4.ownsRow w.heap.size 50 3 (.slice pv qs.length cv) qs.length (Jag qs)):=Jaj HO3.out hb4;have q2:=Jav hb4 t2;have q1:=Jav hb4 t1;have hs4:=HB4.out.size;have hs24:=hb4.size;rw[wsa]at hs24;clear hb4)
           | (at_builtin;refine wpList_append_own _ rfl _ _ 23 rfl w.heap.size 50 i0 (.agg #[.int .i64 0,.int .i64 0,.string ⟨#[]⟩]) 3 32 Tryz.underlying23 hi hz0 hz1 hz2 rfl (by decide) _ _ _ rfl (HO4.out.alloc _) ⟨w4.heap.size,0,none⟩ 1 1 (Jas ⟨K1,0,[]⟩) rfl rfl (Jca _ _ (by first | rfl | simp) _ _) (JaD _) (by unfold maxLen;omega) (by omega) (by first | omega | (simp;omega)) ?_)
           | fail)
          intro v' w' hown' hg' _;obtain⟨p',c',rfl⟩:=Jad hown';have HB5:Hid (Below w.heap.size w w'):=(HB4.out.alloc HB4.out.size _).grown hg' (by simp;omega) fun k hk=>(HO4.out.lt k hk).1
          have HO5:Hid (w'.ownsRow w.heap.size 50 3 (.slice p' (qs.length+1) c') (qs.length+1) (Jag qs++Jas ⟨K1,0,[]⟩)):=hown';have r2':=Jdm hg' (by rw[wsa];omega) HLT.out (Jav ((brf _ w4).alloc (nlr _) _) q2);have r1':=Jdm hg' (by rw[wsa];omega) HLT.out (Jav ((brf _ w4).alloc (nlr _) _) q1);have hs5:=HB5.out.size;clear hown' hg'
          go_wp2_with (first
           | (have _:=HO5;go_at_call 20;refine(CP2.out _).mono ?_;rintro e w6 ⟨rfl,hb6⟩;have HB6:=hdz (HB5.out.trans (hb6.mono HB5.out.size));have HO6:Hid (w6.ownsRow w.heap.size 50 3 (.slice p' (qs.length+1) c') (qs.length+1) (Jag qs++Jas ⟨K1,0,[]⟩)):=Jaj HO5.out hb6;have p2:=Jav hb6 r2';have hs6:=HB6.out.size;clear hb6)
           | fail)
          go_roundw
          case rel =>
           refine⟨k+1,M - K1,by go_num,by first | rfl | go_num,qs++[⟨K1,0,[]⟩],?_,by first | omega | (simp;omega),Jcr HQS.out ⟨by show 0<=K1;omega,by show K1<=N;omega,Int.le_refl _,hN0,by simp⟩,by omega,by omega,by omega,by omega,HB6.out⟩;rw[Jbh,List.length_append];exact HO6.out
          case measure=>simp[intOf];omega
         ·
          have hw1:IntKind.i64.wrap (M - K1)=M - K1:=by rw[IntKind.wrap_i64];omega
          go_wp2_with (first
           | (go_at_call 78;refine Calls.mono HC.out ?_;rintro e w2 ⟨n1,n2,n3,n4,rfl,hb2⟩;have HB2:=hdz (HB0.out.trans (hb2.mono HB0.out.size));have HO2:Hid (w2.ownsRow w.heap.size 50 3 (.slice pv qs.length cv) qs.length (Jag qs)):=Jaj ho0.out hb2;have z2:=(hb2.cell (p:=⟨wr.heap.size,2,none⟩) hl0).trans y2;have z1:=(hb2.cell (p:=⟨wr.heap.size,1,none⟩) hl0).trans y1;have z0:=(hb2.cell (p:=⟨wr.heap.size,0,none⟩) hl0).trans y0;have hba:Below w2.heap.size w2 (w2.alloc (.cells #[.int .i64 n1,.int .i64 n2,.int .i64 n3,.int .i64 n4] 25)):=(brf _ w2).alloc (nlr _) _;have t2:=Jav hba z2;have t1:=Jav hba z1;have t0:=Jav hba z0;have hl2:=JbH hb2;have hs2:=HB2.out.size;have HO3:Hid ((w2.alloc (.cells #[.int .i64 n1,.int .i64 n2,.int .i64 n3,.int .i64 n4] 25)).ownsRow w.heap.size 50 3 (.slice pv qs.length cv) qs.length (Jag qs)):=HO2.out.alloc _;have HB3:Hid (Below w.heap.size w (w2.alloc (.cells #[.int .i64 n1,.int .i64 n2,.int .i64 n3,.int .i64 n4] 25))):=HB2.out.alloc HB2.out.size _;clear hb2 hba)
           | (go_at_call 20;refine(CP1.out _).mono ?_;rintro e w4 ⟨rfl,hb4⟩;have HB4:=hdz (HB3.out.trans (hb4.mono HB3.out.size));have HO4:Hid (w4.ownsRow w.heap.size 50 3 (.slice pv qs.length cv) qs.length (Jag qs)):=Jaj HO3.out hb4;have q2:=Jav hb4 t2;have q1:=Jav hb4 t1;have hs4:=HB4.out.size;have hs24:=hb4.size;rw[wsa]at hs24;clear hb4)
           | (at_builtin;refine wpList_append_own _ rfl _ _ 23 rfl w.heap.size 50 i0 (.agg #[.int .i64 0,.int .i64 0,.string ⟨#[]⟩]) 3 32 Tryz.underlying23 hi hz0 hz1 hz2 rfl (by decide) _ _ _ rfl (HO4.out.alloc _) ⟨w4.heap.size,0,none⟩ 1 1 (Jas ⟨K1,0,[]⟩) rfl rfl (Jca _ _ (by first | rfl | simp) _ _) (JaD _) (by unfold maxLen;omega) (by omega) (by first | omega | (simp;omega)) ?_)
           | fail)
          intro v' w' hown' hg' _;obtain⟨p',c',rfl⟩:=Jad hown';have HB5:Hid (Below w.heap.size w w'):=(HB4.out.alloc HB4.out.size _).grown hg' (by simp;omega) fun k hk=>(HO4.out.lt k hk).1
          have HO5:Hid (w'.ownsRow w.heap.size 50 3 (.slice p' (qs.length+1) c') (qs.length+1) (Jag qs++Jas ⟨K1,0,[]⟩)):=hown';have r2':=Jdm hg' (by rw[wsa];omega) HLT.out (Jav ((brf _ w4).alloc (nlr _) _) q2);have r1':=Jdm hg' (by rw[wsa];omega) HLT.out (Jav ((brf _ w4).alloc (nlr _) _) q1);have hs5:=HB5.out.size;clear hown' hg'
          go_wp2_with (first
           | (have _:=HO5;go_at_call 20;refine(CP2.out _).mono ?_;rintro e w6 ⟨rfl,hb6⟩;have HB6:=hdz (HB5.out.trans (hb6.mono HB5.out.size));have HO6:Hid (w6.ownsRow w.heap.size 50 3 (.slice p' (qs.length+1) c') (qs.length+1) (Jag qs++Jas ⟨K1,0,[]⟩)):=Jaj HO5.out hb6;have p2:=Jav hb6 r2';have hs6:=HB6.out.size;clear hb6)
           | fail)
          go_roundw
          case rel =>
           refine⟨k+1,M - K1,by go_num,by first | rfl | go_num,qs++[⟨K1,0,[]⟩],?_,by first | omega | (simp;omega),Jcr HQS.out ⟨by show 0<=K1;omega,by show K1<=N;omega,Int.le_refl _,hN0,by simp⟩,by omega,by omega,by omega,by omega,HB6.out⟩;rw[Jbh,List.length_append];exact HO6.out
          case measure=>simp[intOf];omega
         ·
          have hw1:IntKind.i64.wrap (M - K1)=M - K1:=by rw[IntKind.wrap_i64];omega
          go_wp2_with (first
           | (go_at_call 78;refine Calls.mono HC.out ?_;rintro e w2 ⟨n1,n2,n3,n4,rfl,hb2⟩;have HB2:=hdz (HB0.out.trans (hb2.mono HB0.out.size));have HO2:Hid (w2.ownsRow w.heap.size 50 3 (.slice pv qs.length cv) qs.length (Jag qs)):=Jaj ho0.out hb2;have z2:=(hb2.cell (p:=⟨wr.heap.size,2,none⟩) hl0).trans y2;have z1:=(hb2.cell (p:=⟨wr.heap.size,1,none⟩) hl0).trans y1;have z0:=(hb2.cell (p:=⟨wr.heap.size,0,none⟩) hl0).trans y0;have hba:Below w2.heap.size w2 (w2.alloc (.cells #[.int .i64 n1,.int .i64 n2,.int .i64 n3,.int .i64 n4] 25)):=(brf _ w2).alloc (nlr _) _;have t2:=Jav hba z2;have t1:=Jav hba z1;have t0:=Jav hba z0;have hl2:=JbH hb2;have hs2:=HB2.out.size;have HO3:Hid ((w2.alloc (.cells #[.int .i64 n1,.int .i64 n2,.int .i64 n3,.int .i64 n4] 25)).ownsRow w.heap.size 50 3 (.slice pv qs.length cv) qs.length (Jag qs)):=HO2.out.alloc _;have HB3:Hid (Below w.heap.size w (w2.alloc (.cells #[.int .i64 n1,.int .i64 n2,.int .i64 n3,.int .i64 n4] 25))):=HB2.out.alloc HB2.out.size _;clear hb2 hba)
           | (go_at_call 20;refine(CP1.out _).mono ?_;rintro e w4 ⟨rfl,hb4⟩;have HB4:=hdz (HB3.out.trans (hb4.mono HB3.out.size));have HO4:Hid (w4.ownsRow w.heap.size 50 3 (.slice pv qs.length cv) qs.length (Jag qs)):=Jaj HO3.out hb4;have q2:=Jav hb4 t2;have q1:=Jav hb4 t1;have hs4:=HB4.out.size;have hs24:=hb4.size;rw[wsa]at hs24;clear hb4)
           | (at_builtin;refine wpList_append_own _ rfl _ _ 23 rfl w.heap.size 50 i0 (.agg #[.int .i64 0,.int .i64 0,.string ⟨#[]⟩]) 3 32 Tryz.underlying23 hi hz0 hz1 hz2 rfl (by decide) _ _ _ rfl (HO4.out.alloc _) ⟨w4.heap.size,0,none⟩ 1 1 (Jas ⟨K1,0,[]⟩) rfl rfl (Jca _ _ (by first | rfl | simp) _ _) (JaD _) (by unfold maxLen;omega) (by omega) (by first | omega | (simp;omega)) ?_)
           | fail)
          intro v' w' hown' hg' _;obtain⟨p',c',rfl⟩:=Jad hown';have HB5:Hid (Below w.heap.size w w'):=(HB4.out.alloc HB4.out.size _).grown hg' (by simp;omega) fun k hk=>(HO4.out.lt k hk).1
          have HO5:Hid (w'.ownsRow w.heap.size 50 3 (.slice p' (qs.length+1) c') (qs.length+1) (Jag qs++Jas ⟨K1,0,[]⟩)):=hown';have r2':=Jdm hg' (by rw[wsa];omega) HLT.out (Jav ((brf _ w4).alloc (nlr _) _) q2);have r1':=Jdm hg' (by rw[wsa];omega) HLT.out (Jav ((brf _ w4).alloc (nlr _) _) q1);have hs5:=HB5.out.size;clear hown' hg';have hw2:IntKind.i64.wrap (M - K1 - K2)=M - K1 - K2:=by rw[IntKind.wrap_i64];omega
          go_wp2_with (first
           | (have _:=HO5;go_at_call 20;refine(CP2.out _).mono ?_;rintro e w6 ⟨rfl,hb6⟩;have HB6:=hdz (HB5.out.trans (hb6.mono HB5.out.size));have HO6:Hid (w6.ownsRow w.heap.size 50 3 (.slice p' (qs.length+1) c') (qs.length+1) (Jag qs++Jas ⟨K1,0,[]⟩)):=Jaj HO5.out hb6;have p2:=Jav hb6 r2';have hs6:=HB6.out.size;clear hb6)
           | (have _:=HO6;at_builtin;refine wpList_append_own _ rfl _ _ 23 rfl w.heap.size 50 i0 (.agg #[.int .i64 0,.int .i64 0,.string ⟨#[]⟩]) 3 32 Tryz.underlying23 hi hz0 hz1 hz2 rfl (by decide) _ _ _ rfl (HO6.out.alloc _) ⟨w6.heap.size,0,none⟩ 1 1 (Jas ⟨0,K2,[]⟩) rfl rfl (Jca _ _ (by first | rfl | simp) _ _) (JaD _) (by unfold maxLen;omega) (by omega) (by first | omega | (simp;omega)) ?_)
           | fail)
          intro v'' w'' hown'' hg'' _;obtain⟨p'',c'',rfl⟩:=Jad hown'';have HB7:Hid (Below w.heap.size w w''):=(HB6.out.alloc HB6.out.size _).grown hg'' (by simp;omega) fun k hk=>(HO6.out.lt k hk).1
          have HO7:Hid (w''.ownsRow w.heap.size 50 3 (.slice p'' ((qs.length+1)+1) c'') ((qs.length+1)+1) (Jag qs++(Jas ⟨K1,0,[]⟩++Jas ⟨0,K2,[]⟩))):=hown'';clear hown'' hg'';go_wp2
          go_roundw
          case rel =>
           refine⟨k+1,M - K1 - K2,by go_num,by first | rfl | go_num,(qs++[⟨K1,0,[]⟩])++[⟨0,K2,[]⟩],?_,by first | omega | (simp;omega),Jcr (Jcr HQS.out ⟨by show 0<=K1;omega,by show K1<=N;omega,Int.le_refl _,hN0,by simp⟩) ⟨Int.le_refl _,hN0,by show 0<=K2;omega,by show K2<=N;omega,by simp⟩,by omega,by omega,by omega,by omega,HB7.out⟩;have e1:Jag (qs++[(⟨K1,0,[]⟩:Pt)]++[(⟨0,K2,[]⟩:Pt)])=Jag qs++(Jas ⟨K1,0,[]⟩++Jas ⟨0,K2,[]⟩):=by rw[Jbh,Jbh,List.append_assoc]
           have e2:(qs++[(⟨K1,0,[]⟩:Pt)]++[(⟨0,K2,[]⟩:Pt)]).length=qs.length+1+1:=by simp
           rw[e1,e2];exact HO7.out
          case measure=>simp[intOf];omega
      . have hUe:U.isEmpty=false:=by cases U with | nil=>exact absurd rfl hU | cons x U=>rfl
        by_cases hsc:(scan U).2=true
        . have HC:Hid (Calls Tryz.prog 78 #[.string ⟨U.toArray⟩] (wr.alloc (.cells #[.int .i64 K,.int .i64 D,.string ⟨U.toArray⟩] 50)) fun e w'=>∃n1 n2 n3 n4,e=.returned (.tuple #[.agg #[.int .i64 n1,.int .i64 n2,.int .i64 n3,.int .i64 n4],.nilIface])/\Below (wr.alloc (.cells #[.int .i64 K,.int .i64 D,.string ⟨U.toArray⟩] 50)).heap.size (wr.alloc (.cells #[.int .i64 K,.int .i64 D,.string ⟨U.toArray⟩] 50)) w'):=Calls.mono cC fun e w' h=>by
            obtain⟨v,x,rfl,hb,⟨_,rfl,rfl⟩|⟨h0,_⟩⟩:=h
            . exact⟨_,_,_,_,rfl,hb⟩
            . rw[show(ByteArray.mk U.toArray).data.toList=U from rfl,hsc]at h0;cases h0
          clear cC hsc hU hpk
          go_wp2_with (first
           | (go_at_call 78;refine Calls.mono HC.out ?_;rintro e w2 ⟨n1,n2,n3,n4,rfl,hb2⟩;have HB2:=hdz (HB0.out.trans (hb2.mono HB0.out.size));have HO2:Hid (w2.ownsRow w.heap.size 50 3 (.slice pv qs.length cv) qs.length (Jag qs)):=Jaj ho0.out hb2;have z2:=(hb2.cell (p:=⟨wr.heap.size,2,none⟩) hl0).trans y2;have z1:=(hb2.cell (p:=⟨wr.heap.size,1,none⟩) hl0).trans y1;have z0:=(hb2.cell (p:=⟨wr.heap.size,0,none⟩) hl0).trans y0;have hba:Below w2.heap.size w2 (w2.alloc (.cells #[.int .i64 n1,.int .i64 n2,.int .i64 n3,.int .i64 n4] 25)):=(brf _ w2).alloc (nlr _) _;have t2:=Jav hba z2;have t1:=Jav hba z1;have t0:=Jav hba z0;have hl2:=JbH hb2;have hs2:=HB2.out.size;have HO3:Hid ((w2.alloc (.cells #[.int .i64 n1,.int .i64 n2,.int .i64 n3,.int .i64 n4] 25)).ownsRow w.heap.size 50 3 (.slice pv qs.length cv) qs.length (Jag qs)):=HO2.out.alloc _;have HB3:Hid (Below w.heap.size w (w2.alloc (.cells #[.int .i64 n1,.int .i64 n2,.int .i64 n3,.int .i64 n4] 25))):=HB2.out.alloc HB2.out.size _;clear hb2 hba)
           | (at_builtin;refine wpList_append_own _ rfl _ _ 23 rfl w.heap.size 50 i0 (.agg #[.int .i64 0,.int .i64 0,.string ⟨#[]⟩]) 3 32 Tryz.underlying23 hi hz0 hz1 hz2 rfl (by decide) _ _ _ rfl (HO3.out.alloc _) ⟨w2.heap.size+1,0,none⟩ 1 1 (Jas ⟨0,0,U⟩) rfl rfl (Jca _ _ (by first | rfl | simp) _ _) (JaD _) (by unfold maxLen;omega) (by omega) (by first | omega | (simp;omega)) ?_)
           | fail)
          intro v' w' hown' hg' _;obtain⟨p',c',rfl⟩:=Jad hown';have HBW':Hid (Below w.heap.size w w'):=(HB3.out.alloc HB3.out.size _).grown hg' (by simp;omega) fun k hk=>(HO3.out.lt k hk).1
          have HO':Hid (w'.ownsRow w.heap.size 50 3 (.slice p' (qs.length+1) c') (qs.length+1) (Jag qs++Jas ⟨0,0,U⟩)):=hown';clear hown' hg';go_wp2
          go_roundw
          case rel =>
           refine⟨k+1,M,by go_num,rfl,qs++[⟨0,0,U⟩],?_,by simp;omega,Jcr HQS.out ⟨Int.le_refl _,hN0,Int.le_refl _,hN0,by show U.length<=150;omega⟩,hM0,hM1,by omega,by omega,HBW'.out⟩;rw[Jbh,List.length_append];exact HO'.out
          case measure=>simp[intOf];omega
        . have hsc:(scan U).2=false:=Bool.eq_false_iff.2 hsc
          have HC:Hid (Calls Tryz.prog 78 #[.string ⟨U.toArray⟩] (wr.alloc (.cells #[.int .i64 K,.int .i64 D,.string ⟨U.toArray⟩] 50)) fun e w'=>∃n1 n2 n3 n4 bx,e=.returned (.tuple #[.agg #[.int .i64 n1,.int .i64 n2,.int .i64 n3,.int .i64 n4],.iface 273 (.pointer (some ⟨bx,0,none⟩))])/\Below (wr.alloc (.cells #[.int .i64 K,.int .i64 D,.string ⟨U.toArray⟩] 50)).heap.size (wr.alloc (.cells #[.int .i64 K,.int .i64 D,.string ⟨U.toArray⟩] 50)) w'):=Calls.mono cC fun e w' h=>by
           obtain⟨v,x,rfl,hb,⟨h0,_⟩|⟨_,rfl,bx,rfl,_⟩⟩:=h
           . rw[show(ByteArray.mk U.toArray).data.toList=U from rfl,hsc]at h0;cases h0
           . exact⟨_,_,_,_,bx,rfl,hb⟩
          clear cC hsc hU;have hpk2:(¬0<K2)\/(0<K2/\¬K2<=M)\/(0<K2/\K2<=M):=by omega
          rcases hpk with hp|⟨hp,hp'⟩|⟨hp,hp'⟩<;>rcases hpk2 with hr|⟨hr,hr'⟩|⟨hr,hr'⟩ <;>
          . go_wp2_with (first
              | (go_at_call 78;refine Calls.mono HC.out ?_;rintro e w2 ⟨n1,n2,n3,n4,bx,rfl,hb2⟩;have HB2:=hdz (HB0.out.trans (hb2.mono HB0.out.size));have HO2:Hid (w2.ownsRow w.heap.size 50 3 (.slice pv qs.length cv) qs.length (Jag qs)):=Jaj ho0.out hb2;have z2:=(hb2.cell (p:=⟨wr.heap.size,2,none⟩) hl0).trans y2;have z1:=(hb2.cell (p:=⟨wr.heap.size,1,none⟩) hl0).trans y1;have z0:=(hb2.cell (p:=⟨wr.heap.size,0,none⟩) hl0).trans y0;have hba:Below w2.heap.size w2 (w2.alloc (.cells #[.int .i64 n1,.int .i64 n2,.int .i64 n3,.int .i64 n4] 25)):=(brf _ w2).alloc (nlr _) _;have t2:=Jav hba z2;have t1:=Jav hba z1;have t0:=Jav hba z0;have hl2:=JbH hb2;have hs2:=HB2.out.size;have HO3:Hid ((w2.alloc (.cells #[.int .i64 n1,.int .i64 n2,.int .i64 n3,.int .i64 n4] 25)).ownsRow w.heap.size 50 3 (.slice pv qs.length cv) qs.length (Jag qs)):=HO2.out.alloc _;have HB3:Hid (Below w.heap.size w (w2.alloc (.cells #[.int .i64 n1,.int .i64 n2,.int .i64 n3,.int .i64 n4] 25))):=HB2.out.alloc HB2.out.size _;clear hb2 hba)
              | (have _:=HO4;go_at_call 20;refine(CP2.out _).mono ?_;rintro e w6 ⟨rfl,hb6⟩;have HB6:=hdz (HB4.out.trans (hb6.mono HB4.out.size));have HO6:Hid (w6.ownsRow w.heap.size 50 3 (.slice pv qs.length cv) qs.length (Jag qs)):=Jaj HO4.out hb6;have p2:=Jav hb6 q2;have hs6:=HB6.out.size;clear hb6)
              | (go_at_call 20;refine(CP1.out _).mono ?_;rintro e w4 ⟨rfl,hb4⟩;have HB4:=hdz (HB3.out.trans (hb4.mono HB3.out.size));have HO4:Hid (w4.ownsRow w.heap.size 50 3 (.slice pv qs.length cv) qs.length (Jag qs)):=Jaj HO3.out hb4;have q2:=Jav hb4 t2;have q1:=Jav hb4 t1;have hs4:=HB4.out.size;have hs24:=hb4.size;rw[wsa]at hs24;clear hb4)
              | fail)
            go_roundw
            case rel=>exact⟨k+1,M,by go_num,rfl,qs,HO6.out,by omega,HQS.out,hM0,hM1,by omega,by omega,HB6.out⟩
            case measure=>simp[intOf];omega
  . have hexit:k=n\/(k<n/\k=30):=by omega
    have hql61:qs.length<=60:=by omega
    by_cases hMp:0<M
    . rcases hexit with rfl | ⟨h1,rfl⟩
      . have hex:¬(k:Int)<(k:Int):=by omega
        go_wp2_with (first
         | (at_builtin;refine wpList_append_own _ rfl _ _ 23 rfl w.heap.size 50 i0 (.agg #[.int .i64 0,.int .i64 0,.string ⟨#[]⟩]) 3 32 Tryz.underlying23 hi hz0 hz1 hz2 rfl (by decide) _ _ _ rfl (HOW.out.alloc _) ⟨wr.heap.size,0,none⟩ 1 1 (Jas ⟨M,0,[]⟩) rfl rfl (Jca _ _ (by first | rfl | simp) _ _) (JaD _) (by unfold maxLen;omega) (by omega) (by first | omega | (simp;omega)) ?_)
         | fail)
        intro v' w' hown' hg' _;obtain⟨p',c',rfl⟩:=Jad hown';have HBW':Hid (Below w.heap.size w w'):=(HWR.out.alloc HWR.out.size _).grown hg' (by simp;omega) fun k hk=>(HOW.out.lt k hk).1
        have HO':Hid (w'.ownsRow w.heap.size 50 3 (.slice p' (qs.length+1) c') (qs.length+1) (Jag qs++Jas ⟨M,0,[]⟩)):=hown';clear hown' hg';go_wp2;go_ret;refine⟨_,qs++[⟨M,0,[]⟩],rfl,?_,by simp;omega,Jcr HQS.out ⟨hM0,hM1,Int.le_refl _,hN0,by simp⟩,HBW'.out⟩;rw[Jbh,List.length_append];exact HO'.out
      . have hex:(30:Int)<(n:Int):=by omega
        go_wp2_with (first
         | (at_builtin;refine wpList_append_own _ rfl _ _ 23 rfl w.heap.size 50 i0 (.agg #[.int .i64 0,.int .i64 0,.string ⟨#[]⟩]) 3 32 Tryz.underlying23 hi hz0 hz1 hz2 rfl (by decide) _ _ _ rfl (HOW.out.alloc _) ⟨wr.heap.size,0,none⟩ 1 1 (Jas ⟨M,0,[]⟩) rfl rfl (Jca _ _ (by first | rfl | simp) _ _) (JaD _) (by unfold maxLen;omega) (by omega) (by first | omega | (simp;omega)) ?_)
         | fail)
        intro v' w' hown' hg' _;obtain⟨p',c',rfl⟩:=Jad hown';have HBW':Hid (Below w.heap.size w w'):=(HWR.out.alloc HWR.out.size _).grown hg' (by simp;omega) fun k hk=>(HOW.out.lt k hk).1
        have HO':Hid (w'.ownsRow w.heap.size 50 3 (.slice p' (qs.length+1) c') (qs.length+1) (Jag qs++Jas ⟨M,0,[]⟩)):=hown';clear hown' hg';go_wp2;go_ret;refine⟨_,qs++[⟨M,0,[]⟩],rfl,?_,by simp;omega,Jcr HQS.out ⟨hM0,hM1,Int.le_refl _,hN0,by simp⟩,HBW'.out⟩;rw[Jbh,List.length_append];exact HO'.out
    . rcases hexit with rfl | ⟨h1,rfl⟩
      . have hex:¬(k:Int)<(k:Int):=by omega
        go_wp2;go_ret
        first | exact⟨_,qs,rfl,HOW.out,by omega,HQS.out,HWR.out⟩ | exact⟨_,rfl,qs,HOW.out,by omega,HQS.out,HWR.out⟩
      . have hex:(30:Int)<(n:Int):=by omega
        go_wp2;go_ret
        first | exact⟨_,qs,rfl,HOW.out,by omega,HQS.out,HWR.out⟩ | exact⟨_,rfl,qs,HOW.out,by omega,HQS.out,HWR.out⟩
end
end Go.Proofs.YtedgnlgjmnccgabGreatDoor
namespace Go.Proofs
open Go.Shelf
def Tryz.laysM316_ren:Go.Shelf.Ren:=⟨fun | 316=>176 | n=>n,fun | 9=>9 | 3=>3 | 4=>4 | 37=>158 | 0=>0 | 127=>272 | 5=>5 | n=>n,fun | n=>n⟩
theorem Tryz.laysM316:Go.Proofs.LaysM.n316 Tryz.prog Tryz.laysM316_ren:={
 mixed:=by kernel_rfl
 f316:=Tryz.func176.trans (congrArg some (by kernel_rfl))
 t0:=Tryz.underlying0
 a0:=Tryz.isAgg0
 z0:=Tryz.sizeOf0
 v0:=Tryz.zeroValue0
 t3:=Tryz.underlying3
 a3:=Tryz.isAgg3
 z3:=Tryz.sizeOf3
 v3:=Tryz.zeroValue3
 t4:=Tryz.underlying4
 a4:=Tryz.isAgg4
 z4:=Tryz.sizeOf4
 v4:=Tryz.zeroValue4
 t9:=Tryz.underlying9
 a9:=Tryz.isAgg9
 z9:=Tryz.sizeOf9
 v9:=Tryz.zeroValue9
 t37:=Tryz.underlying158
 a37:=Tryz.isAgg158
 z37:=Tryz.sizeOf158
 v37:=Tryz.zeroValue158
 t127:=Tryz.underlying272
 a127:=Tryz.isAgg272
 z127:=Tryz.sizeOf272
 v127:=Tryz.zeroValue272
 t5:=Tryz.underlying5
 a5:=Tryz.isAgg5
 z5:=Tryz.sizeOf5
 v5:=Tryz.zeroValue5
 i0:=by kernel_rfl
 i3:=by kernel_rfl
 i4:=by kernel_rfl
 i5:=by kernel_rfl
 i9:=by kernel_rfl
 i37:=by kernel_rfl
 i127:=by kernel_rfl }
open Go.RowKit in
theorem Tryz.stringslite_Clone(s:ByteArray)(w:World)(hlim:s.size<=281474976710656) :
    Calls Tryz.prog 176 #[.string s] w fun e w'=>e=.returned (.string s)/\Below w.heap.size w w':=Any.stringslite_Clone Tryz.laysM316 s w hlim
end Go.Proofs
namespace Go.Proofs.YtedgnlgjmnccgabGreatDoor
section
open Go.RowKit
attribute [local go_sem] Oper.semAt_some
theorem Jhj{l:List Pt}(hl:∀q∈l,0<=lenP q):0<=Jar l:=by
 induction l with
 | nil=>simp[Jar]
 | cons p l ih =>
  have:=hl p (by simp);have:=ih fun x hx=>hl x (by simp[hx])
  simp only[Jar,List.map_cons,List.sum_cons]at this ⊢;omega
theorem JkW:∀{ps:List Pt}{N:Int},(∀q∈ps,0<=lenP q)->chk2 ps N=0->Jar ps=N
 | [],N,_,h=>by
  unfold chk2 at h
  split at h
  . rename_i e;simp[Jar,e]
  . cases h
 | p :: ps,N,hl,h=>by
  unfold chk2 at h
  split at h
  . cases h
  . have:=JkW (fun q hq=>hl q (by simp[hq])) h
    have e:Jar (p :: ps)=lenP p+Jar ps:=by simp[Jar]
    rw[e,this];unfold lenP;omega
theorem JbZ{ps:List Pt}{N:Int}(h:chkE ps N=0):(∀p∈ps,oneB p=true/\(scan p.put).2=true)/\Jar ps=N/\∀q∈ps,0<=lenP q:=by
 unfold chkE at h
 split at h
 . rename_i h1
   have h2:=JfN h1;have h3:∀q∈ps,0<=lenP q:=fun q hq=>by
    have:=(JcG (h2 q hq).1).1;unfold JbA at this;unfold lenP;omega
   exact⟨h2,JkW h3 h,h3⟩
 . rename_i h1;exact absurd h h1
theorem Jd5{q:Pt}(h:oneB q=true):(0<q.keep/\q.drop=0/\q.put=[])\/(q.keep=0/\0<q.drop/\q.put=[])\/(q.keep=0/\q.drop=0/\q.put≠[]):=by
 unfold oneB at h
 split at h
 . rename_i h1;exact .inl ⟨of_decide_eq_true h,h1.1,h1.2⟩
 . split at h
   . rename_i h1 h2;exact .inr (.inl ⟨h2.1,of_decide_eq_true h,h2.2⟩)
   . rename_i h1 h2
     have h3:=of_decide_eq_true h;exact .inr (.inr ⟨h3.1,h3.2,fun e=>h1 ⟨h3.2,e⟩⟩)
def Ja3 (u:Int):Prop:=u=1\/u=2\/u=3
end
section
variable {u : Int}
def JdP (n:Int) (q:Pt):Pt:=if 0<q.keep then ⟨n,0,[]⟩ else if 0<q.drop then ⟨0,n,[]⟩ else ⟨0,0,q.put⟩
def upTo (rs:List Nat) (u a:Int):List Nat:=find (Jd2 u a) [] rs
def JaU (rs:List Nat) (u a:Int):Bool:=decide (by_ u (upTo rs u a)=a)
def JhT (rs:List Nat) (u v:Int):Int->List Pt->List Pt×Bool
 | _,[]=>([],true)
 | a, q :: qs=>if JaU rs u (a+lenP q) then
     (JdP (by_ v (upTo rs u (a+lenP q)) - by_ v (upTo rs u a)) q :: (JhT rs u v (a+lenP q) qs).1,(JhT rs u v (a+lenP q) qs).2)
  else ([],false)
theorem C2_one(r:Nat):1<=C2 [r]:=by
 unfold C2 sum2 wide;simp only[List.map_cons,List.map_nil,List.sum_cons,List.sum_nil,Int.add_zero];unfold cH
 split<;>omega
theorem Jna(hu:Ja3 u)(r:Nat):1<=by_ u [r]:=by
 unfold by_
 rcases hu with rfl|rfl|rfl
 . rw[if_pos rfl,JbU]
   have:=List.length_pos_iff.2 (JmS r);have e:encs [r]=enc r:=by simp[encs]
   rw[e];omega
 . rw[if_neg (by decide),if_pos rfl]
   exact C2_one r
 . rw[if_neg (by decide),if_neg (by decide),if_pos rfl]
   show(1:Int)<=((1:Nat):Int);omega
theorem JjH(hu:Ja3 u):∀(rs:List Nat)(i j:Nat),i<j->j<=rs.length->by_ u (rs.take i)<by_ u (rs.take j)
 | rs,i,j,h,hj=>by
  have e:rs.take j=rs.take i++(rs.drop i).take (j - i):=by rw[←List.take_add];congr 1;omega
  rw[e,Jb3];have hne:(rs.drop i).take (j - i)≠[]:=fun e=>by
   have:=congrArg List.length e;rw[List.length_take,List.length_drop,List.length_nil]at this;omega
  cases hx:(rs.drop i).take (j - i) with
  | nil=>exact absurd hx hne
  | cons r x =>
   have e2:r :: x=[r]++x:=rfl;rw[e2,Jb3];have:=Jna hu r;have:=Jea u x;omega
theorem JiH(u a:Int):∀(rs pre:List Nat),a<=by_ u (pre++rs)->∃k,k<=rs.length/\find (Jd2 u a) pre rs=pre++rs.take k/\a<=by_ u (pre++rs.take k)/\∀i,i<k->by_ u (pre++rs.take i)<a
 | [],pre,h=>by
  refine⟨0,nlr _,?_,by simpa using h,fun i hi=>absurd hi (Nat.not_lt_zero _)⟩;have:Jd2 u a pre=true:=decide_eq_true (by simpa using h);unfold find;rw[if_pos this];simp
 | r :: rs,pre,h=>by
  by_cases h0:a<=by_ u pre
  . refine⟨0,Nat.zero_le _,?_,by simpa using h0,fun i hi=>absurd hi (Nat.not_lt_zero _)⟩
    have:Jd2 u a pre=true:=decide_eq_true h0;unfold find;rw[if_pos this];simp
  . obtain ⟨k,k1,k2,k3,k4⟩:=JiH u a rs (pre++[r]) (by simpa using h)
    have e:∀i,pre++(r :: rs).take (i+1)=(pre++[r])++rs.take i:=fun i=>by simp
    refine⟨k+1,by simp;omega,?_,by rw[e];exact k3,fun i hi=>?_⟩
    . rw[e,←k2]
      have hf:Jd2 u a pre=false:=decide_eq_false h0
      conv=>lhs;unfold find
      rw[hf,if_neg (by decide),seek]
      conv=>rhs;unfold find
      split
      . rfl
      . simp
    . cases i with
      | zero=>rw[List.take_zero,List.append_nil];omega
      | succ i=>rw[e];exact k4 i (by omega)
theorem JfV(rs:List Nat)(u a:Int)(h:a<=by_ u rs):∃k,k<=rs.length/\upTo rs u a=rs.take k/\a<=by_ u (rs.take k)/\∀i,i<k->by_ u (rs.take i)<a:=by
 obtain⟨k,h1,h2,h3,h4⟩:=JiH u a rs [] (by simpa using h);exact⟨k,h1,by unfold upTo;simpa using h2,by simpa using h3,fun i hi=>by simpa using h4 i hi⟩
theorem JdY(hu:Ja3 u){rs:List Nat}{a:Int}(h:a<=by_ u rs) :
    (JaU rs u a=true->∃k,k<=rs.length/\upTo rs u a=rs.take k/\by_ u (rs.take k)=a/\∀i,i<k->by_ u (rs.take i)≠a) /\
    (JaU rs u a=false->∀i,i<=rs.length->by_ u (rs.take i)≠a):=by
 obtain⟨k,h1,h2,h3,h4⟩:=JfV rs u a h;unfold JaU;rw[h2];refine⟨fun e=>⟨k,h1,h2 ▸ rfl,of_decide_eq_true e,fun i hi=>by have:=h4 i hi;omega⟩,fun e i hi e2=>?_⟩;have hne:by_ u (rs.take k)≠a:=of_decide_eq_false e
 by_cases hik:i<k
 . have:=h4 i hik;omega
 . by_cases hke:k=i
   . subst hke;exact hne e2
   . have:=JjH hu rs k i (by omega) hi
     omega
theorem JjW(rs:List Nat)(u:Int):upTo rs u 0=[]:=JpA u rs
end
section
open Go.RowKit
attribute [local go_sem] Oper.semAt_some
def turnO (rs:List Nat) (u v:Int) (qs:List Pt):List Pt:=if (JhT rs u v 0 qs).2 then (JhT rs u v 0 qs).1 else []
def turnX (rs:List Nat) (u v:Int) (qs:List Pt):Int:=if (JhT rs u v 0 qs).2 then 0 else 10
end
section
open Go.RowKit
structure BdK (s:KSt) (T k:Nat):Prop where
 put:s.put.length<=T
 d0:0<=s.drop
 dk:s.drop<=k
 k0:0<=s.keep
 kk:s.keep<=k
 len:s.out.length<=3*k
theorem Jo4(s:NSt):(JaC s).length<=s.out.length+2:=by
 unfold JaC;simp only[List.length_append]
 split<;>split<;>simp
theorem BdK.step{s:KSt}{T k:Nat}(h:BdK s T k)(x:List UInt8×Bool):BdK (stepK s x) (T+x.1.length) (k+1):=by
 obtain⟨q,d⟩:=x;obtain⟨h1,h2,h3,h4,h5,h6⟩:=h
 have hf:(JfK s q d).put.length<=T+q.length/\(JfK s q d).drop=s.drop/\0<=(JfK s q d).keep/\(JfK s q d).keep<=k/\(JfK s q d).out.length<=3*k+1:=by
  unfold JfK
  split
  . refine ⟨by show(s.put++q).length<=_;rw[List.length_append];omega,rfl,?_,?_,?_⟩
    . show 0<=if 0<s.keep then 0 else s.keep;split<;>omega
    . show(if 0<s.keep then 0 else s.keep)<=_;split<;>omega
    . show(if 0<s.keep then s.out++[⟨s.keep,0,[]⟩] else s.out).length<=_
      split
      . rw[List.length_append,List.length_singleton];omega
      . omega
  . exact⟨by omega,rfl,h4,h5,by omega⟩
 obtain⟨f1,f2,f3,f4,f5⟩:=hf;show BdK (byteK (JfK s q d) d) (T+q.length) (k+1);generalize JfK s q d=t at *;unfold byteK
 cases d with
 | true=>exact⟨f1,by show 0<=t.drop+1;omega,by show t.drop+1<=_;omega,f3,by show t.keep<=_;omega,by show t.out.length<=_;omega⟩
 | false =>
  have:(JaC ⟨t.out,t.put,t.drop⟩).length<=t.out.length+2:=Jo4 _;exact⟨Nat.zero_le _,Int.le_refl _,by show(0:Int)<=_;omega,by show 0<=t.keep+1;omega,by show t.keep+1<=_;omega,by show(JaC ⟨t.out,t.put,t.drop⟩).length<=_;omega⟩
theorem JaR{w w':World}{v:Value}{ps:List Pt}(h:opAt w v ps)(hb:Below w.heap.size w w'):opAt w' v ps:=Ja6 h hb (nlr _)
theorem Jhz(ps:List Pt): -9223372036854775808<=(Ja9 ps).1/\(Ja9 ps).1<9223372036854775808:=by
 unfold Ja9
 rcases List.eq_nil_or_concat ps with rfl|⟨l,p,rfl⟩
 . simp
 . rw[List.concat_eq_append,List.foldl_append]
   show -9223372036854775808<=IntKind.i64.wrap _/\IntKind.i64.wrap _<_;rw[IntKind.wrap_i64];omega
end
section
open Go.RowKit
attribute [local go_sem] Oper.semAt_some
def Jch (a b:List Pt):Int:=if chkE a (Ja9 a).1=0 then chkE b (Ja9 b).1 else chkE a (Ja9 a).1
theorem Jbu(p:Pt)(w:World):Calls Tryz.prog 225 #[Jay p] w fun e w'=>e=.returned (.bool (decide (p.put≠[])))/\Below w.heap.size w w':=by
 obtain⟨K,D,U⟩:=p;have hz:(ByteArray.mk U.toArray).size=U.length:=by simp[ByteArray.size]
 unfold Jay
 go_enter Tryz.func225,Tryz.ntmps225
 go_wp2;go_ret;exact⟨by cases U<;>simp,(brf _ _).alloc (nlr _) _⟩
theorem JbW(p:Pt)(w:World)(h0:0<=p.keep/\0<=p.drop)(h1:p.keep+p.drop+p.put.length<4611686018427387904):Calls Tryz.prog 267 #[Jay p] w fun e w'=>e=.returned (.int .i64 (p.keep+p.drop+p.put.length))/\Below w.heap.size w w':=by
 obtain⟨K,D,U⟩:=p;simp only at h0 h1;obtain⟨h2,h3⟩:=h0;have hz:(ByteArray.mk U.toArray).size=U.length:=by simp[ByteArray.size]
 unfold Jay
 go_enter Tryz.func267,Tryz.ntmps267
 go_wp2;go_ret;exact⟨rfl,(brf _ _).alloc (nlr _) _⟩
theorem JbQ(v1 v2:Value)(a b:List Pt)(w:World)(hT:Lib.Utf8Tabs 2 3 w)(h1:opAt w v1 a)(h2:opAt w v2 b)(w1:∀p∈a,wfP p)(w2:∀p∈b,wfP p)(l1:a.length<10000000)(l2:b.length<10000000) :
    Calls Tryz.prog 221 #[v1,v2] w fun e w'=>e=.returned (errV (Jch a b))/\Below w.heap.size w w':=by
 have cL1:Hid (∀wx,Below w.heap.size w wx->Calls Tryz.prog 120 #[v1] wx fun e w'=>e=.returned (.tuple #[.int .i64 (Ja9 a).1,.int .i64 (Ja9 a).2])/\Below wx.heap.size wx w'):=fun wx hb=>Jcg v1 a wx (JaR h1 hb) l1
 have cL2:Hid (∀wx,Below w.heap.size w wx->Calls Tryz.prog 120 #[v2] wx fun e w'=>e=.returned (.tuple #[.int .i64 (Ja9 b).1,.int .i64 (Ja9 b).2])/\Below wx.heap.size wx w'):=fun wx hb=>Jcg v2 b wx (JaR h2 hb) l2
 have cC1:Hid (∀wx,Below w.heap.size w wx->Calls Tryz.prog 92 #[v1,.int .i64 (Ja9 a).1] wx fun e w'=>e=.returned (errV (chkE a (Ja9 a).1))/\Below wx.heap.size wx w'):=fun wx hb=>Jco v1 a _ wx (Go.Proofs.Utf8Tabs_below hT hb) (JaR h1 hb) w1 (Jhz a) l1
 have cC2:Hid (∀wx,Below w.heap.size w wx->Calls Tryz.prog 92 #[v2,.int .i64 (Ja9 b).1] wx fun e w'=>e=.returned (errV (chkE b (Ja9 b).1))/\Below wx.heap.size wx w'):=fun wx hb=>Jco v2 b _ wx (Go.Proofs.Utf8Tabs_below hT hb) (JaR h2 hb) w2 (Jhz b) l2
 obtain⟨R,hR⟩:∃R,R=Jch a b:=⟨_,rfl⟩;rw[←hR];unfold Jch at hR;generalize chkE a (Ja9 a).1=E1 at cC1 hR;generalize chkE b (Ja9 b).1=E2 at cC2 hR;generalize (Ja9 a).1=A1 at cL1 cC1;generalize (Ja9 a).2=A2 at cL1;generalize (Ja9 b).1=B1 at cL2 cC2;generalize (Ja9 b).2=B2 at cL2;obtain⟨p1,c1,rfl,_⟩:=h1;obtain⟨p2,c2,rfl,_⟩:=h2;clear hT w1 w2
 by_cases he:E1=0
 . rw [if_pos he]at hR
   have hV:errV E1=.nilIface:=by unfold errV;rw[if_pos he]
   rw[hV]at cC1;obtain⟨V,hV2⟩:∃V,errV R=V:=⟨_,rfl⟩;rw[←hR,hV2]at cC2;rw[hV2];clear hV hV2 hR he
   go_enter Tryz.func221,Tryz.ntmps221
   go_wp2_with (first
    | (have _:=hB3;go_at_call 92;refine(cC2.out _ hB3.out).mono ?_;rintro e w4 ⟨rfl,hb4⟩;have hB4:=hdz (hB3.out.trans (hb4.mono hB3.out.size)))
    | (have _:=hB2;go_at_call 120;refine(cL2.out _ hB2.out).mono ?_;rintro e w3 ⟨rfl,hb3⟩;have hB3:=hdz (hB2.out.trans (hb3.mono hB2.out.size)))
    | (have _:=hB1;go_at_call 92;refine(cC1.out _ hB1.out).mono ?_;rintro e w2 ⟨rfl,hb2⟩;have hB2:=hdz (hB1.out.trans (hb2.mono hB1.out.size)))
    | (go_at_call 120;refine(cL1.out _ (brf _ _)).mono ?_;rintro e w1 ⟨rfl,hb1⟩;have hB1:=hdz hb1)
    | fail)
   go_ret;exact⟨rfl,hB4.out⟩
 . rw [if_neg he]at hR
   have hV:errV E1=.iface 26 (.int .i64 E1):=by unfold errV;rw[if_neg he]
   rw[hV]at cC1;have hV2:errV R=.iface 26 (.int .i64 E1):=by rw[hR];exact hV
   rw[hV2];clear hV hV2 hR he cC2 cL2
   go_enter Tryz.func221,Tryz.ntmps221
   go_wp2_with (first
    | (have _:=hB1;go_at_call 92;refine(cC1.out _ hB1.out).mono ?_;rintro e w2 ⟨rfl,hb2⟩;have hB2:=hdz (hB1.out.trans (hb2.mono hB1.out.size)))
    | (go_at_call 120;refine(cL1.out _ (brf _ _)).mono ?_;rintro e w1 ⟨rfl,hb1⟩;have hB1:=hdz hb1)
    | fail)
   go_ret;exact⟨rfl,hB2.out⟩
theorem JmH(p:Option Addr)(n c:Nat)(s:ByteArray)(w:World):Calls Tryz.prog 106 #[.slice p n c,.string s] w fun e w'=>e=.returned (.func (.func 174) #[] #[.pointer (some ⟨w.heap.size+1,0,none⟩),.pointer (some ⟨w.heap.size,0,none⟩)])/\w'=(w.alloc (.cells #[.slice p n c] 23)).alloc (.cells #[.string s] 9):=by
 go_enter Tryz.func106,Tryz.ntmps106
 go_wp2;go_ret;exact⟨rfl,rfl⟩
def pcs:List Pt->List UInt8->List (Pt×List UInt8)
 | [],_=>[]
 | p :: ps,s=>(p,s.take (lenP p).toNat) :: pcs ps (s.drop (lenP p).toNat)
def Jey:List Pt->List UInt8->List UInt8
 | [],s=>s
 | p :: ps,s=>Jey ps (s.drop (lenP p).toNat)
theorem JnA(ps:List Pt)(p:Pt)(s:List UInt8):Jey (ps++[p]) s=(Jey ps s).drop (lenP p).toNat:=by
 induction ps generalizing s with
 | nil=>rfl
 | cons q ps ih=>exact ih _
theorem Ji7(a b:List Pt)(s:List UInt8):pcs (a++b) s=pcs a s++pcs b (Jey a s):=by
 induction a generalizing s with
 | nil=>rfl
 | cons q a ih=>simp[pcs,Jey,ih]
def JhZ:List Pt->List UInt8->Prop
 | [],_=>True
 | p :: ps,s=>0<=p.keep/\0<=p.drop/\lenP p<=s.length/\JhZ ps (s.drop (lenP p).toNat)
theorem Jrg(ps:List Pt)(s:List UInt8)(h:JhZ ps s)(k:Nat)(hk:k<ps.length):0<=ps[k].keep/\0<=ps[k].drop/\lenP ps[k]<=(Jey (ps.take k) s).length:=by
 induction ps generalizing s k with
 | nil=>simp at hk
 | cons p ps ih =>
  obtain⟨h1,h2,h3,h4⟩:=h
  cases k with
  | zero=>exact⟨h1,h2,h3⟩
  | succ k=>exact ih _ h4 k (by simpa using hk)
theorem JqJ(ps:List Pt)(s:List UInt8):(Jey ps s).length<=s.length:=by
 induction ps generalizing s with
 | nil=>exact nlr _
 | cons p ps ih =>
  have:=ih (s.drop (lenP p).toNat);rw[List.length_drop]at this;show(Jey ps _).length<=_;omega
theorem JmW(l:List UInt8)(n:Nat):(ByteArray.mk l.toArray).extract 0 n=⟨(l.take n).toArray⟩:=by
 apply ByteArray.ext;simp
theorem JmV(l:List UInt8)(n:Nat):(ByteArray.mk l.toArray).extract n l.length=⟨(l.drop n).toArray⟩:=by
 apply ByteArray.ext;have:List.take (l.length - n) (l.drop n)=l.drop n:=List.take_of_length_le (by rw[List.length_drop];exact nlr _);simp[this]
theorem JmG(v:Value)(ps:List Pt)(s:List UInt8)(hs:s.length<1000000000)(hl:ps.length<10000000)(hf:JhZ ps s)(R:Nat->Prop)(sb:Nat)(W:World)
    (h0:W.cell? ⟨sb,0,none⟩=some v) (h1:W.cell? ⟨sb+1,0,none⟩=some (.string ⟨s.toArray⟩)) (hop:opAt W v ps) (hR0:R sb) (hR1:R (sb+1)) (hRv:∀b o n c,v=.slice (some ⟨b,o,none⟩) n c->ps≠[]->R b) (hRl:∀x,R x->x<W.heap.size) (Z:World->Prop) :
    Jnc Tryz.prog 174 #[.pointer (some ⟨sb+1,0,none⟩),.pointer (some ⟨sb,0,none⟩)] (fun _ (x:Pt×List UInt8)=>#[Jay x.1,.string ⟨x.2.toArray⟩]) (fun A B=>Below A.heap.size A B/\W.heap.size<=A.heap.size) (fun A B=>A.heap.size<=B.heap.size/\∀x,R x->B.heap[x]?=A.heap[x]?) Z
     (fun xs=>xs=pcs ps s) (fun pre=>∃rest,pcs ps s=pre++rest) W:=by
 intro l J Jx hZ hZx hJ hJx hR hj0;have hlt0:=blt W _ h0;have hlt1:=blt W _ h1;obtain⟨p,c,rfl,r1,r2,r3⟩:=hop;obtain⟨n,hn⟩:∃n,n=ps.length:=⟨_,rfl⟩;rw[←hn]at r1 hl h0 hRv;have HN:Hid (n=ps.length):=hn
 have R3:Hid (ps≠[]->∃b o,p=some ⟨b,o,none⟩/\b<W.heap.size/\∀i q,ps[i]?=some q ->
  W.cell? ⟨b,o+i*3,none⟩=some (.int .i64 q.keep)/\W.cell? ⟨b,o+i*3+1,none⟩=some (.int .i64 q.drop)/\W.cell? ⟨b,o+i*3+2,none⟩=some (.string ⟨q.put.toArray⟩)):=r3
 have HF:Hid (JhZ ps s):=hf;have HSL:Hid (s.length<1000000000):=hs;have HRV:Hid (∀b o,p=some ⟨b,o,none⟩->ps≠[]->R b):=fun b o e=>hRv b o n c (by rw[e])
 have HRL:Hid (∀x,R x->x<W.heap.size):=hRl;clear r3 hf hn hs hRv hRl;refine callsIn_of_wp Tryz.func174 rfl trivial ?_ rfl;simp only[Tryz.ntmps174,List.size_toArray,List.length_cons,List.length_nil,Nat.reduceAdd,Nat.reduceSub,Array.replicate_succ,Array.replicate_zero,List.push_toArray,List.append_toArray,List.nil_append,List.cons_append]
 gi_wp2
 gi_loopw [4,11] (fun rest i wr=>∃(k:Nat),k<=n/\i=.int .i64 k/\rest=.string ⟨(Jey (ps.take k) s).toArray⟩/\W.heap.size<=wr.heap.size/\(∀x,R x->wr.heap[x]?=W.heap[x]?)/\J (pcs (ps.take k) s) wr) (fun _ i _=>n - (intOf i).toNat)
 case atStart=>exact⟨0,Nat.zero_le _,rfl,rfl,nlr _,fun _ _=>rfl,hj0⟩
 case round =>
  obtain⟨k,hk,rfl,rfl,hsz,hkeep,hjp⟩:=hrel
  by_cases hlt:k<n
  . have hkr : k<ps.length:=by rw[←HN.out];exact hlt
    have hne:ps≠[]:=by intro e;rw[e]at hkr;exact absurd hkr (Nat.not_lt_zero _)
    obtain⟨b,o,rfl,hbw,hcell⟩:=R3.out hne;obtain⟨c0,c1,c2⟩:=hcell k ps[k] (lgg hkr);have hkb:=hkeep b (HRV.out b o rfl hne);have g0:=(World.cell?_of_block (w:=W) (w':=wr) (a:=⟨b,o+k*3,none⟩) hkb).trans c0;have g1:=(World.cell?_of_block (w:=W) (w':=wr) (a:=⟨b,o+k*3+1,none⟩) hkb).trans c1;have g2:=(World.cell?_of_block (w:=W) (w':=wr) (a:=⟨b,o+k*3+2,none⟩) hkb).trans c2;obtain⟨f1,f2,f3⟩:=Jrg ps s HF.out k hkr;have hll:=JqJ (ps.take k) s;have hs9:=HSL.out;have hts:ps.take (k+1)=ps.take k++[ps[k]]:=List.take_succ_eq_append_getElem hkr;have hpn:pcs (ps.take (k+1)) s=pcs (ps.take k) s++[(ps[k],(Jey (ps.take k) s).take (lenP ps[k]).toNat)]:=by rw[hts,Ji7];rfl
    have hln:Jey (ps.take (k+1)) s=(Jey (ps.take k) s).drop (lenP ps[k]).toNat:=by rw[hts,JnA]
    have hSp:∃rest,pcs ps s=(pcs (ps.take k) s++[(ps[k],(Jey (ps.take k) s).take (lenP ps[k]).toNat)])++rest:=by
     rw[←hpn];refine⟨pcs (ps.drop (k+1)) (Jey (ps.take (k+1)) s),?_⟩;rw[←Ji7,List.take_append_drop]
    generalize ps[k]=q at *;generalize Jey (ps.take k) s=T at *;obtain⟨K,D,U⟩:=q;have hlen:lenP ⟨K,D,U⟩=K+D:=rfl;rw[hlen]at f3 hpn hln hSp;simp only at f1 f2 g0 g1 g2;obtain⟨m,hm⟩:∃m:Nat,K+D=m:=⟨(K+D).toNat,by omega⟩;have hm':(K+D).toNat=m:=by omega
    rw[hm']at hpn hln hSp;rw[hm]at f3;have hwm:IntKind.i64.wrap (K+D)=(m:Int):=by rw[IntKind.wrap_i64];omega
    have hmT:m<=T.length:=by omega
    have hmi:(m:Int)<=(T.length:Int):=by omega
    have hm0:(0:Int)<=(m:Int):=by omega
    have e1:=JmW T m;have e2:=JmV T m;have HJP:Hid (J (pcs (ps.take k) s) wr):=hjp;have HSP:Hid (∃rest,pcs ps s=(pcs (ps.take k) s++[(⟨K,D,U⟩,T.take m)])++rest):=hSp;have HPN:Hid (pcs (ps.take (k+1)) s=pcs (ps.take k) s++[(⟨K,D,U⟩,T.take m)]):=hpn;have HLN:Hid (Jey (ps.take (k+1)) s=T.drop m):=hln;have HKEEP:Hid (∀x,R x->wr.heap[x]?=W.heap[x]?):=hkeep;clear hcell c0 c1 c2 hts hpn hln hSp hjp hlen hkb hkeep hm' f3 hll hs9 hm;have hbA:Below wr.heap.size wr (wr.alloc (.cells #[.int .i64 K,.int .i64 D,.string ⟨U.toArray⟩] 50)).drew:=((brf _ _).alloc (nlr _) _).drew;obtain⟨fn,tmps,assign,body,hyy,hRd⟩:=hR (pcs (ps.take k) s) (⟨K,D,U⟩,T.take m) _ (hJ _ _ _ HJP.out ⟨hbA,hsz⟩) HSP.out;unfold Jay at hyy
    gi_wp2
    have hRd2:=hRd.mono (fun e A' HH=>(⟨HH,by rcases HH with ⟨rfl,_⟩|⟨rfl,_⟩;exact⟨true,rfl⟩;exact⟨false,rfl⟩⟩:_/\∃bb:Bool,e=.returned (.bool bb)))
    gi_region_with (first | (refine⟨rfl,hRd2.mono ?_⟩;rintro e A' ⟨HH,bb,rfl⟩))
    all_goals
     have hcase:(bb=true/\J (pcs (ps.take k) s++[(⟨K,D,U⟩,T.take m)]) A'/\wr.heap.size<=A'.heap.size/\∀x,R x->A'.heap[x]?=wr.heap[x]?)\/(bb=false/\Jx (pcs (ps.take k) s++[(⟨K,D,U⟩,T.take m)]) A'):=by
      rcases HH with ⟨e1,e2,e3,e4⟩|⟨e1,e2,_⟩
      . simp only[Ending.returned.injEq,Value.bool.injEq]at e1
        refine .inl ⟨e1,e2,Nat.le_trans hbA.size e3,fun x hx=>(e4 x hx).trans ?_⟩;have hxl:x<wr.heap.size:=by
         rcases Nat.lt_or_ge x wr.heap.size with h|h
         . exact h
         . exact absurd (HRL.out x hx) (by have:=hsz;omega)
        exact hbA.block x hxl
      . simp only[Ending.returned.injEq,Value.bool.injEq]at e1
        exact .inr ⟨e1,e2⟩
     clear HH hRd hRd2 hyy
     rcases hcase with ⟨rfl,hj2,hs2,hk2⟩|⟨rfl,hjx⟩
     . have HJ2:Hid (J (pcs (ps.take (k+1)) s) A'):=by show J _ _;rw[HPN.out];exact hj2
       have HK2:Hid (∀x,R x->A'.heap[x]?=W.heap[x]?):=fun x hx=>(hk2 x hx).trans (HKEEP.out x hx)
       have hs3:W.heap.size<=A'.heap.size:=Nat.le_trans hsz hs2;clear hj2 hk2 g0 g1 g2 hbA
       gi_wp2
       go_roundw
       case rel=>exact⟨k+1,by omega,by go_num,by rw[HLN.out],hs3,HK2.out,HJ2.out⟩
       case measure=>simp[intOf];omega
     . have HJX:Hid (Jx (pcs (ps.take k) s++[(⟨K,D,U⟩,T.take m)]) A'):=hjx
       clear hjx g0 g1 g2 hbA
       gi_wp2
       refine bodyPost_ret (results_none rfl _ _ _) rfl ?_
       exact⟨⟨_,rfl⟩,.inr ⟨_,HSP.out,HJX.out⟩⟩
  . have e:ps.take k=ps:=List.take_of_length_le (by rw[←HN.out];omega)
    rw[e]at hjp;have HJ:Hid (J (pcs ps s) wr):=hjp;clear e hjp R3 HF
    gi_wp2
    go_end0;exact⟨⟨_,rfl⟩,.inl ⟨_,rfl,HJ.out⟩⟩
variable {ps : List Pt}{s : List UInt8}
def Jis (b:UInt8):Bool:=Lib.runeStart (b.toNat:Int)
def Jcf (l:List UInt8):Bool:=match l with
 | []=>false
 | b :: _=>!Jis b
def badO:List Pt->List UInt8->Bool
 | [],_=>false
 | p :: ps,s=>Jcf (s.take (lenP p).toNat) || badO ps (s.drop (lenP p).toNat)
theorem Jr0(ps:List Pt)(s:List UInt8):badO ps s=(pcs ps s).any fun x=>Jcf x.2:=by
 induction ps generalizing s with
 | nil=>rfl
 | cons p ps ih=>simp[badO,pcs,ih]
theorem chkE_ok{n:Int}(h:chkE ps n=0):∀p∈ps,JbA p:=by
 unfold chkE at h
 split at h
 . rename_i h1
   exact fun p hp=>(JcG (JfN h1 p hp).1).1
 . rename_i h1
   exact absurd h h1
theorem JpN(hs:∀p∈ps,JbA p)(h:chk2 ps (s.length:Int)=0):JhZ ps s/\Jey ps s=[]:=by
 induction ps generalizing s with
 | nil =>
  unfold chk2 at h;refine⟨trivial,?_⟩
  split at h
  . exact List.eq_nil_of_length_eq_zero (by show s.length=0;omega)
  . cases h
 | cons p ps ih =>
  unfold chk2 at h;have hp:=hs p (List.mem_cons_self ..);obtain⟨h1,h2⟩:=hp
  split at h
  . cases h
  . rename_i h3
    have hl:lenP p=p.keep+p.drop:=rfl;have e:((s.drop (lenP p).toNat).length:Int)=(s.length:Int) - (p.keep+p.drop):=by rw[List.length_drop];omega
    rw[←e]at h;obtain⟨i1,i2⟩:=ih (fun q hq=>hs q (List.mem_cons_of_mem _ hq)) h;exact⟨⟨h1,h2,by omega,i1⟩,i2⟩
theorem JkV(h:chkE ps (s.length:Int)=0):JhZ ps s/\Jey ps s=[]:=by
 have hs:=chkE_ok h;unfold chkE at h
 split at h
 . exact JpN hs h
 . rename_i h1;exact absurd h h1
def ordE (ps:List Pt) (s:List UInt8):Int:=if chkE ps (s.length:Int)=0 then (if badO ps s then 10 else 0) else chkE ps (s.length:Int)
theorem JjE(v:Value)(ps:List Pt)(s:List UInt8)(w:World)(hT:Lib.Utf8Tabs 2 3 w)(hr:opAt w v ps)(hwf:∀p∈ps,wfP p)(hs:s.length<1000000000)(hl:ps.length<10000000)(he:chkE ps (s.length:Int)≠0) :
    Calls Tryz.prog 105 #[v,.string ⟨s.toArray⟩] w fun e w'=>e=.returned (errV (ordE ps s))/\Below w.heap.size w w':=by
 have cC:Hid (∀wx,Below w.heap.size w wx->Calls Tryz.prog 92 #[v,.int .i64 (s.length:Int)] wx fun e w'=>e=.returned (errV (chkE ps (s.length:Int)))/\Below wx.heap.size wx w'):=fun wx hb=>Jco v ps _ wx (Go.Proofs.Utf8Tabs_below hT hb) (Ja6 hr hb (nlr _)) hwf (by omega) hl
 unfold ordE;rw[if_neg he];have hV:errV (chkE ps (s.length:Int))=.iface 26 (.int .i64 (chkE ps (s.length:Int))):=by unfold errV;rw[if_neg he]
 rw[hV]at cC ⊢;generalize chkE ps (s.length:Int)=E at *;obtain⟨p,c,rfl,_⟩:=hr;clear hT hwf hV
 go_enter Tryz.func105,Tryz.ntmps105
 go_wp2_with (first | (go_at_call 92;refine(cC.out _ ((brf _ _).alloc (nlr _) _)).mono ?_;rintro e w1 ⟨rfl,hb1⟩;have c0:w1.cell? ⟨w.heap.size,0,none⟩=some .nilIface:=(hb1.cell (p:=⟨w.heap.size,0,none⟩) (by simp)).trans (by simp[go_sem]);have c1:w1.frozen? ⟨w.heap.size,0,none⟩=false:=(hb1.frozen (p:=⟨w.heap.size,0,none⟩) (by simp)).trans (by simp[go_sem])) | fail)
 refine bodyPost_ret (v:=.iface 26 (.int .i64 E)) (by simp[results,Tryz.results105,go_sem,c0]) rfl ?_
 exact⟨rfl,(((brf _ _).alloc (nlr _) _).trans (hb1.mono (by simp))).setCell (p:=⟨w.heap.size,0,none⟩) (nlr _) _⟩
theorem Jib(v:Value)(ps:List Pt)(s:List UInt8)(w:World)(hT:Lib.Utf8Tabs 2 3 w)(hr:opAt w v ps)(hwf:∀p∈ps,wfP p)(hs:s.length<1000000000)(hl:ps.length<10000000)(he:chkE ps (s.length:Int)=0) :
    Calls Tryz.prog 105 #[v,.string ⟨s.toArray⟩] w fun e w'=>e=.returned (errV (ordE ps s))/\Below w.heap.size w w':=by
 have cC:Hid (∀wx,Below w.heap.size w wx->Calls Tryz.prog 92 #[v,.int .i64 (s.length:Int)] wx fun e w'=>e=.returned (errV (chkE ps (s.length:Int)))/\Below wx.heap.size wx w'):=fun wx hb=>Jco v ps _ wx (Go.Proofs.Utf8Tabs_below hT hb) (Ja6 hr hb (nlr _)) hwf (by omega) hl
 obtain⟨hfit,hleft⟩:=JkV he;unfold ordE;rw[if_pos he];have hV:errV (chkE ps (s.length:Int))=.nilIface:=by unfold errV;rw[if_pos he]
 rw[hV]at cC;have HF:Hid (JhZ ps s):=hfit;have HR:Hid (opAt w v ps):=hr;have HSL:Hid (s.length<1000000000):=hs;have HLP:Hid (ps.length<10000000):=hl;have HBO:Hid (badO ps s=(pcs ps s).any fun x=>Jcf x.2):=Jr0 ps s;obtain⟨BB,hBB⟩:∃BB,badO ps s=BB:=⟨_,rfl⟩;have HBB:Hid (badO ps s=BB):=hBB;rw[hBB];obtain⟨V,hV0⟩:∃V,errV (if BB=true then 10 else 0)=V:=⟨_,rfl⟩;have HV:Hid (errV (if BB=true then 10 else 0)=V):=hV0;rw[hV0];clear hV0;have hrow:∀x o n c,v=.slice (some ⟨x,o,none⟩) n c->ps≠[]->x<w.heap.size:=by
  intro x o n c e hne;obtain⟨p,c',rfl,_,_,h3⟩:=hr;obtain⟨b,o',e1,e2,_⟩:=h3 hne;simp only[Value.slice.injEq]at e;rw[e.1]at e1;simp only[Option.some.injEq,Addr.mk.injEq]at e1;rw[e1.1];exact e2
 have HROW:=hdz hrow;obtain⟨p,c,rfl,_⟩:=hr;clear hT hwf hV hfit hleft hrow he hBB;have cO:=fun (wx:World)=>JmH p ps.length c ⟨s.toArray⟩ wx
 refine(callsIn_wide (n:=3)).1 ?_
 refine callsIn_of_wp_marks Tryz.func105 rfl trivial ?_ rfl;simp only[Tryz.ntmps105,List.size_toArray,List.length_cons,List.length_nil,Nat.reduceAdd,Nat.reduceSub,Array.replicate_succ,Array.replicate_zero,List.push_toArray,List.append_toArray,List.nil_append,List.cons_append]
 gi_wp2_with (first
  | (refine⟨trivial,?_⟩;gi_at_call 92;refine(callsIn_wide.2 (cC.out _ ((brf _ _).alloc (nlr _) _))).mono ?_;rintro e w1 ⟨rfl,hb1⟩;have c0:w1.cell? ⟨w.heap.size,0,none⟩=some .nilIface:=(hb1.cell (p:=⟨w.heap.size,0,none⟩) (by simp)).trans (by simp[go_sem]);have c1:w1.frozen? ⟨w.heap.size,0,none⟩=false:=(hb1.frozen (p:=⟨w.heap.size,0,none⟩) (by simp)).trans (by simp[go_sem]))
  | (refine⟨trivial,?_⟩;gi_at_call 106;refine(callsIn_wide.2 (cO _)).mono ?_;rintro e w13 ⟨rfl,rfl⟩)
  | fail)
 have hb0:Below w.heap.size w w1:=((brf _ _).alloc (nlr _) _).trans (hb1.mono (by simp));have hlt1:w.heap.size<w1.heap.size:=blt w1 _ c0;obtain⟨sb,hsb⟩:∃sb,w1.heap.size=sb:=⟨_,rfl⟩;obtain⟨W4,hW4⟩:∃W4,W4=(w1.alloc (.cells #[.slice p ps.length c] 23)).alloc (.cells #[.string ⟨s.toArray⟩] 9):=⟨_,rfl⟩;have hb4:Below w.heap.size w W4:=by rw[hW4];exact(hb0.alloc hb0.size _).alloc (by simp;omega) _
 have hs4:W4.heap.size=sb+2:=by rw[hW4,←hsb];simp
 have k0:W4.cell? ⟨sb,0,none⟩=some (.slice p ps.length c):=by rw[hW4,←hsb];simp[go_sem]
 have k1:W4.cell? ⟨sb+1,0,none⟩=some (.string ⟨s.toArray⟩):=by rw[hW4,←hsb];simp[go_sem]
 have c0':W4.cell? ⟨w.heap.size,0,none⟩=some .nilIface:=by
  have hB:Below w1.heap.size w1 W4:=by rw[hW4];exact((brf _ _).alloc (nlr _) _).alloc (by simp) _
  exact(hB.cell (p:=⟨w.heap.size,0,none⟩) hlt1).trans c0
 have c1':W4.frozen? ⟨w.heap.size,0,none⟩=false:=by
  have hB:Below w1.heap.size w1 W4:=by rw[hW4];exact((brf _ _).alloc (nlr _) _).alloc (by simp) _
  exact(hB.frozen (p:=⟨w.heap.size,0,none⟩) hlt1).trans c1
 rw[←hW4,hsb];rw[hsb]at hlt1;clear hW4 cC cO c0 c1 hb0 hb1 hsb
 refine Jgv (gf:=174) (lb:=#[.pointer (some ⟨sb+1,0,none⟩),.pointer (some ⟨sb,0,none⟩)]) rfl (enters_of Tryz.func174 (by kernel_rfl) rfl) (encs:=fun _ (x:Pt×List UInt8)=>#[Jay x.1,.string ⟨x.2.toArray⟩]) (fun _ _=>rfl)
  (It:=fun A B=>Below A.heap.size A B/\sb+4<=A.heap.size) (Kp:=fun A B=>A.heap.size<=B.heap.size/\∀x,(x=sb\/x=sb+1\/x<w.heap.size)->B.heap[x]?=A.heap[x]?) (Z:=fun _=>True) (S:=fun xs=>xs=pcs ps s) (Sp:=fun pre=>∃rest,pcs ps s=pre++rest)
  ?seq ?its (fun h k=>⟨Nat.le_trans h.1 k.1,fun x hx=>(k.2 x hx).trans (h.2 x hx)⟩) ?hkb
  (fun pre W=>Below w.heap.size w W/\sb+4<=W.heap.size/\W.cell? ⟨w.heap.size,0,none⟩=some .nilIface/\W.frozen? ⟨w.heap.size,0,none⟩=false/\(pre.any fun x=>Jcf x.2)=false)
  (fun k pre W=>k=.ret/\Below w.heap.size w W/\sb+4<=W.heap.size/\W.cell? ⟨w.heap.size,0,none⟩=some (.iface 26 (.int .i64 10))/\(pre.any fun x=>Jcf x.2)=true) (fun _ _ _=>trivial) (fun _ _ _ _=>trivial) ?ii ?ib ?ix ?ixb ?h0 ?round ?done ?stop
 case seq =>
  intro W hs1 hb1;rw[hs4]at hs1 hb1;have hb9:Below w.heap.size w W:=hb4.trans (hb1.mono (by omega));have:=JmG (.slice p ps.length c) ps s HSL.out HLP.out HF.out (fun x=>(x=sb\/x=sb+1\/x<w.heap.size)) sb W ((hb1.cell (p:=⟨sb,0,none⟩) (by show sb<_;omega)).trans k0) ((hb1.cell (p:=⟨sb+1,0,none⟩) (by show sb+1<_;omega)).trans k1) (Ja6 HR.out hb9 (nlr _)) (.inl rfl) (.inr (.inl rfl)) (fun b o n c' e hne=>.inr (.inr (HROW.out b o n c' e hne))) (by rintro x (rfl|rfl|hx)<;>omega) (fun _=>True);rw[hs1]at this;exact this
 case its=>exact fun A B h=>Same2.of_below h.1 (by rw[hs4];omega)
 case hkb =>
  intro A r;rw[hs4];exact⟨by simp,fun x hx=>World.putObj_heap_other (by omega)⟩
 case ii =>
  rintro pre A B ⟨h1,h2,h3,h4,h5⟩ ⟨hb,hA⟩;exact⟨h1.trans (hb.mono h1.size),Nat.le_trans h2 hb.size,(hb.cell (p:=⟨w.heap.size,0,none⟩) (by show w.heap.size<_;omega)).trans h3,(hb.frozen (p:=⟨w.heap.size,0,none⟩) (by show w.heap.size<_;omega)).trans h4,h5⟩
 case ib =>
  rintro pre A r ⟨h1,h2,h3,h4,h5⟩;rw[hs4];have hp:=Put1.putObj (sb+2+1) A (.loop r);exact⟨h1.trans (hp.below (by omega)),by rw[hp.size];exact h2,(hp.cell (by omega)).trans h3,(hp.frozen (by omega)).trans h4,h5⟩
 case ix =>
  rintro k pre A B ⟨h0,h1,h2,h3,h5⟩ ⟨hb,hA⟩;exact⟨h0,h1.trans (hb.mono h1.size),Nat.le_trans h2 hb.size,(hb.cell (p:=⟨w.heap.size,0,none⟩) (by show w.heap.size<_;omega)).trans h3,h5⟩
 case ixb =>
  rintro k pre A r ⟨h0,h1,h2,h3,h5⟩;rw[hs4];have hp:=Put1.putObj (sb+2+1) A (.loop r);exact⟨h0,h1.trans (hp.below (by omega)),by rw[hp.size];exact h2,(hp.cell (by omega)).trans h3,h5⟩
 case h0 =>
  rintro W hs hb _;rw[hs4]at hs hb;exact⟨hb4.trans (hb.mono (by omega)),by omega,(hb.cell (p:=⟨w.heap.size,0,none⟩) (by show w.heap.size<_;omega)).trans c0',(hb.frozen (p:=⟨w.heap.size,0,none⟩) (by show w.heap.size<_;omega)).trans c1',rfl⟩
 case round =>
  rintro l pre x W ⟨h1,h2,h3,h4,h5⟩ hlW hSp;rw[hs4]at hlW ⊢;obtain⟨q,T⟩:=x;have HP5:Hid ((pre.any fun x=>Jcf x.2)=false):=h5;have HB:=hdz h1;clear h5 hSp h1 k0 k1 c0' c1' hb4;unfold Jay
  gi_wp2
  refine⟨Same2.refl _ W,⟨nlr _,fun _ _=>trivial⟩,?_⟩;intro w2 hp _;have hs2:sb+4<=w2.heap.size:=by rw[hp.size];exact h2
  have y3:=(hp.cell (b:=w.heap.size) (o:=0) (by omega)).trans h3;have y4:=(hp.frozen (b:=w.heap.size) (o:=0) (by omega)).trans h4;have HB2:Hid (Below w.heap.size w w2):=HB.out.trans (hp.below (by omega));clear h3 h4 hp hlW
  cases T with
  | nil =>
   gi_wp2_with (first | (refine⟨trivial,?_⟩) | fail)
   exact⟨Same2.refl _ _,⟨nlr _,fun _ _=>rfl⟩,HB2.out,hs2,y3,y4,by rw[List.any_append,HP5.out];rfl⟩
  | cons b T =>
   have cR:∀wx,Calls Tryz.prog 173 #[.int .u8 (((ByteArray.mk (b :: T).toArray)[0]'(by simp[ByteArray.size])).toNat:Int)] wx fun e w'=>e=.returned (.bool (Jis b))/\w'=wx:=fun wx=>Tryz.utf8_RuneStart (b.toNat:Int) wx (by omega) (by have:=b.toNat_lt;omega)
   by_cases hst:Jis b=true
   . rw [hst]at cR
     have HB5:Hid (((pre++[(q,b :: T)]).any fun x=>Jcf x.2)=false):=by
      show _=_;rw[List.any_append,HP5.out];simp[Jcf,hst]
     clear hst
     gi_wp2_with (first | (refine⟨trivial,rfl,?_⟩;refine(CallsIn.inRound l (callsIn_wide.2 (cR _))).mono ?_;rintro e wx ⟨rfl,hwx⟩;obtain rfl:=hwx.symm) | fail)
     exact⟨Same2.refl _ _,⟨nlr _,fun _ _=>rfl⟩,HB2.out,hs2,y3,y4,HB5.out⟩
   . have hst:Jis b=false:=Bool.eq_false_iff.2 hst
     rw[hst]at cR;have HB5:Hid (((pre++[(q,b :: T)]).any fun x=>Jcf x.2)=true):=by
      show _=_;rw[List.any_append];simp[Jcf,hst]
     clear hst
     gi_wp2_with (first | (refine⟨trivial,rfl,?_⟩;refine(CallsIn.inRound l (callsIn_wide.2 (cR _))).mono ?_;rintro e wx ⟨rfl,hwx⟩;obtain rfl:=hwx.symm) | fail)
     refine⟨(Same2.refl _ _).setCell (by show w.heap.size≠_;omega) (by show w.heap.size≠_;omega) _,⟨by simp,fun x hx=>?_⟩,rfl,HB2.out.setCell (p:=⟨w.heap.size,0,none⟩) (nlr _) _,by simpa using hs2,World.cell?_setCell_same _ _ _ y3,HB5.out⟩;exact Below.heap_setCell _ _ _ _ (by show x≠w.heap.size;omega)
 case done =>
  rintro xs W rfl ⟨h1,h2,h3,h4,h5⟩ hDef;rw[hs4]at hDef ⊢;have HB:=hdz h1;have HE:Hid (BB=false):=by
   show _=_;rw[←HBB.out,HBO.out];exact h5
  clear h1 h5 k0 k1 c0' c1' hb4
  gi_wp2
  have hDef':(W.setCell ⟨w.heap.size,0,none⟩ .nilIface).heap[sb+2]?=some (.deferred (some [])):=(Below.heap_setCell _ _ _ _ (by show sb+2≠w.heap.size;omega)).trans hDef;have hP:=Put1.putObj (sb+2) (W.setCell ⟨w.heap.size,0,none⟩ .nilIface) (.deferred none);have p0:=(hP.cell (b:=w.heap.size) (o:=0) (by omega)).trans (World.cell?_setCell_same _ _ .nilIface h3);refine⟨by simp,.inl ⟨_,_,rfl,run_takeDeferred hDef',?_⟩⟩;refine⟨.nilIface,by simp[results,Tryz.results105,go_sem,p0],?_,(HB.out.setCell (p:=⟨w.heap.size,0,none⟩) (nlr _) _).trans (hP.below (by omega))⟩;rw[←HV.out,HE.out];rfl
 case stop =>
  rintro k pre W ⟨rest,hsp⟩ ⟨rfl,h1,h2,h3,h5⟩ hDef;rw[hs4]at hDef ⊢;have HB:=hdz h1;have HE:Hid (BB=true):=by
   show _=_;rw[←HBB.out,HBO.out,hsp,List.any_append,h5];rfl
  clear h1 h5 k0 k1 c0' c1' hb4
  gi_wp2
  have hP:=Put1.putObj (sb+2) W (.deferred none);have p0:=(hP.cell (b:=w.heap.size) (o:=0) (by omega)).trans h3;refine⟨by simp,.inl ⟨_,_,rfl,run_takeDeferred hDef,?_⟩⟩;refine⟨.iface 26 (.int .i64 10),by simp[results,Tryz.results105,go_sem,p0],?_,HB.out.trans (hP.below (by omega))⟩;rw[←HV.out,HE.out];rfl
theorem JfO(v:Value)(ps:List Pt)(s:List UInt8)(w:World)(hT:Lib.Utf8Tabs 2 3 w)(hr:opAt w v ps)(hwf:∀p∈ps,wfP p)(hs:s.length<1000000000)(hl:ps.length<10000000) :
    Calls Tryz.prog 105 #[v,.string ⟨s.toArray⟩] w fun e w'=>e=.returned (errV (ordE ps s))/\Below w.heap.size w w':=by
 by_cases he:chkE ps (s.length:Int)=0
 . exact Jib v ps s w hT hr hwf hs hl he
 . exact JjE v ps s w hT hr hwf hs hl he
end
end Go.Proofs.YtedgnlgjmnccgabGreatDoor
namespace Go.Proofs
open Go.Shelf
def Tryz.lays169_ren:Go.Shelf.Ren:=⟨fun | 169=>109 | n=>n,fun | 70=>182 | 9=>9 | 0=>0 | 72=>184 | 37=>158 | 127=>272 | 3=>3 | 5=>5 | n=>n,fun | n=>n⟩
theorem Tryz.lays169:Go.Proofs.Lays.n169 Tryz.prog Tryz.lays169_ren:={
 mixed:=by kernel_rfl
 f169:=Tryz.func109.trans (congrArg some (by kernel_rfl))
 t0:=Tryz.underlying0
 a0:=Tryz.isAgg0
 z0:=Tryz.sizeOf0
 v0:=Tryz.zeroValue0
 t3:=Tryz.underlying3
 a3:=Tryz.isAgg3
 z3:=Tryz.sizeOf3
 v3:=Tryz.zeroValue3
 t9:=Tryz.underlying9
 a9:=Tryz.isAgg9
 z9:=Tryz.sizeOf9
 v9:=Tryz.zeroValue9
 t37:=Tryz.underlying158
 a37:=Tryz.isAgg158
 z37:=Tryz.sizeOf158
 v37:=Tryz.zeroValue158
 t70:=Tryz.underlying182
 a70:=Tryz.isAgg182
 z70:=Tryz.sizeOf182
 v70:=Tryz.zeroValue182
 t72:=Tryz.underlying184
 a72:=Tryz.isAgg184
 z72:=Tryz.sizeOf184
 v72:=Tryz.zeroValue184
 t127:=Tryz.underlying272
 a127:=Tryz.isAgg272
 z127:=Tryz.sizeOf272
 v127:=Tryz.zeroValue272 }
theorem Tryz.Builder_Extra_169:Builder.Extra Tryz.prog Tryz.lays169_ren:={
 sizeBuilder:=by kernel_rfl
 liesBuilder:=by kernel_rfl
 t5:=Tryz.underlying5
 a5:=Tryz.isAgg5
 z5:=Tryz.sizeOf5
 v5:=Tryz.zeroValue5
 infoByte:=by kernel_rfl
 cellsByte:=by kernel_rfl
 sizeByte:=by kernel_rfl
 neB5:=by decide }
end Go.Proofs
namespace Go.Proofs.YtedgnlgjmnccgabGreatDoor
section
open Go.RowKit
theorem Jgx:(Tryz.prog.info? 184).map (·.size)=some 2:=by kernel_rfl
theorem Jk8:liesAt Tryz.prog Tryz.prog.depth 184 (2 / Tryz.prog.cellsOf 184) 0 184 1=true:=by kernel_rfl
theorem JhG(b:Nat)(w:World)(h0:w.cell? ⟨b,0,none⟩=some (.pointer none))(hsh:w.shape? b=some (184,2))(hfz:w.frozen? ⟨b,0,none⟩=false) :
    Calls Tryz.prog 175 #[.pointer (some ⟨b,0,none⟩)] w fun e w'=>e=.returned (.tuple #[])/\w'=w.setCell ⟨b,0,none⟩ (.pointer (some ⟨b,0,none⟩)):=by
 obtain⟨j,hj,hjs⟩:=Option.map_eq_some_iff.1 Jgx;have h1:=fun w=>Lib.run_to_unsafe (P:=Tryz.prog) w ⟨b,0,none⟩ Tryz.underlying182 Tryz.underlying258 hj (by rw[hjs];decide) (e:=184) (cells:=2)
 have h3:=Lib.run_from_unsafe (P:=Tryz.prog) w ⟨b,0,none⟩ Tryz.underlying258 Tryz.underlying182 hj hsh Jk8;have h1':=h1 w hsh (Nat.zero_lt_succ 1);have hNE:=@run_callFunc_extern Tryz.prog 219 _ Extern.AbiNoEscape.same Tryz.func219 (by kernel_rfl) (by kernel_rfl) (by kernel_rfl) (by kernel_rfl);have hNR:=fun (x:Value) (w:World)=>Lib.run_noEscape (P:=Tryz.prog) w x
 clear h1
 go_enter Tryz.func175,Tryz.ntmps175
 go_wp2;go_end0;exact⟨rfl,rfl⟩
theorem Jia(b:Nat)(w:World)(h0:w.cell? ⟨b,0,none⟩=some (.pointer (some ⟨b,0,none⟩))) :
    Calls Tryz.prog 175 #[.pointer (some ⟨b,0,none⟩)] w fun e w'=>e=.returned (.tuple #[])/\w'=w:=by
 obtain⟨j,hj,_⟩:=Option.map_eq_some_iff.1 Jgx;have hne:=Lib.run_neq_ptr_same (P:=Tryz.prog) w ⟨b,0,none⟩ Tryz.underlying182 hj
 go_enter Tryz.func175,Tryz.ntmps175
 go_wp2;go_end0;exact⟨rfl,rfl⟩
theorem JjD(B b:Nat)(bs:List Value)(w:World)(h:Lib.IsBuilder 184 5 B b bs w) :
    Calls Tryz.prog 175 #[.pointer (some ⟨b,0,none⟩)] w fun e w'=>e=.returned (.tuple #[])/\(Lib.BuilderAt 184 5 B b (.pointer (some ⟨b,0,none⟩)) bs w'/\Below B w w'/\Lib.OthersKept 5 (some b) w w'):=by
 rcases h with h|h
 . refine(JhG b w h.cell0 h.shape h.frozen0).mono ?_
   rintro e w' ⟨rfl,rfl⟩;exact⟨rfl,h.used _,(brf B w).setCell (p:=⟨b,0,none⟩) h.1 _,(Lib.OthersKept.refl _ _ w).setCell ⟨b,0,none⟩ rfl _⟩
 . refine(Jia b w h.cell0).mono ?_
   rintro e w' ⟨rfl,rfl⟩;exact⟨rfl,h,brf B _,Lib.OthersKept.refl _ _ _⟩
theorem JdE(B b:Nat)(bs:List Value)(s:ByteArray)(w:World)(h:Lib.IsBuilder 184 5 B b bs w)(hlen:bs.length+s.size<=1000000000000)(hBw:B<=w.heap.size) :
    Calls Tryz.prog 108 #[.pointer (some ⟨b,0,none⟩),.string s] w fun e w'=>(∃v,e=.returned v)/\(Lib.IsBuilder 184 5 B b (bs++Lib.strCells s) w'/\Below B w w'/\Lib.OthersKept 5 (some b) w w'):=by
 obtain⟨i0,hi,hz0,hz1,hz2⟩:=info_parts Jh7;have cC:=JjD B b bs w h;clear h
 go_enter Tryz.func108,Tryz.ntmps108
 go_wp2_with (first | (go_at_call 175;refine cC.mono ?_;rintro e w1 ⟨rfl,⟨hB,v,hbk,hown,hne⟩,hb1,hk1⟩;have c0:w1.cell? ⟨b,0,none⟩=some (.pointer (some ⟨b,0,none⟩)):=(by rw[chp hbk];rfl);have c1:w1.cell? ⟨b,1,none⟩=some v:=(by rw[chp hbk];rfl)) | (at_builtin;refine Lib.wpList_append_own_string _ rfl _ _ 158 9 rfl B 5 i0 Tryz.underlying158 Tryz.underlying9 hi hz0 hz1 hz2 _ _ _ rfl hown s rfl (by unfold maxLen;omega) (by omega) (by have:=hb1.size;omega) ?_) | fail)
 intro v' w2 hown' hgrow _;have hlt:b<w1.heap.size:=blt w1 _ c0;have hb2:w2.heap[b]?=some (.cells #[.pointer (some ⟨b,0,none⟩),v] 184 (0,0)):=by
  rw[hgrow.block b hlt (fun e=>hne e.symm)];exact hbk
 have d0:w2.cell? ⟨b,0,none⟩=some (.pointer (some ⟨b,0,none⟩)):=by rw[chp hb2];rfl
 have d1:w2.cell? ⟨b,1,none⟩=some v:=by rw[chp hb2];rfl
 have f1:w2.frozen? ⟨b,1,none⟩=false:=Lib.frozen_of_heap hb2 1;obtain⟨ao,cap,rfl⟩:=Jad hown';have HP:Hid (Lib.IsBuilder 184 5 B b (bs++Lib.strCells s) (w2.setCell ⟨b,1,none⟩ (.slice ao (bs.length+s.size) cap))/\Below B w (w2.setCell ⟨b,1,none⟩ (.slice ao (bs.length+s.size) cap))/\Lib.OthersKept 5 (some b) w (w2.setCell ⟨b,1,none⟩ (.slice ao (bs.length+s.size) cap))):=by
  refine⟨.inr ?_,?_,(hk1.grown hgrow (Lib.ownsRowF_kind (World.ownsRowF_of hown))).setCell ⟨b,1,none⟩ rfl _⟩
  . exact Lib.BuilderAt.put (T:=184) (e:=5) hB hb2 (bs':=bs++Lib.strCells s) (by simpa[Lib.strCells_length] using hown') (by decide)
  . exact(hb1.grown hgrow (by have:=hb1.size;omega) (fun k hk=>(hown.lt k hk).1)).setCell (p:=⟨b,1,none⟩) hB _
 clear hown hown' hgrow hb2 hbk hb1 hk1 c0 c1;go_wp2
 go_ret2
 exact⟨⟨_,rfl⟩,HP.out⟩
theorem Jjg{α:Type}{P:Program}{g:Operand}{ps:Array Tmp}{assign body:Code}{Q:Exit->Act->World->Prop}{a:Act}{w:World}{n:Nat}
    {gf:Nat} {lb:Array Value} (hg:a.eval g=.func (.func gf) #[] lb) (eg:∀args w,(callFunc gf args).run P w=.ok (.enter gf args) w)
    {encs:List α->α->Array Value} (hps:∀pre x,(encs pre x).size=ps.size)
    {It Kp:World->World->Prop} {Z:World->Prop} {S Sp:List α->Prop}
    (hseq:∀W,W.heap.size=w.heap.size+2->Below w.heap.size w W->Jnc P gf lb encs It Kp Z S Sp W)
    (hIt:∀A B,It A B->Same2 w.heap.size A B)
    (hKt:∀{A B C:World},Kp A B->Kp B C->Kp A C) (hKb:∀(A:World) (r:Loop),Kp A (A.putObj (w.heap.size+1) (.loop r)))
    (I:List α->World->Prop) (Ix:Code->List α->World->Prop)
    (hIz:∀pre A,I pre A->Z A) (hIxz:∀c pre A,Ix c pre A->Z A)
    (hI:∀pre A B,I pre A->It A B->I pre B) (hIb:∀pre A (r:Loop),I pre A->I pre (A.putObj (w.heap.size+1) (.loop r)))
    (hIx:∀c pre A B,Ix c pre A->It A B->Ix c pre B) (hIxb:∀c pre A (r:Loop),Ix c pre A->Ix c pre (A.putObj (w.heap.size+1) (.loop r)))
    (h0:∀W,W.heap.size=w.heap.size+2->Below w.heap.size w W->(∃r,W.heap[w.heap.size+1]?=some (.loop r))->W.heap[w.heap.size]?=some (.deferred (some []))->I [] W)
    (hround:∀(l:Nat) (pre:List α) (x:α) (W:World),I pre W->w.heap.size+2<=W.heap.size->Sp (pre++[x]) ->
      assign.wpIn (Fence.wide.inRound l) 0 P (Exit.then (fun a₁ w₁=>Same2 w.heap.size W w₁/\Kp W w₁/\∀w₂,Put1 (w.heap.size+1) w₁ w₂->(∃r,w₂.heap[w.heap.size+1]?=some (.loop r))->body.wpIn (Fence.wide.inRound l) 0 P (JmF w.heap.size Kp I Ix (pre++[x]) w₂) a₁ w₂) (fun _ _ _=>False))
       { tmps:=(ps.zip (encs pre x)).foldl (fun t (p,v)=>t.setIfInBounds p v) a.tmps,defers:=[] } W)
    (hdone:∀(xs:List α) (W:World),S xs->I xs W->W.heap[w.heap.size]?=some (.deferred (some []))->Q .normal { a with defers:={ target:=.collected w.heap.size,args:=#[] } :: a.defers } W)
    (hstop:∀(c:Code) (pre:List α) (W:World),Sp pre->Ix c pre W->W.heap[w.heap.size]?=some (.deferred (some []))->c.wpIn Fence.wide n P Q { a with defers:={ target:=.collected w.heap.size,args:=#[] } :: a.defers } W) :
    (Code.rangeFunc g ps assign body).wpIn Fence.wide n P Q a w:=by
 refine wpIn_rangeFunc ?_
 intro fn hfn;obtain⟨rec,hrec⟩:∃rec:LoopState->Option Code->Loop,rec=fun st pe=>{ state:=st,pending:=pe,fn,tmps:=a.tmps,params:=ps,assign,body,defers:=w.heap.size }:=⟨_,rfl⟩
 obtain⟨W1,hW1⟩:∃W1,(w.alloc (.deferred (some []))).alloc (.loop (rec .ready none))=W1:=⟨_,rfl⟩;have hL1:W1.heap[w.heap.size+1]?=some (.loop (rec .ready none)):=by
  rw[←hW1];have:=World.alloc_heap_new (w.alloc (.deferred (some []))) (.loop (rec .ready none));rwa[World.size_alloc]at this
 have hK1:W1.heap[w.heap.size]?=some (.deferred (some [])):=by
  rw[←hW1];exact(Below.heap_alloc _ _ _ (by simp)).trans (World.alloc_heap_new w _)
 have hs1:W1.heap.size=w.heap.size+2:=by rw[←hW1,World.size_alloc,World.size_alloc]
 have hb1:Below w.heap.size w W1:=by
  rw[←hW1];exact((brf _ w).alloc (nlr _) _).alloc (by simp) _
 have hI1:I [] W1:=h0 W1 hs1 hb1 ⟨_,hL1⟩ hK1
 refine ⟨w.heap.size+1,[{ target:=.collected w.heap.size,args:=#[] }],W1,{ target:=.fn (.func gf) lb,args:=#[.func (.yield (w.heap.size+1)) #[] #[]] },W1,gf,
  #[.func (.yield (w.heap.size+1)) #[] #[]]++lb,W1,?_,?_,?_,?_,fun h=>(by cases h),?_⟩
 . rw[←hW1,hrec];exact run_enterLoop_outer _ _ _ _ _
 . simp only[resolve,hg]
   simp[go_sem]
 . intro f' hf';trivial
 . simp[invoke,go_sem,eg]
 . refine CallsIn.more ((hseq W1 hs1 hb1 (w.heap.size+1)
     (fun pre W=>I pre W/\W.heap[w.heap.size+1]?=some (.loop (rec .ready none))/\W.heap[w.heap.size]?=some (.deferred (some [])))
     (fun pre W=>∃c,Ix c pre W/\W.heap[w.heap.size+1]?=some (.loop (rec .done (some c)))/\W.heap[w.heap.size]?=some (.deferred (some [])))
     (fun s A hs=>hIz s A hs.1) (fun s A hs=>(by obtain⟨c,hc,_⟩:=hs;exact hIxz c s A hc))
     (fun s A B hs hg'=>⟨hI s A B hs.1 hg',(hIt A B hg').b.trans hs.2.1,(hIt A B hg').a.trans hs.2.2⟩)
     (fun s A B hs hg'=>by
       obtain⟨c,hc,hl,hk⟩:=hs
       exact⟨c,hIx c s A B hc hg',(hIt A B hg').b.trans hl,(hIt A B hg').a.trans hk⟩)
     ?_ ⟨hI1,hL1,hK1⟩).mono ?_) (Nat.zero_le _)
   . -- one round
     rintro pre x W ⟨hi,hl,hk⟩ hSp;have hlt:w.heap.size+1<W.heap.size:=(alt hl);have hy:=run_yield (P:=P) (args:=encs pre x) hl (by rw[hrec];exact hps pre x);rw[hrec]at hy;refine⟨fn,_,assign,body,hy,roundIn_of_wpIn hfn (wpIn_mono (hround _ pre x W hi (by omega) hSp) ?_)⟩;clear hy;rintro ea a' Wa hq
     cases ea with
     | normal=>?_
     | ret=>exact hq.elim
     | exit id=>exact hq.elim
     | goto t=>exact hq.elim
     | panic c=>exact hq.elim
     | outgrown=>exact hq.elim
     obtain⟨h2a,hkpa,hbody⟩:=hq
     replace hl:=h2a.b.trans hl
     replace hk:=h2a.a.trans hk
     replace hlt:w.heap.size+1<Wa.heap.size:=(alt hl)
     refine⟨_,run_beginRound hl (by rw[hrec]),?_⟩;have hl2:(Wa.putObj (w.heap.size+1) (.loop { rec .ready none with state:=.busy })).heap[w.heap.size+1]?=some (.loop { rec .ready none with state:=.busy }):=World.putObj_heap_same hlt;have hk2:(Wa.putObj (w.heap.size+1) (.loop { rec .ready none with state:=.busy })).heap[w.heap.size]?=some (.deferred (some [])):=(World.putObj_heap_other (by omega)).trans hk;have hw2:Kp Wa (Wa.putObj (w.heap.size+1) (.loop { rec .ready none with state:=.busy })):=hKb _ _;refine wpIn_mono (hbody _ (Put1.putObj _ _ _) ⟨_,hl2⟩) ?_
     have fin:∀(jump:Option Code) (W3:World),Same2 w.heap.size (Wa.putObj (w.heap.size+1) (.loop { rec .ready none with state:=.busy })) W3 ->
         (Instr.endRound (w.heap.size+1) jump).run P W3=.ok (.bool jump.isNone) (W3.putObj (w.heap.size+1) (.loop (rec (if jump.isNone then .ready else .done) jump))) /\
         (W3.putObj (w.heap.size+1) (.loop (rec (if jump.isNone then .ready else .done) jump))).heap[w.heap.size+1]?=some (.loop (rec (if jump.isNone then .ready else .done) jump)) /\
         (W3.putObj (w.heap.size+1) (.loop (rec (if jump.isNone then .ready else .done) jump))).heap[w.heap.size]?=some (.deferred (some [])):=fun jump W3 hk3=>by
      have hl3:=hk3.b.trans hl2;have:=run_endRound (P:=P) jump hl3;rw[hrec]at this ⊢;exact⟨this,World.putObj_heap_same (alt hl3),(World.putObj_heap_other (by omega)).trans (hk3.a.trans hk2)⟩
     rintro e a3 W3 hp
     cases e with
     | normal =>
      obtain⟨hk3,hkp3,hi3⟩:=hp;obtain⟨hr,hl4,hk4⟩:=fin none W3 hk3;exact⟨_,_,hr,.inl ⟨rfl,⟨hIb _ _ _ hi3,hl4,hk4⟩,hKt hkpa (hKt (hKt hw2 hkp3) (hKb _ _))⟩⟩
     | ret =>
      obtain⟨hk3,hkp3,hi3⟩:=hp;obtain⟨hr,hl4,hk4⟩:=fin (some .ret) W3 hk3;exact⟨_,_,hr,.inr ⟨rfl,⟨.ret,hIxb _ _ _ _ hi3,hl4,hk4⟩,hKt hkpa (hKt (hKt hw2 hkp3) (hKb _ _))⟩⟩
     | exit id =>
      obtain⟨hk3,hkp3,hi3⟩:=hp;obtain⟨hr,hl4,hk4⟩:=fin (some (.exit id)) W3 hk3;exact⟨_,_,hr,.inr ⟨rfl,⟨.exit id,hIxb _ _ _ _ hi3,hl4,hk4⟩,hKt hkpa (hKt (hKt hw2 hkp3) (hKb _ _))⟩⟩
     | goto t =>
      obtain⟨hk3,hkp3,hi3⟩:=hp;obtain⟨hr,hl4,hk4⟩:=fin (some (.goto t)) W3 hk3;exact⟨_,_,hr,.inr ⟨rfl,⟨.goto t,hIxb _ _ _ _ hi3,hl4,hk4⟩,hKt hkpa (hKt (hKt hw2 hkp3) (hKb _ _))⟩⟩
     | panic ch=>exact hp.elim
     | outgrown=>exact hp.elim
   . -- behind the iterator
     rintro e W2 ⟨⟨v,rfl⟩,(⟨xs,hS,hi,hl,hk⟩|⟨pre,hSp,c,hi,hl,hk⟩)⟩
     . exact⟨none,_,by have:=run_endLoop (P:=P) hl (by rw[hrec];simp);rw[hrec]at this;exact this,hdone xs _ hS (hIb _ _ _ hi) ((World.putObj_heap_other (by omega)).trans hk)⟩
     . exact⟨some c,_,by have:=run_endLoop (P:=P) hl (by rw[hrec];simp);rw[hrec]at this;exact this,hstop c pre _ hSp (hIxb _ _ _ _ hi) ((World.putObj_heap_other (by omega)).trans hk)⟩
end
section
open Go.RowKit
attribute [local go_sem] Oper.semAt_some
variable {A B w w' : World}{e T b β : Nat}{r : Loop}{bs : List UInt8}{v1 v2 : Value}
theorem Joi(B b:Nat)(l:List UInt8)(w:World)(h:Lib.IsBuilder 184 5 B b (Lib.byteCells l) w)(hBw:B<=w.heap.size) :
    Calls Tryz.prog 109 #[.pointer (some ⟨b,0,none⟩)] w fun e w'=>e=.returned (.string ⟨l.toArray⟩)/\(Below B w w'/\Lib.OthersKept 5 (some b) w w'):=by
 have c:Calls Tryz.prog 109 #[.pointer (some ⟨b,0,none⟩)] w fun e w'=>e=.returned (.string ⟨l.toArray⟩)/\(Lib.IsBuilderF 184 5 B b (Lib.byteCells l) w'/\Below B w w'/\Lib.OthersKept 5 (some b) w w'):=Any.Builder_String_any_k Tryz.lays169 Tryz.Builder_Extra_169 B b l w (.of h) hBw
 exact c.mono fun e w' h=>⟨h.1,h.2.2⟩
def JcO (x:Pt×List UInt8):List UInt8:=(if 0<x.1.keep then x.2 else [])++x.1.put
def Jab (ps:List Pt) (s:List UInt8):List UInt8:=(pcs ps s).flatMap JcO
theorem Jpd(ps:List Pt)(s:List UInt8)(h:JhZ ps s):(((pcs ps s).map fun x=>x.2.length).sum:Nat)<=s.length:=by
 induction ps generalizing s with
 | nil=>simp[pcs]
 | cons p ps ih =>
  obtain⟨h1,h2,h3,h4⟩:=h;have:=ih _ h4;simp only[pcs,List.map_cons,List.sum_cons];rw[List.length_take];rw[List.length_drop]at this;omega
theorem JmD(ps:List Pt)(s:List UInt8):(pcs ps s).map (fun x=>x.1.put.length)=ps.map fun p=>p.put.length:=by
 induction ps generalizing s with
 | nil=>rfl
 | cons p ps ih=>simp[pcs,ih]
def Jan (ps:List Pt):Nat:=(ps.map fun p=>p.put.length).sum
theorem JmM(l:List (Pt×List UInt8)):(l.flatMap JcO).length<=(l.map fun x=>x.2.length).sum+(l.map fun x=>x.1.put.length).sum:=by
 induction l with
 | nil=>simp
 | cons x l ih =>
  simp only[List.flatMap_cons,List.length_append,List.map_cons,List.sum_cons];have:(JcO x).length<=x.2.length+x.1.put.length:=by
   unfold JcO;rw[List.length_append]
   split<;>simp
  omega
theorem JqH{ps:List Pt}{s:List UInt8}(h:JhZ ps s){pre rest:List (Pt×List UInt8)}(e:pcs ps s=pre++rest):(pre.flatMap JcO).length<=s.length+Jan ps:=by
 have h1:=JmM pre;have h2:=Jpd ps s h;have h3:=congrArg List.sum (JmD ps s);rw[e]at h2 h3;rw[List.map_append,List.sum_append]at h2 h3;unfold Jan;omega
theorem JlK{n N size k:Nat}{v:Value}{xs:List Value}(h:A.ownsRow N e size v k xs)(hn:A.heap[n]?=some (.loop r))(hp:Put1 n A B):B.ownsRow N e size v k xs:=by
 obtain⟨h0,hrow⟩:=h;refine⟨h0,?_⟩
 rcases hrow with hx|⟨g,cap,cur,rfl,hg,hgg,rest⟩
 . exact .inl hx
 . refine .inr ⟨g,cap,cur,rfl,hg,(hp.block g ?_).trans hgg,rest⟩
   rintro rfl;rw[hn]at hgg
   cases hgg
theorem JrR{B:Nat}{p:Value}{bs:List Value}(h:Lib.BuilderAt T e B b p bs w)(hb:w'.heap[b]?=w.heap[b]?)(ho:∀v,w.ownsRow B e 1 v bs.length bs->w'.ownsRow B e 1 v bs.length bs):Lib.BuilderAt T e B b p bs w':=by
 obtain⟨h1,v,h2,h3,h4⟩:=h;exact⟨h1,v,hb.trans h2,ho v h3,h4⟩
theorem JrQ{B:Nat}{bs:List Value}(h:Lib.IsBuilder T e B b bs w)(hb:w'.heap[b]?=w.heap[b]?)(ho:∀v,w.ownsRow B e 1 v bs.length bs->w'.ownsRow B e 1 v bs.length bs):Lib.IsBuilder T e B b bs w' :=
 h.elim (fun h=>.inl (JrR h hb ho)) (fun h=>.inr (JrR h hb ho))
structure apI (w:World) (β:Nat) (v1 v2:Value) (r:Loop) (bs:List UInt8) (A:World):Prop where
 below:Below w.heap.size w A
 size:β+5<=A.heap.size
 bld:Lib.IsBuilder 184 5 β β (Lib.byteCells bs) A
 h1:A.heap[β+1]?=some (.cells #[v1] 23 (0,0))
 h2:A.heap[β+2]?=some (.cells #[v2] 9 (0,0))
 h3:A.heap[β+3]?=some (.deferred (some []))
 h4:A.heap[β+4]?=some (.loop r)
theorem apI.grow(h:apI w β v1 v2 r bs A)(hb:Below A.heap.size A B):apI w β v1 v2 r bs B:=by
 have hs:=h.size;exact⟨h.below.trans (hb.mono h.below.size),Nat.le_trans hs hb.size,JrQ h.bld (hb.block β (by omega)) (fun v hv=>Jaj hv hb),(hb.block (β+1) (by omega)).trans h.h1,(hb.block (β+2) (by omega)).trans h.h2,(hb.block (β+3) (by omega)).trans h.h3,(hb.block (β+4) (by omega)).trans h.h4⟩
theorem apI.put{r':Loop}(h:apI w β v1 v2 r bs A)(hw:w.heap.size<=β)(hp:Put1 (β+4) A B)(hl:B.heap[β+4]?=some (.loop r')):apI w β v1 v2 r' bs B :=
 ⟨h.below.trans (hp.below (by omega)),by rw[hp.size];exact h.size,JrQ h.bld (hp.block β (by omega)) (fun v hv=>JlK hv h.h4 hp),(hp.block (β+1) (by omega)).trans h.h1,(hp.block (β+2) (by omega)).trans h.h2,(hp.block (β+3) (by omega)).trans h.h3,hl⟩
theorem apI.wrote{u:List UInt8}(h:apI w β v1 v2 r bs A)(hw:w.heap.size<=β)(h1:Lib.IsBuilder 184 5 β β (Lib.byteCells bs++Lib.strCells ⟨u.toArray⟩) B)(h2:Below β A B)(h3:Lib.OthersKept 5 (some β) A B):apI w β v1 v2 r (bs++u) B:=by
 refine⟨h.below.trans (h2.mono hw),Nat.le_trans h.size h2.size,?_,h3 _ _ h.h1 (by simp) (by intro c fz e;cases e),h3 _ _ h.h2 (by simp) (by intro c fz e;cases e),h3 _ _ h.h3 (by simp) (by intro c fz e;cases e),h3 _ _ h.h4 (by simp) (by intro c fz e;cases e)⟩;rw[Lib.byteCells_append];exact h1
theorem apI.kept{bs':List UInt8}(h:apI w β v1 v2 r bs A)(h':apI w β v1 v2 r bs' B)(hs:A.heap.size<=B.heap.size) :
    Same2 (β+3) A B/\A.heap.size<=B.heap.size/\∀(x:Nat),x=β+1\/x=β+1+1\/x<w.heap.size->B.heap[x]?=A.heap[x]?:=by
 refine⟨⟨h'.h3.trans h.h3.symm,h'.h4.trans h.h4.symm⟩,hs,?_⟩;rintro x (rfl|rfl|hx)
 . exact h'.h1.trans h.h1.symm
 . exact h'.h2.trans h.h2.symm
 . exact(h'.below.block x hx).trans (h.below.block x hx).symm
theorem Jqi(v:Value)(ps:List Pt)(s:List UInt8)(w:World)(hT:Lib.Utf8Tabs 2 3 w)(hr:opAt w v ps)(hwf:∀p∈ps,wfP p)(hs:s.length<1000000000)(hl:ps.length<10000000)(he:ordE ps s≠0) :
    Calls Tryz.prog 29 #[v,.string ⟨s.toArray⟩] w fun e w'=>e=.returned (.tuple #[.string ⟨#[]⟩,errV (ordE ps s)])/\Below w.heap.size w w':=by
 have cC:Hid _:=JfO v ps s w hT hr hwf hs hl;have hV:errV (ordE ps s)=.iface 26 (.int .i64 (ordE ps s)):=by unfold errV;rw[if_neg he]
 rw[hV]at cC ⊢;generalize ordE ps s=E at *;obtain⟨p,c,rfl,_⟩:=hr;clear hT hwf hV
 go_enter Tryz.func29,Tryz.ntmps29
 go_wp2_with (first | (go_at_call 105;refine Calls.mono cC.out ?_;rintro e w1 ⟨rfl,hb1⟩) | fail)
 go_ret2
 exact⟨rfl,hb1⟩
theorem Jol(v:Value)(ps:List Pt)(s:List UInt8)(w:World)(hT:Lib.Utf8Tabs 2 3 w)(hr:opAt w v ps)(hwf:∀p∈ps,wfP p)(hs:s.length<1000000000)(hl:ps.length<10000000)(hpu:Jan ps<100000000000)(he:chkE ps (s.length:Int)=0)(hbad:badO ps s=false) :
    Calls Tryz.prog 29 #[v,.string ⟨s.toArray⟩] w fun e w'=>e=.returned (.tuple #[.string ⟨(Jab ps s).toArray⟩,.nilIface])/\Below w.heap.size w w':=by
 have cC:Hid _:=JfO v ps s w hT hr hwf hs hl;obtain⟨hfit,hleft⟩:=JkV he;have hV:errV (ordE ps s)=.nilIface:=by unfold ordE;rw[if_pos he,hbad];rfl
 rw[hV]at cC;have HF:Hid (JhZ ps s):=hfit;have HR:Hid (opAt w v ps):=hr;have HSL:Hid (s.length<1000000000):=hs;have HLP:Hid (ps.length<10000000):=hl;have HPU:Hid (Jan ps<100000000000):=hpu;have hrow:∀x o n c,v=.slice (some ⟨x,o,none⟩) n c->ps≠[]->x<w.heap.size:=by
  intro x o n c e hne;obtain⟨p,c',rfl,_,_,h3⟩:=hr;obtain⟨b,o',e1,e2,_⟩:=h3 hne;simp only[Value.slice.injEq]at e;rw[e.1]at e1;simp only[Option.some.injEq,Addr.mk.injEq]at e1;rw[e1.1];exact e2
 have HROW:=hdz hrow;obtain⟨p,c,rfl,_⟩:=hr;obtain⟨S,hS⟩:∃S:ByteArray,(ByteArray.mk (Jab ps s).toArray)=S:=⟨_,rfl⟩;have HS:Hid (ByteArray.mk (Jab ps s).toArray=S):=hS;rw[hS];clear hT hwf hV hfit hleft hrow he hbad hS hpu;have cO:=fun (wx:World)=>JmH p ps.length c ⟨s.toArray⟩ wx
 refine(callsIn_wide (n:=3)).1 ?_
 refine callsIn_of_wp_marks Tryz.func29 rfl trivial ?_ rfl;simp only[Tryz.ntmps29,List.size_toArray,List.length_cons,List.length_nil,Nat.reduceAdd,Nat.reduceSub,Array.replicate_succ,Array.replicate_zero,List.push_toArray,List.append_toArray,List.nil_append,List.cons_append]
 gi_wp2_with (first
  | (refine⟨trivial,?_⟩;gi_at_call 105;refine(callsIn_wide.2 cC.out).mono ?_;rintro e w1 ⟨rfl,hb1⟩)
  | (refine⟨trivial,?_⟩;gi_at_call 106;refine(callsIn_wide.2 (cO _)).mono ?_;rintro e w13 ⟨rfl,rfl⟩)
  | fail)
 have hlt1:w.heap.size<=w1.heap.size:=hb1.size;obtain⟨β,hβ⟩:∃β,w1.heap.size=β:=⟨_,rfl⟩;obtain⟨W4,hW4⟩:∃W4,W4=((w1.alloc (.cells #[.pointer none,.slice none 0 0] 184)).alloc (.cells #[.slice p ps.length c] 23)).alloc (.cells #[.string ⟨s.toArray⟩] 9):=⟨_,rfl⟩;have hb4:Below w.heap.size w W4:=by rw[hW4];exact((hb1.alloc hb1.size _).alloc (by simp;omega) _).alloc (by simp;omega) _
 have hs4:W4.heap.size=β+3:=by rw[hW4,←hβ];simp
 have q0:W4.heap[β]?=some (.cells #[.pointer none,.slice none 0 0] 184 (0,0)):=by rw[hW4,←hβ];exact(heap_alloc_old _ _ (by rw[wsa,World.size_alloc];omega)).trans ((heap_alloc_old _ _ (by rw[wsa];omega)).trans (heap_alloc_new _ _))
 have q1:W4.heap[β+1]?=some (.cells #[.slice p ps.length c] 23 (0,0)):=by rw[hW4,←hβ];exact(heap_alloc_old _ _ (by simp)).trans (by have:=heap_alloc_new (w1.alloc (.cells #[.pointer none,.slice none 0 0] 184)) (.cells #[.slice p ps.length c] 23);rwa[World.size_alloc]at this)
 have q2:W4.heap[β+2]?=some (.cells #[.string ⟨s.toArray⟩] 9 (0,0)):=by rw[hW4,←hβ];have:=heap_alloc_new ((w1.alloc (.cells #[.pointer none,.slice none 0 0] 184)).alloc (.cells #[.slice p ps.length c] 23)) (.cells #[.string ⟨s.toArray⟩] 9);rwa[World.size_alloc,World.size_alloc]at this
 rw[←hW4,hβ];rw[hβ]at hlt1;clear hW4 cC cO hb1 hβ
 refine Jjg (gf:=174) (lb:=#[.pointer (some ⟨β+1+1,0,none⟩),.pointer (some ⟨β+1,0,none⟩)]) rfl (enters_of Tryz.func174 (by kernel_rfl) rfl) (encs:=fun _ (x:Pt×List UInt8)=>#[Jay x.1,.string ⟨x.2.toArray⟩]) (fun _ _=>rfl)
  (It:=fun A B=>Below A.heap.size A B/\β+5<=A.heap.size) (Kp:=fun A B=>A.heap.size<=B.heap.size/\∀x,(x=β+1\/x=β+1+1\/x<w.heap.size)->B.heap[x]?=A.heap[x]?) (Z:=fun _=>True) (S:=fun xs=>xs=pcs ps s) (Sp:=fun pre=>∃rest,pcs ps s=pre++rest)
  ?seq ?its (fun h k=>⟨Nat.le_trans h.1 k.1,fun x hx=>(k.2 x hx).trans (h.2 x hx)⟩) ?hkb
  (fun pre W=>∃r,apI w β (.slice p ps.length c) (.string ⟨s.toArray⟩) r (pre.flatMap JcO) W)
  (fun _ _ _=>False) (fun _ _ _=>trivial) (fun _ _ _ h=>h.elim) ?ii ?ib (fun _ _ _ _ h _=>h) (fun _ _ _ _ h=>h) ?h0 ?round ?done (fun _ _ _ _ h=>h.elim)
 case seq =>
  intro W hs1 hb1;rw[hs4]at hs1 hb1;have hb9:Below w.heap.size w W:=hb4.trans (hb1.mono (by omega));have:=JmG (.slice p ps.length c) ps s HSL.out HLP.out HF.out (fun x=>(x=β+1\/x=β+1+1\/x<w.heap.size)) (β+1) W (chp ((hb1.block (β+1) (by omega)).trans q1) 0) (chp ((hb1.block (β+2) (by omega)).trans q2) 0) (Ja6 HR.out hb9 (nlr _)) (.inl rfl) (.inr (.inl rfl)) (fun b o n c' e hne=>.inr (.inr (HROW.out b o n c' e hne))) (by rintro x (rfl|rfl|hx)<;>omega) (fun _=>True);rw[hs1]at this;exact this
 case its=>exact fun A B h=>Same2.of_below h.1 (by rw[hs4];omega)
 case hkb =>
  intro A r;rw[hs4];exact⟨by simp,fun x hx=>World.putObj_heap_other (by omega)⟩
 case ii=>exact fun pre A B h hb=>by obtain⟨r,h⟩:=h;exact⟨r,h.grow hb.1⟩
 case ib =>
  rintro pre A r ⟨r0,h⟩;rw[hs4];exact⟨r,h.put hlt1 (Put1.putObj _ _ _) (World.putObj_heap_same (by have:=h.size;omega))⟩
 case h0 =>
  rintro W hs hb ⟨r,hr⟩ hd;rw[hs4]at hs hb hr hd;exact⟨r,hb4.trans (hb.mono (by omega)),by omega,.inl ⟨nlr _,.slice none 0 0,(hb.block β (by omega)).trans q0,World.ownsRow_nil _ _ _ _,by simp[Value.ownBlock]⟩,(hb.block (β+1) (by omega)).trans q1,(hb.block (β+2) (by omega)).trans q2,hd,hr⟩
 case round =>
  rintro l pre ⟨q,T⟩ W ⟨r0,hI⟩ hlW ⟨rest,hSp⟩;rw[hs4]at hlW ⊢;have hml:=JqH HF.out hSp;have hpp:=HPU.out;have hss:=HSL.out;have HML:Hid ((pre.flatMap JcO).length+T.length+q.put.length<=1000000000000):=by
   show _<=_;have h1:=Jpd ps s HF.out;have h2:=congrArg List.sum (JmD ps s);have h3:=JmM pre;rw[hSp]at h1 h2;simp only[List.map_append,List.sum_append,List.map_cons,List.map_nil,List.sum_cons,List.sum_nil]at h1 h2;unfold Jan at hpp;omega
  have HI:Hid (apI w β (.slice p ps.length c) (.string ⟨s.toArray⟩) r0 (pre.flatMap JcO) W):=hI;have HNX:Hid ((pre++[(q,T)]).flatMap JcO=pre.flatMap JcO++JcO (q,T)):=by show _=_;simp
  have HWB:Hid (¬β=W.heap.size):=by show ¬_;omega
  have cK:=JbX q;unfold Jay at cK ⊢;clear hI hSp q0 q1 q2 hb4 hml hpp hss
  gi_wp2
  refine⟨(Same2.refl _ W).alloc (by omega) _,⟨by simp,fun x hx=>heap_alloc_old _ _ (by omega)⟩,?_⟩;intro w2 hp ⟨r,hr⟩;have hI1:=HI.out.grow (B:=W.alloc (.cells #[.int .i64 q.keep,.int .i64 q.drop,.string ⟨q.put.toArray⟩] 50)) ((brf _ _).alloc (nlr _) _);have HI2:Hid (apI w β (.slice p ps.length c) (.string ⟨s.toArray⟩) r (pre.flatMap JcO) w2):=hI1.put hlt1 hp hr;have hbx:w2.heap[W.heap.size]?=some (.cells #[.int .i64 q.keep,.int .i64 q.drop,.string ⟨q.put.toArray⟩] 50 (0,0)):=(hp.block W.heap.size (by omega)).trans (heap_alloc_new _ _);have HBX:Hid (w2.heap[W.heap.size]?=some (.cells #[.int .i64 q.keep,.int .i64 q.drop,.string ⟨q.put.toArray⟩] 50 (0,0))):=hbx;have x0:w2.cell? ⟨W.heap.size,0,none⟩=some (.int .i64 q.keep):=chp hbx 0;have x1:w2.cell? ⟨W.heap.size,1,none⟩=some (.int .i64 q.drop):=chp hbx 1;have x2:w2.cell? ⟨W.heap.size,2,none⟩=some (.string ⟨q.put.toArray⟩):=chp hbx 2;clear hp hr hbx hI1
  by_cases hk:0<q.keep
  . have hkd:decide (0<q.keep)=true:=decide_eq_true hk
    rw[hkd]at cK;have HMK:Hid (JcO (q,T)=T++q.put):=by show _=_;unfold JcO;rw[if_pos hk]
    clear hk hkd
    gi_wp2_with (first
     | (refine⟨trivial,rfl,?_⟩;gi_at_call 107;refine(CallsIn.inRound l (callsIn_wide.2 (cK _))).mono ?_;rintro e w3 ⟨rfl,hb3⟩;have hI3:=HI2.out.grow hb3;have hL3:(Lib.byteCells (pre.flatMap JcO)).length+(ByteArray.mk T.toArray).size<=1000000000000:=(by have:=HML.out;rw[Lib.byteCells_length];show _+T.toArray.size<=_;simp only[List.size_toArray];omega);have hB3:β<=w3.heap.size:=(by have:=hI3.size;omega);have hx3:=(hb3.block W.heap.size (blt w2 _ x0)).trans HBX.out)
     | (refine⟨trivial,rfl,?_⟩;gi_at_call 108;refine(CallsIn.inRound l (callsIn_wide.2 (JdE β β _ _ _ hI4.bld hL4 hB4))).mono ?_;rintro e w5 ⟨⟨v5,rfl⟩,hw5,hb5,hk5⟩;have hI5:=hI4.wrote hlt1 hw5 hb5 hk5)
     | (refine⟨trivial,rfl,?_⟩;gi_at_call 108;refine(CallsIn.inRound l (callsIn_wide.2 (JdE β β _ _ _ hI3.bld hL3 hB3))).mono ?_;rintro e w4 ⟨⟨v4,rfl⟩,hw4,hb4,hk4⟩;have hI4:=hI3.wrote hlt1 hw4 hb4 hk4;have hx4:=hk4 _ _ hx3 (fun e=>HWB.out (osi e).symm) (by intro c fz e;cases e);have hy4:w4.cell? ⟨W.heap.size,2,none⟩=some (.string ⟨q.put.toArray⟩):=chp hx4 2;have hL4:(Lib.byteCells (pre.flatMap JcO++T)).length+(ByteArray.mk q.put.toArray).size<=1000000000000:=(by have:=HML.out;rw[Lib.byteCells_length,List.length_append];show _+q.put.toArray.size<=_;simp only[List.size_toArray];omega);have hB4:β<=w4.heap.size:=(by have:=hI4.size;omega))
     | fail)
    have hK:=HI2.out.kept hI5 (Nat.le_trans hb3.size (Nat.le_trans hb4.size hb5.size));refine⟨hK.1,hK.2,r,?_⟩;rw[HNX.out,HMK.out,←List.append_assoc];exact hI5
  . have hkd:decide (0<q.keep)=false:=decide_eq_false hk
    rw[hkd]at cK;have HMK:Hid (JcO (q,T)=q.put):=by show _=_;unfold JcO;rw[if_neg hk,List.nil_append]
    clear hk hkd
    gi_wp2_with (first
     | (refine⟨trivial,rfl,?_⟩;gi_at_call 107;refine(CallsIn.inRound l (callsIn_wide.2 (cK _))).mono ?_;rintro e w3 ⟨rfl,hb3⟩;have hI3:=HI2.out.grow hb3;have hL3:(Lib.byteCells (pre.flatMap JcO)).length+(ByteArray.mk q.put.toArray).size<=1000000000000:=(by have:=HML.out;rw[Lib.byteCells_length];show _+q.put.toArray.size<=_;simp only[List.size_toArray];omega);have hB3:β<=w3.heap.size:=(by have:=hI3.size;omega);have y3:w3.cell? ⟨W.heap.size,2,none⟩=some (.string ⟨q.put.toArray⟩):=chp ((hb3.block W.heap.size (blt w2 _ x0)).trans HBX.out) 2)
     | (refine⟨trivial,rfl,?_⟩;gi_at_call 108;refine(CallsIn.inRound l (callsIn_wide.2 (JdE β β _ _ _ hI3.bld hL3 hB3))).mono ?_;rintro e w4 ⟨⟨v4,rfl⟩,hw4,hb4,hk4⟩;have hI4:=hI3.wrote hlt1 hw4 hb4 hk4)
     | (refine⟨trivial,?_⟩)
     | fail)
    have hK:=HI2.out.kept hI4 (Nat.le_trans hb3.size hb4.size);refine⟨hK.1,hK.2,r,?_⟩;rw[HNX.out,HMK.out];exact hI4
 case done =>
  rintro xs W rfl ⟨r,hI⟩ hDef;rw[hs4]at hDef ⊢;have HI:Hid (apI w β (.slice p ps.length c) (.string ⟨s.toArray⟩) r (Jab ps s) W):=hI;have cS:=Joi β β (Jab ps s) W HI.out.bld (by have:=HI.out.size;omega);rw[HS.out]at cS;clear hI q0 q1 q2 hb4
  gi_wp2_with (first
   | (refine⟨trivial,?_⟩;gi_at_call 109;refine(callsIn_wide.2 cS).mono ?_;rintro e w6 ⟨rfl,hb6,hk6⟩)
   | fail)
  have hDef6:=hk6 _ _ hDef (fun e=>by have:=osi e;omega) (by intro c fz e;cases e);have hP:=Put1.putObj (β+3) w6 (.deferred none);refine⟨by simp,.inl ⟨_,_,rfl,run_takeDeferred hDef6,?_⟩⟩;exact⟨.tuple #[.string S,.nilIface],by simp[results,Tryz.results29,go_sem],rfl,(HI.out.below.trans (hb6.mono hlt1)).trans (hP.below (by omega))⟩
theorem JhR(v:Value)(ps:List Pt)(s:List UInt8)(w:World)(hT:Lib.Utf8Tabs 2 3 w)(hr:opAt w v ps)(hwf:∀p∈ps,wfP p)(hs:s.length<1000000000)(hl:ps.length<10000000)(hpu:Jan ps<100000000000) :
    Calls Tryz.prog 29 #[v,.string ⟨s.toArray⟩] w fun e w'=>e=.returned (.tuple #[.string ⟨(if ordE ps s=0 then Jab ps s else []).toArray⟩,errV (ordE ps s)])/\Below w.heap.size w w':=by
 by_cases he:ordE ps s=0
 . rw [if_pos he,he]
   have hc:chkE ps (s.length:Int)=0/\badO ps s=false:=by
    unfold ordE at he
    split at he
    . rename_i h
      refine⟨h,?_⟩
      cases hb:badO ps s with
      | false=>rfl
      | true=>rw[hb]at he;simp at he
    . rename_i h;exact absurd he h
   exact Jol v ps s w hT hr hwf hs hl hpu hc.1 hc.2
 . rw[if_neg he]
   exact Jqi v ps s w hT hr hwf hs hl he
end
section
open Go.RowKit
attribute [local go_sem] Oper.semAt_some
variable {A B w : World}{a β : Nat}{r : Loop}{fv v1 v2 : Value}{st : NSt}
theorem add_bd{M:Nat}(a:Nat)(s:NSt)(p:Pt)(w:World)(h:gath M w a s){T:Int}{n:Nat}(hB:Bd s T n)(hp:JbA p)(hT:T+wtP p<1000000000)(hn:n<10000000) :
    Calls Tryz.prog 265 #[Jay p,.pointer (some ⟨a+1,0,none⟩),.pointer (some ⟨a+2,0,none⟩),.pointer (some ⟨a+3,0,none⟩),.pointer (some ⟨a,0,none⟩)] w fun e w'=>(∃v,e=.returned v)/\gath M w' a (addP s p)/\BelowG M a w w':=by
 have h1:=hB.put;have h2:=hB.d0;have h3:=hB.dT;have h4:=hB.len;obtain⟨p1,p2⟩:=hp;unfold wtP at hT;exact Jnb a s p w h (by omega) h2 (by omega) p2 p1 (by omega) (fun q hq=>by have:=hB.keep q hq;omega) (by omega)
theorem Jrd{n:Nat}{s:NSt}(h:gath (a+4) A a s)(hn:A.heap[n]?=some (.loop r))(ha:a+3<n)(hp:Put1 n A B):gath (a+4) B a s:=by
 have hM:=h.le;have hT:=h.top;obtain⟨⟨p,c,h1,h2⟩,h3,⟨p',c',h4,h5⟩,h6,h7,h8,h9⟩:=h;exact⟨⟨p,c,(hp.cell (by omega)).trans h1,JlK h2 hn hp⟩,(hp.frozen (by omega)).trans h3,⟨p',c',(hp.cell (by omega)).trans h4,JlK h5 hn hp⟩,(hp.frozen (by omega)).trans h6,(hp.cell (by omega)).trans h7,(hp.frozen (by omega)).trans h8,(hp.cell (by omega)).trans h9,hM,by rw[hp.size];exact hT⟩
structure ivI (w:World) (a β:Nat) (fv v1 v2:Value) (r:Loop) (st:NSt) (A:World):Prop where
 below:Below w.heap.size w A
 size:β+5<=A.heap.size
 g:gath (a+4) A a st
 h0:A.heap[β]?=some (.cells #[fv] 342 (0,0))
 h1:A.heap[β+1]?=some (.cells #[v1] 23 (0,0))
 h2:A.heap[β+2]?=some (.cells #[v2] 9 (0,0))
 h3:A.heap[β+3]?=some (.deferred (some []))
 h4:A.heap[β+4]?=some (.loop r)
theorem ivI.grow(h:ivI w a β fv v1 v2 r st A)(hb:Below A.heap.size A B):ivI w a β fv v1 v2 r st B:=by
 have hs:=h.size;exact⟨h.below.trans (hb.mono h.below.size),Nat.le_trans hs hb.size,Jbw h.g hb,(hb.block β (by omega)).trans h.h0,(hb.block (β+1) (by omega)).trans h.h1,(hb.block (β+2) (by omega)).trans h.h2,(hb.block (β+3) (by omega)).trans h.h3,(hb.block (β+4) (by omega)).trans h.h4⟩
theorem ivI.put{r':Loop}(h:ivI w a β fv v1 v2 r st A)(hw:w.heap.size<=β)(ha:a+4<=β)(hp:Put1 (β+4) A B)(hl:B.heap[β+4]?=some (.loop r')):ivI w a β fv v1 v2 r' st B :=
 ⟨h.below.trans (hp.below (by omega)),by rw[hp.size];exact h.size,Jrd h.g h.h4 (by omega) hp,(hp.block β (by omega)).trans h.h0,(hp.block (β+1) (by omega)).trans h.h1,(hp.block (β+2) (by omega)).trans h.h2,(hp.block (β+3) (by omega)).trans h.h3,hl⟩
theorem ivI.kept{st':NSt}(h:ivI w a β fv v1 v2 r st A)(h':ivI w a β fv v1 v2 r st' B)(hs:A.heap.size<=B.heap.size) :
    Same2 (β+3) A B/\A.heap.size<=B.heap.size/\∀(x:Nat),x=β+1\/x=β+1+1\/x<w.heap.size->B.heap[x]?=A.heap[x]?:=by
 refine⟨⟨h'.h3.trans h.h3.symm,h'.h4.trans h.h4.symm⟩,hs,?_⟩;rintro x (rfl|rfl|hx)
 . exact h'.h1.trans h.h1.symm
 . exact h'.h2.trans h.h2.symm
 . exact(h'.below.block x hx).trans (h.below.block x hx).symm
end
section
open Go.RowKit
attribute [local go_sem] Oper.semAt_some
variable {g B o c : Nat}{w w' : World}{v : Value}{ps : List Pt}{p : Pt}
structure ButO (g:Nat) (w w':World):Prop where
 os:w'.os=w.os
 tape:w'.tape=w.tape
 output:w'.output=w.output
 size:w.heap.size<=w'.heap.size
 block:∀k,k<w.heap.size->k≠g->w'.heap[k]?=w.heap[k]?
theorem ButO.of(h:Below w.heap.size w w'):ButO g w w':=⟨h.os,h.tape,h.output,h.size,fun k hk _=>h.block k hk⟩
theorem ButO.refl(g:Nat)(w:World):ButO g w w:=.of (.refl _ _)
theorem ButO.trans{g:Nat}{a b c:World}(h:ButO g a b)(k:ButO g b c):ButO g a c :=
 ⟨k.os.trans h.os,k.tape.trans h.tape,k.output.trans h.output,Nat.le_trans h.size k.size,fun i hi hg=>(k.block i (Nat.lt_of_lt_of_le hi h.size) hg).trans (h.block i hi hg)⟩
theorem ButO.below(h:ButO g w w')(hg:B<=g)(hB:B<=w.heap.size):Below B w w':=⟨h.os,h.tape,h.output,h.size,fun k hk=>h.block k (by omega) (by omega)⟩
theorem ButO.set{a:World}(h:ButO g a w)(o:Nat)(u:Value):ButO g a (w.setCell ⟨g,o,none⟩ u) :=
 h.trans ⟨rfl,rfl,rfl,by simp[World.setCell],fun k _ hk=>Below.heap_setCell _ _ _ _ (by show k≠g;exact hk)⟩
theorem ButO.drew{g:Nat}{a w:World}(h:ButO g a w):ButO g a w.drew:=h.trans ⟨rfl,rfl,rfl,nlr _,fun _ _ _=>rfl⟩
def winP (w:World) (g:Nat) (v:Value) (ps:List Pt):Prop :=
 ∃ p c,v=.slice p ps.length c/\ps.length<=c/\c<=maxLen/\(ps≠[]->∃o,p=some ⟨g,o,none⟩/\g<w.heap.size/\(∀j,w.frozen? ⟨g,j,none⟩=false)/\∀i q,ps[i]?=some q ->
  w.cell? ⟨g,o+i*3,none⟩=some (.int .i64 q.keep)/\w.cell? ⟨g,o+i*3+1,none⟩=some (.int .i64 q.drop)/\w.cell? ⟨g,o+i*3+2,none⟩=some (.string ⟨q.put.toArray⟩))
theorem Jbd(h:winP w g v ps)(hs:w.heap.size<=w'.heap.size)(hb:g<w.heap.size->w'.heap[g]?=w.heap[g]?):winP w' g v ps:=by
 obtain⟨p,c,rfl,h1,h2,h3⟩:=h;refine⟨p,c,rfl,h1,h2,fun hne=>?_⟩;obtain⟨o,e1,e2,e4,e3⟩:=h3 hne;have hg:=hb e2;refine⟨o,e1,by omega,fun j=>(World.frozen?_of_block (w:=w) (a:=⟨g,j,none⟩) hg).trans (e4 j),fun i q hi=>?_⟩;obtain⟨f1,f2,f3⟩:=e3 i q hi;exact⟨(World.cell?_of_block (w:=w) (a:=⟨g,o+i*3,none⟩) hg).trans f1,(World.cell?_of_block (w:=w) (a:=⟨g,o+i*3+1,none⟩) hg).trans f2,(World.cell?_of_block (w:=w) (a:=⟨g,o+i*3+2,none⟩) hg).trans f3⟩
theorem JfS(h:winP w g v ps)(hb:Below w.heap.size w w'):winP w' g v ps:=Jbd h hb.size fun hg=>hb.block g hg
theorem JgK{k:Nat}(h:winP w g v ps)(hb:ButO k w w')(hne:g≠k):winP w' g v ps:=Jbd h hb.size fun hg=>hb.block g hg hne
theorem Jmw(h:w.ownsRow B 50 3 v ps.length (Jag ps)):∃g,(g=B\/(B<=g/\g<w.heap.size))/\winP w g v ps:=by
 have h':=h
 rcases h.2 with ⟨rfl,h2⟩|⟨g,cap,cur,rfl,h2,h3,h4,h5,h6,h7⟩
 . obtain rfl:ps=[]:=List.eq_nil_of_length_eq_zero h2
   exact⟨B,.inl rfl,none,0,rfl,nlr _,Nat.zero_le _,fun h=>absurd rfl h⟩
 . have hlt:=(alt h3)
   refine⟨g,.inr ⟨h2,hlt⟩,_,cap,rfl,h4,h5,fun _=>⟨0,rfl,hlt,fun j=>h'.frozenAt j,fun i q hi=>?_⟩⟩;have hlt:=(llt hi);have hc:=JeX ps i q hi;refine⟨?_,?_,?_⟩
   . rw[Nat.zero_add,h'.cellAt _ (by omega)];exact hc 0 (by omega)
   . rw[Nat.zero_add,h'.cellAt _ (by omega)];exact hc 1 (by omega)
   . rw[Nat.zero_add,h'.cellAt _ (by omega)];exact hc 2 (by omega)
theorem JaT(h:winP w g v (p :: ps)):∃o c,v=.slice (some ⟨g,o,none⟩) (ps.length+1) c/\ps.length+1<=c/\c<=maxLen/\g<w.heap.size/\(∀j,w.frozen? ⟨g,j,none⟩=false) /\
    w.cell? ⟨g,o,none⟩=some (.int .i64 p.keep)/\w.cell? ⟨g,o+1,none⟩=some (.int .i64 p.drop)/\w.cell? ⟨g,o+2,none⟩=some (.string ⟨p.put.toArray⟩):=by
 obtain⟨q,c,rfl,h1,h2,h3⟩:=h;obtain⟨o,rfl,e2,e4,e3⟩:=h3 (by simp);obtain⟨f1,f2,f3⟩:=e3 0 p rfl;simp only[Nat.zero_mul,Nat.add_zero]at f1 f2 f3;exact⟨o,c,rfl,h1,h2,e2,e4,f1,f2,f3⟩
theorem Jon(h:winP w g (.slice (some ⟨g,o,none⟩) (ps.length+1) c) (p :: ps))(hs:w.heap.size<=w'.heap.size)(hf:∀j,w'.frozen? ⟨g,j,none⟩=w.frozen? ⟨g,j,none⟩)(hc:∀j,o+3<=j->w'.cell? ⟨g,j,none⟩=w.cell? ⟨g,j,none⟩) :
    winP w' g (.slice (some ⟨g,o+3,none⟩) ps.length (c - 1)) ps:=by
 obtain⟨q,c',e,h1,h2,h3⟩:=h;obtain⟨o',rfl,e2,e4,e3⟩:=h3 (by simp);simp only[Value.slice.injEq,Option.some.injEq,Addr.mk.injEq,true_and,and_true]at e;obtain⟨e5,_,e6⟩:=e;subst e5 e6;simp only[List.length_cons]at h1;refine⟨_,c - 1,rfl,by omega,by omega,fun hne=>⟨o+3,rfl,by omega,fun j=>(hf j).trans (e4 j),fun i q hi=>?_⟩⟩;obtain⟨f1,f2,f3⟩:=e3 (i+1) q (by simpa using hi);rw[show o+(i+1)*3=o+3+i*3 by omega]at f1 f2 f3;exact⟨(hc _ (by omega)).trans f1,(hc _ (by omega)).trans f2,(hc _ (by omega)).trans f3⟩
theorem JfR{p':Pt}(h:winP w g (.slice (some ⟨g,o,none⟩) (ps.length+1) c) (p :: ps))(hs:w.heap.size<=w'.heap.size)(hf:∀j,w'.frozen? ⟨g,j,none⟩=w.frozen? ⟨g,j,none⟩)(hc:∀j,o+3<=j->w'.cell? ⟨g,j,none⟩=w.cell? ⟨g,j,none⟩)
    (c0:w'.cell? ⟨g,o,none⟩=some (.int .i64 p'.keep)) (c1:w'.cell? ⟨g,o+1,none⟩=some (.int .i64 p'.drop)) (c2:w'.cell? ⟨g,o+2,none⟩=some (.string ⟨p'.put.toArray⟩)) :
    winP w' g (.slice (some ⟨g,o,none⟩) (ps.length+1) c) (p' :: ps):=by
 obtain⟨q,c',e,h1,h2,h3⟩:=h;obtain⟨o',rfl,e2,e4,e3⟩:=h3 (by simp);simp only[Value.slice.injEq,Option.some.injEq,Addr.mk.injEq,true_and,and_true]at e;obtain⟨e5,_,e6⟩:=e;subst e5 e6;refine⟨_,c,rfl,h1,h2,fun _=>⟨o,rfl,by omega,fun j=>(hf j).trans (e4 j),fun i q hi=>?_⟩⟩
 cases i with
 | zero =>
  obtain rfl:p'=q:=by simpa using hi
  simp only[Nat.zero_mul,Nat.add_zero];exact⟨c0,c1,c2⟩
 | succ i =>
  obtain⟨f1,f2,f3⟩:=e3 (i+1) q (by simpa using hi);exact⟨(hc _ (by omega)).trans f1,(hc _ (by omega)).trans f2,(hc _ (by omega)).trans f3⟩
theorem frozen_of_heap{w:World}{b:Nat}{xs:Array Value}{t:TypeId}(h:w.heap[b]?=some (.cells xs t (0,0)))(j:Nat):w.frozen? ⟨b,j,none⟩=false:=by
 simp[World.frozen?,h]
theorem JaL{w w1:World}{R P:Array Value}{T S:TypeId}(hb:Below ((w.alloc (.cells R T)).alloc (.cells P S)).heap.size ((w.alloc (.cells R T)).alloc (.cells P S)) w1) :
    w1.heap[w.heap.size]?=some (.cells R T (0,0))/\w1.heap[w.heap.size+1]?=some (.cells P S (0,0))/\Below w.heap.size w w1:=by
 refine⟨(hb.block _ (by simp only[World.size_alloc];omega)).trans ((heap_alloc_old _ _ (by rw[wsa];omega)).trans (heap_alloc_new _ _)),(hb.block _ (by simp only[World.size_alloc];omega)).trans (by have:=heap_alloc_new (w.alloc (.cells R T)) (.cells P S);rwa[World.size_alloc]at this),?_⟩;exact(((brf _ w).alloc (nlr _) _).alloc (by rw[wsa];omega) _).trans (hb.mono (by simp only[World.size_alloc];omega))
theorem JgV(h:winP w g (.slice (some ⟨g,o,none⟩) (ps.length+1) c) (p :: ps))(hb:Below w.heap.size w w') :
    winP w' g (.slice (some ⟨g,o+3,none⟩) ps.length (c - 1)) ps/\(c=1->winP w' g (.slice (some ⟨g,o,none⟩) ps.length 0) ps):=by
 have hg:g<w.heap.size:=by obtain⟨_,_,_,_,_,hg,_⟩:=JaT h;exact hg
 refine⟨Jon h hb.size (fun j=>hb.frozen (p:=⟨g,j,none⟩) hg) fun j _=>hb.cell (p:=⟨g,j,none⟩) hg,fun hc=>?_⟩;obtain⟨_,_,e,h1,_⟩:=h;simp only[Value.slice.injEq,List.length_cons]at e h1;obtain rfl:ps=[]:=List.eq_nil_of_length_eq_zero (by omega);exact⟨_,0,rfl,nlr _,Nat.zero_le _,fun h=>absurd rfl h⟩
theorem cut_all(g:Nat)(v:Value)(p:Pt)(ps:List Pt)(n:Nat)(w:World)(h:winP w g v (p :: ps))(hp:0<=p.keep/\0<=p.drop)(hn:Jac p=n)(hb:n<1000000000) :
    Calls Tryz.prog 268 #[v,.int .i64 n] w fun e w'=>∃v',e=.returned (.tuple #[Jay p,v'])/\winP w' g v' ps/\ButO g w w':=by
 have H:Hid (winP w g v (p :: ps)):=h;obtain⟨o,c,rfl,h1,h2,h3,h4,c0,c1,c2⟩:=JaT h;have cL:Hid (∀wx,Calls Tryz.prog 267 #[Jay p] wx fun e w'=>e=.returned (.int .i64 n)/\Below wx.heap.size wx w'):=fun wx=>by
  have:=JbW p wx hp (by unfold Jac at hn;omega);rw[show p.keep+p.drop+(p.put.length:Int)=n from hn]at this;exact this
 obtain⟨K,D,U⟩:=p;simp only at c0 c1 c2;have c0':w.cell? ⟨g,o+0,none⟩=some (.int .i64 K):=c0;have h4':=h4 o;have hi1:(1:Int)<=(ps.length:Int)+1:=by omega
 unfold Jay at cL;clear h hn hp h4
 go_enter Tryz.func268,Tryz.ntmps268
 go_wp2_with (first
  | (go_at_call 267;refine(cL.out _).mono ?_;rintro e w1 ⟨rfl,hb1⟩;obtain⟨b1,b2,b3⟩:=JaL hb1;have HB:=hdz b3;have r0:w1.cell? ⟨w.heap.size,0,none⟩=some (.int .i64 0):=chp b1 0;have r1:w1.cell? ⟨w.heap.size,1,none⟩=some (.int .i64 0):=chp b1 1;have r2:w1.cell? ⟨w.heap.size,2,none⟩=some (.string ⟨#[]⟩):=chp b1 2;have p0:w1.cell? ⟨w.heap.size+1,0,none⟩=some (.int .i64 K):=chp b2 0;have p1:w1.cell? ⟨w.heap.size+1,1,none⟩=some (.int .i64 D):=chp b2 1;have p2:w1.cell? ⟨w.heap.size+1,2,none⟩=some (.string ⟨U.toArray⟩):=chp b2 2;have rF:w1.frozen? ⟨w.heap.size,0,none⟩=false:=frozen_of_heap b1 0;have rF1:w1.frozen? ⟨w.heap.size,1,none⟩=false:=frozen_of_heap b1 1;have rF2:w1.frozen? ⟨w.heap.size,2,none⟩=false:=frozen_of_heap b1 2;clear b1 b2 b3 hb1)
  | fail)
 have s0:(w1.setCell ⟨w.heap.size,0,none⟩ (.int .i64 K)).cell? ⟨w.heap.size,0,none⟩=some (.int .i64 K):=World.cell?_setCell_same _ _ _ r0;have s1:((w1.setCell ⟨w.heap.size,0,none⟩ (.int .i64 K)).setCell ⟨w.heap.size,1,none⟩ (.int .i64 D)).cell? ⟨w.heap.size,1,none⟩=some (.int .i64 D):=by
  have:(w1.setCell ⟨w.heap.size,0,none⟩ (.int .i64 K)).cell? ⟨w.heap.size,1,none⟩=some (.int .i64 0):=by simp[go_sem,r1]
  exact World.cell?_setCell_same _ _ _ this
 have s2:(((w1.setCell ⟨w.heap.size,0,none⟩ (.int .i64 K)).setCell ⟨w.heap.size,1,none⟩ (.int .i64 D)).setCell ⟨w.heap.size,2,none⟩ (.string ⟨U.toArray⟩)).cell? ⟨w.heap.size,2,none⟩=some (.string ⟨U.toArray⟩):=by
  have:((w1.setCell ⟨w.heap.size,0,none⟩ (.int .i64 K)).setCell ⟨w.heap.size,1,none⟩ (.int .i64 D)).cell? ⟨w.heap.size,2,none⟩=some (.string ⟨#[]⟩):=by simp[go_sem,r2]
  exact World.cell?_setCell_same _ _ _ this
 go_region
 all_goals go_wp2
 . have hc1:c=1:=by assumption
   subst hc1;refine bodyPost_ret (v:=.tuple #[.agg #[.int .i64 K,.int .i64 D,.string ⟨U.toArray⟩],.slice (some ⟨g,o,none⟩) ps.length 0]) (by simp[results,Tryz.results268,go_sem,s0,s1,s2]) rfl ?_
   have hbw:=((((HB.out.setCell (p:=⟨w.heap.size,0,none⟩) (nlr _) (.int .i64 K)).setCell (p:=⟨w.heap.size,1,none⟩) (nlr _) (.int .i64 D)).setCell (p:=⟨w.heap.size,2,none⟩) (nlr _) (.string ⟨U.toArray⟩)).drew);exact⟨_,rfl,(JgV H.out hbw).2 rfl,.of hbw⟩
 . refine bodyPost_ret (v:=.tuple #[.agg #[.int .i64 K,.int .i64 D,.string ⟨U.toArray⟩],.slice (some ⟨g,o+3,none⟩) ps.length (c - 1)]) (by simp[results,Tryz.results268,go_sem,s0,s1,s2]) rfl ?_
   have hbw:=((((HB.out.setCell (p:=⟨w.heap.size,0,none⟩) (nlr _) (.int .i64 K)).setCell (p:=⟨w.heap.size,1,none⟩) (nlr _) (.int .i64 D)).setCell (p:=⟨w.heap.size,2,none⟩) (nlr _) (.string ⟨U.toArray⟩)).drew);exact⟨_,rfl,(JgV H.out hbw).1,.of hbw⟩
end
end Go.Proofs.YtedgnlgjmnccgabGreatDoor
