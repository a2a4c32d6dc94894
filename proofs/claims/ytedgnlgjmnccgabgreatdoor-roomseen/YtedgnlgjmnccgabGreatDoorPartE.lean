/-
  A part of the texts that the proof uses.
-/
import Derived.Test.YtedgnlgjmnccgabGreatDoorPartD
import Derived.Deep.LoopGhost
import Derived.Test.YtedgnlgjmnccgabGreatDoorPartC
import Derived.Test.YtedgnlgjmnccgabGreatDoorPartA
import Derived.Laws.AppendOwnNone
import Derived.Lib.ConvBytes
import Derived.Test.YtedgnlgjmnccgabGreatDoorPartB
set_option maxRecDepth 100000
set_option maxHeartbeats 40000000
set_option linter.unusedVariables false
namespace Go.Proofs.YtedgnlgjmnccgabGreatDoor
section
open Go.RowKit
attribute [local go_sem] Oper.semAt_some
theorem JoH(M a g1 g2 β:Nat)(bx:List (Nat×Obj))(v1 v2:Value)(A0 B0:List Pt)(l0:List (Pt×Pt))(s0:NSt)(w:World){T0:Int}{n0:Nat}(hI0:sideI M a g1 g2 bx w v1 v2 A0 B0 s0 w)(hS0:Side JaE Jaa A0 B0 l0)(hB0:BdS JbI l0 s0 T0 n0)(ho0:JdD a g1 g2 bx)(h1:a+4<=g1)(h2:g1<M)(h3:a+4<=g2)(h4:g2<M)(hne0:g1≠g2)
    (cT0:∀(s:NSt) (x:Pt×Pt) (T:Int) (n:Nat) (W:World),gath M W a s->Jdb bx W->Bd s T n->(∀p∈JbI x,JbA p)->T+wts (JbI x)<1000000000->n<10000000->Calls Tryz.prog 226 #[Jay x.1,Jay x.2,.pointer (some ⟨β,0,none⟩)] W (Jcw M a s (JbI x) W)) :
    Calls Tryz.prog 223 #[v1,v2,.func (.func 211) #[] #[],.func (.func 225) #[] #[],.func (.func 226) #[] #[.pointer (some ⟨β,0,none⟩)]] w fun e w'=>(∃v,e=.returned v)/\gath M w' a (runS JbI l0 s0)/\Jdb bx w'/\Below a w w':=by
 obtain⟨S,hS⟩:∃S,runS JbI l0 s0=S:=⟨_,rfl⟩;rw[hS];obtain⟨t,ht⟩:∃t:Pt×Pt->List Pt,t=JbI:=⟨_,rfl⟩;rw[←ht]at hB0 hS cT0;have cT:Hid (∀(s:NSt) (x:Pt×Pt) (T:Int) (n:Nat) (l:List (Pt×Pt)) (W:World),gath M W a s->Jdb bx W->BdS t (x :: l) s T n->Calls Tryz.prog 226 #[Jay x.1,Jay x.2,.pointer (some ⟨β,0,none⟩)] W (Jcw M a s (t x) W)):=fun s x T n l W hg hb hB=>cT0 s x T n W hg hb hB.bd hB.head.1 hB.head.2.1 hB.head.2.2
 have hst:JhV JaE Jaa t M a g1 g2 bx w S l0.length v1 v2 w:=⟨A0,B0,l0,s0,T0,n0,rfl,hS0,hI0,hB0,hS⟩;have HST:Hid (JhV JaE Jaa t M a g1 g2 bx w S l0.length v1 v2 w):=hst;have HO:Hid (JdD a g1 g2 bx):=ho0;have HNE:Hid (g1≠g2):=hne0;clear ht cT0 hI0 hS0 hB0 ho0 hS hst hne0
 go_enter Tryz.func223,Tryz.ntmps223
 go_wp2
 go_loopg [0,1] l0.length (fun k u1 u2 wr=>JhV JaE Jaa t M a g1 g2 bx w S k u1 u2 wr)
 case atStart=>exact HST.out
 case round =>
  obtain⟨A,B,l,s,T,n,hk,hSd,hI,hB,hR⟩:=hrel;have hwz:=hI.below.size;have HK:Hid (l.length=gk):=hk;have HI:=hdz hI;have HB:=hdz hB;have HR:=hdz hR;clear HST;clear hk hB hR
  cases hSd with
  | nil =>
   obtain⟨p1,c1,rfl,_,_,_⟩:=hI.r1;obtain⟨p2,c2,rfl,_,_,_⟩:=hI.r2;clear hI;go_wp2;go_end0;have hx:=HI.out;exact⟨⟨_,rfl⟩,by rw[←HR.out];exact hx.g,hx.b,hx.below⟩
  | left =>
   rename_i p A l hl hS'
   obtain⟨o,c,rfl,e1,e2,eg,e3,k0,k1,k2⟩:=JaT hI.r1;obtain⟨p2,c2,rfl,_,_,_⟩:=hI.r2;have cL:Hid (∀wx,Calls Tryz.prog 211 #[Jay p] wx fun e w'=>e=.returned (.bool true)/\Below wx.heap.size wx w'):=fun wx=>by
    have:=JcA p wx;rw[show decide (0<p.drop)=true from hl]at this;exact this
   have CT:Hid (∀W',Below wr.heap.size wr W'->Calls Tryz.prog 226 #[Jay (p,noP).1,Jay (p,noP).2,.pointer (some ⟨β,0,none⟩)] W' (Jcw M a s (t (p,noP)) W')):=fun W' hb=>cT.out s (p,noP) T n l W' (HI.out.grow hb).g (HI.out.grow hb).b HB.out
   have HS:Hid (Side JaE Jaa _ _ l):=hS';have HT:Hid (∀W',Below wr.heap.size wr W'->_/\_):=fun W' hb=>sideI.tail1 HI.out hb
   obtain⟨K,D,U⟩:=p;simp only at k0 k1 k2;have HKC:Hid (wr.cell? ⟨g1,o,none⟩=some (.int .i64 K)/\wr.cell? ⟨g1,o+1,none⟩=some (.int .i64 D)/\wr.cell? ⟨g1,o+2,none⟩=some (.string ⟨U.toArray⟩)):=⟨k0,k1,k2⟩;have HEG:Hid (g1<wr.heap.size):=eg;have hi0:(0:Int)<(A.length:Int)+1:=by omega
   have hi1:(1:Int)<=(A.length:Int)+1:=by omega
   unfold noP at CT;unfold Jay at cL CT;clear hI hS' hl
   go_wp2_with (first
    | (go_at_call 211;refine(cL.out _).mono ?_;rintro e w1 ⟨rfl,hb1⟩;obtain⟨b1,b2,b3⟩:=JaL hb1;have HR1:Hid (w1.heap[wr.heap.size]?=some (.cells #[.int .i64 0,.int .i64 0,.string ⟨#[]⟩] 50 (0,0))):=b1;have HP1:Hid (w1.heap[wr.heap.size+1]?=some (.cells #[.int .i64 0,.int .i64 0,.string ⟨#[]⟩] 50 (0,0))):=b2;have HB1:=hdz b3;clear b1 b2 b3 hb1;have r0:w1.cell? ⟨wr.heap.size,0,none⟩=some (.int .i64 0):=chp HR1.out 0;have r1:w1.cell? ⟨wr.heap.size,1,none⟩=some (.int .i64 0):=chp HR1.out 1;have r2:w1.cell? ⟨wr.heap.size,2,none⟩=some (.string ⟨#[]⟩):=chp HR1.out 2;have rF0:w1.frozen? ⟨wr.heap.size,0,none⟩=false:=frozen_of_heap HR1.out 0;have rF1:w1.frozen? ⟨wr.heap.size,1,none⟩=false:=frozen_of_heap HR1.out 1;have rF2:w1.frozen? ⟨wr.heap.size,2,none⟩=false:=frozen_of_heap HR1.out 2;have q0:w1.cell? ⟨wr.heap.size+1,0,none⟩=some (.int .i64 0):=chp HP1.out 0;have q1:w1.cell? ⟨wr.heap.size+1,1,none⟩=some (.int .i64 0):=chp HP1.out 1;have q2:w1.cell? ⟨wr.heap.size+1,2,none⟩=some (.string ⟨#[]⟩):=chp HP1.out 2;have qF0:w1.frozen? ⟨wr.heap.size+1,0,none⟩=false:=frozen_of_heap HP1.out 0;have qF1:w1.frozen? ⟨wr.heap.size+1,1,none⟩=false:=frozen_of_heap HP1.out 1;have qF2:w1.frozen? ⟨wr.heap.size+1,2,none⟩=false:=frozen_of_heap HP1.out 2;have x0:w1.cell? ⟨g1,o,none⟩=some (.int .i64 K):=(HB1.out.cell HEG.out).trans HKC.out.1;have x1:w1.cell? ⟨g1,o+1,none⟩=some (.int .i64 D):=(HB1.out.cell HEG.out).trans HKC.out.2.1;have x2:w1.cell? ⟨g1,o+2,none⟩=some (.string ⟨U.toArray⟩):=(HB1.out.cell HEG.out).trans HKC.out.2.2)
    | fail)
   obtain⟨s0,s1,s2,hsz,hoth⟩:=JbR r0 r1 r2 (.int .i64 K) (.int .i64 D) (.string ⟨U.toArray⟩)
   go_region
   all_goals (go_wp2_with (first
    | (go_at_call 226;have HBW:Hid (Below wr.heap.size wr _):=((((HB1.out.setCell (p:=⟨wr.heap.size,0,none⟩) (nlr _) (.int .i64 K)).setCell (p:=⟨wr.heap.size,1,none⟩) (nlr _) (.int .i64 D)).setCell (p:=⟨wr.heap.size,2,none⟩) (nlr _) (.string ⟨U.toArray⟩)).drew);refine(CT.out _ HBW.out).mono ?_;rintro e w5 ⟨⟨v5,rfl⟩,hg5,hb5⟩)
    | fail))
   . have hc1:c=1:=by assumption
     subst hc1
     go_roundg l.length
     case measure=>have:=HK.out;simp only[List.length_cons]at this;omega
     case rel=>exact JaN HS.out ((HT.out _ HBW.out).2 rfl) HB.out HR.out hg5 hb5 HO.out h1 h2 h3 h4
   . go_roundg l.length
     case measure=>have:=HK.out;simp only[List.length_cons]at this;omega
     case rel=>exact JaN HS.out (HT.out _ HBW.out).1 HB.out HR.out hg5 hb5 HO.out h1 h2 h3 h4
  | last =>
   rename_i p B l hl hS'
   obtain⟨p2,c2,rfl,_,_,_⟩:=hI.r1;obtain⟨o,c,rfl,e1,e2,eg,e3,k0,k1,k2⟩:=JaT hI.r2;have cL:Hid (∀wx,Calls Tryz.prog 225 #[Jay p] wx fun e w'=>e=.returned (.bool true)/\Below wx.heap.size wx w'):=fun wx=>by
    have:=Jbu p wx;rw[show decide (p.put≠[])=true from hl]at this;exact this
   have CT:Hid (∀W',Below wr.heap.size wr W'->Calls Tryz.prog 226 #[Jay (noP,p).1,Jay (noP,p).2,.pointer (some ⟨β,0,none⟩)] W' (Jcw M a s (t (noP,p)) W')):=fun W' hb=>cT.out s (noP,p) T n l W' (HI.out.grow hb).g (HI.out.grow hb).b HB.out
   have HS:Hid (Side JaE Jaa _ _ l):=hS';have HT:Hid (∀W',Below wr.heap.size wr W'->_/\_):=fun W' hb=>sideI.tail2 HI.out hb
   obtain⟨K,D,U⟩:=p;simp only at k0 k1 k2;have HKC:Hid (wr.cell? ⟨g2,o,none⟩=some (.int .i64 K)/\wr.cell? ⟨g2,o+1,none⟩=some (.int .i64 D)/\wr.cell? ⟨g2,o+2,none⟩=some (.string ⟨U.toArray⟩)):=⟨k0,k1,k2⟩;have HEG:Hid (g2<wr.heap.size):=eg;have hi0:(0:Int)<(B.length:Int)+1:=by omega
   have hi1:(1:Int)<=(B.length:Int)+1:=by omega
   unfold noP at CT;unfold Jay at cL CT;clear hI hS' hl
   go_wp2_with (first
    | (go_at_call 225;refine(cL.out _).mono ?_;rintro e w1 ⟨rfl,hb1⟩;obtain⟨b1,b2,b3⟩:=JaL hb1;have HR1:Hid (w1.heap[wr.heap.size]?=some (.cells #[.int .i64 0,.int .i64 0,.string ⟨#[]⟩] 50 (0,0))):=b1;have HP1:Hid (w1.heap[wr.heap.size+1]?=some (.cells #[.int .i64 0,.int .i64 0,.string ⟨#[]⟩] 50 (0,0))):=b2;have HB1:=hdz b3;clear b1 b2 b3 hb1;have r0:w1.cell? ⟨wr.heap.size,0,none⟩=some (.int .i64 0):=chp HR1.out 0;have r1:w1.cell? ⟨wr.heap.size,1,none⟩=some (.int .i64 0):=chp HR1.out 1;have r2:w1.cell? ⟨wr.heap.size,2,none⟩=some (.string ⟨#[]⟩):=chp HR1.out 2;have rF0:w1.frozen? ⟨wr.heap.size,0,none⟩=false:=frozen_of_heap HR1.out 0;have rF1:w1.frozen? ⟨wr.heap.size,1,none⟩=false:=frozen_of_heap HR1.out 1;have rF2:w1.frozen? ⟨wr.heap.size,2,none⟩=false:=frozen_of_heap HR1.out 2;have q0:w1.cell? ⟨wr.heap.size+1,0,none⟩=some (.int .i64 0):=chp HP1.out 0;have q1:w1.cell? ⟨wr.heap.size+1,1,none⟩=some (.int .i64 0):=chp HP1.out 1;have q2:w1.cell? ⟨wr.heap.size+1,2,none⟩=some (.string ⟨#[]⟩):=chp HP1.out 2;have qF0:w1.frozen? ⟨wr.heap.size+1,0,none⟩=false:=frozen_of_heap HP1.out 0;have qF1:w1.frozen? ⟨wr.heap.size+1,1,none⟩=false:=frozen_of_heap HP1.out 1;have qF2:w1.frozen? ⟨wr.heap.size+1,2,none⟩=false:=frozen_of_heap HP1.out 2;have x0:w1.cell? ⟨g2,o,none⟩=some (.int .i64 K):=(HB1.out.cell HEG.out).trans HKC.out.1;have x1:w1.cell? ⟨g2,o+1,none⟩=some (.int .i64 D):=(HB1.out.cell HEG.out).trans HKC.out.2.1;have x2:w1.cell? ⟨g2,o+2,none⟩=some (.string ⟨U.toArray⟩):=(HB1.out.cell HEG.out).trans HKC.out.2.2)
    | fail)
   obtain⟨s0,s1,s2,hsz,hoth⟩:=JbR q0 q1 q2 (.int .i64 K) (.int .i64 D) (.string ⟨U.toArray⟩)
   go_region
   all_goals (go_wp2_with (first
    | (go_at_call 226;have HBW:Hid (Below wr.heap.size wr _):=((((HB1.out.setCell (p:=⟨wr.heap.size+1,0,none⟩) (Nat.le_succ _) (.int .i64 K)).setCell (p:=⟨wr.heap.size+1,1,none⟩) (Nat.le_succ _) (.int .i64 D)).setCell (p:=⟨wr.heap.size+1,2,none⟩) (Nat.le_succ _) (.string ⟨U.toArray⟩)).drew);refine(CT.out _ HBW.out).mono ?_;rintro e w5 ⟨⟨v5,rfl⟩,hg5,hb5⟩)
    | fail))
   . have hc1:c=1:=by assumption
     subst hc1
     go_roundg l.length
     case measure=>have:=HK.out;simp only[List.length_cons]at this;omega
     case rel=>exact JaN HS.out ((HT.out _ HBW.out).2 rfl) HB.out HR.out hg5 hb5 HO.out h1 h2 h3 h4
   . go_roundg l.length
     case measure=>have:=HK.out;simp only[List.length_cons]at this;omega
     case rel=>exact JaN HS.out (HT.out _ HBW.out).1 HB.out HR.out hg5 hb5 HO.out h1 h2 h3 h4
  | right =>
   rename_i pa p A B l hla hl hS'
   obtain⟨oa,ca,rfl,ea1,ea2,eag,ea3,ka0,ka1,ka2⟩:=JaT hI.r1;obtain⟨o,c,rfl,e1,e2,eg,e3,k0,k1,k2⟩:=JaT hI.r2;have cLA:Hid (∀wx,Calls Tryz.prog 211 #[Jay pa] wx fun e w'=>e=.returned (.bool false)/\Below wx.heap.size wx w'):=fun wx=>by
    have:=JcA pa wx;rw[show decide (0<pa.drop)=false from hla]at this;exact this
   have cL:Hid (∀wx,Calls Tryz.prog 225 #[Jay p] wx fun e w'=>e=.returned (.bool true)/\Below wx.heap.size wx w'):=fun wx=>by
    have:=Jbu p wx;rw[show decide (p.put≠[])=true from hl]at this;exact this
   have CT:Hid (∀W',Below wr.heap.size wr W'->Calls Tryz.prog 226 #[Jay (noP,p).1,Jay (noP,p).2,.pointer (some ⟨β,0,none⟩)] W' (Jcw M a s (t (noP,p)) W')):=fun W' hb=>cT.out s (noP,p) T n l W' (HI.out.grow hb).g (HI.out.grow hb).b HB.out
   have HS:Hid (Side JaE Jaa _ _ l):=hS';have HT:Hid (∀W',Below wr.heap.size wr W'->_/\_):=fun W' hb=>sideI.tail2 HI.out hb
   obtain⟨KA,DA,UA⟩:=pa;simp only at ka0 ka1 ka2;have HKA:Hid (wr.cell? ⟨g1,oa,none⟩=some (.int .i64 KA)/\wr.cell? ⟨g1,oa+1,none⟩=some (.int .i64 DA)/\wr.cell? ⟨g1,oa+2,none⟩=some (.string ⟨UA.toArray⟩)):=⟨ka0,ka1,ka2⟩;have hia:(0:Int)<(A.length:Int)+1:=by omega
   unfold Jay at cLA;obtain⟨K,D,U⟩:=p;simp only at k0 k1 k2;have HKC:Hid (wr.cell? ⟨g2,o,none⟩=some (.int .i64 K)/\wr.cell? ⟨g2,o+1,none⟩=some (.int .i64 D)/\wr.cell? ⟨g2,o+2,none⟩=some (.string ⟨U.toArray⟩)):=⟨k0,k1,k2⟩;have HEG:Hid (g2<wr.heap.size):=eg;have hi0:(0:Int)<(B.length:Int)+1:=by omega
   have hi1:(1:Int)<=(B.length:Int)+1:=by omega
   unfold noP at CT;unfold Jay at cL CT;clear hI hS' hl hla
   go_wp2_with (first
    | (have _:=HB1;go_at_call 225;refine(cL.out _).mono ?_;rintro e w2 ⟨rfl,hb2⟩;have HR2:Hid (w2.heap[wr.heap.size]?=some (.cells #[.int .i64 0,.int .i64 0,.string ⟨#[]⟩] 50 (0,0))):=(hb2.block _ (Jah HR1.out)).trans HR1.out;have HP2:Hid (w2.heap[wr.heap.size+1]?=some (.cells #[.int .i64 0,.int .i64 0,.string ⟨#[]⟩] 50 (0,0))):=(hb2.block _ (Jah HP1.out)).trans HP1.out;have HB2:=hdz (HB1.out.trans (hb2.mono HB1.out.size));clear hb2;have r0:w2.cell? ⟨wr.heap.size,0,none⟩=some (.int .i64 0):=chp HR2.out 0;have r1:w2.cell? ⟨wr.heap.size,1,none⟩=some (.int .i64 0):=chp HR2.out 1;have r2:w2.cell? ⟨wr.heap.size,2,none⟩=some (.string ⟨#[]⟩):=chp HR2.out 2;have rF0:w2.frozen? ⟨wr.heap.size,0,none⟩=false:=frozen_of_heap HR2.out 0;have rF1:w2.frozen? ⟨wr.heap.size,1,none⟩=false:=frozen_of_heap HR2.out 1;have rF2:w2.frozen? ⟨wr.heap.size,2,none⟩=false:=frozen_of_heap HR2.out 2;have q0:w2.cell? ⟨wr.heap.size+1,0,none⟩=some (.int .i64 0):=chp HP2.out 0;have q1:w2.cell? ⟨wr.heap.size+1,1,none⟩=some (.int .i64 0):=chp HP2.out 1;have q2:w2.cell? ⟨wr.heap.size+1,2,none⟩=some (.string ⟨#[]⟩):=chp HP2.out 2;have qF0:w2.frozen? ⟨wr.heap.size+1,0,none⟩=false:=frozen_of_heap HP2.out 0;have qF1:w2.frozen? ⟨wr.heap.size+1,1,none⟩=false:=frozen_of_heap HP2.out 1;have qF2:w2.frozen? ⟨wr.heap.size+1,2,none⟩=false:=frozen_of_heap HP2.out 2;have x0:w2.cell? ⟨g2,o,none⟩=some (.int .i64 K):=(HB2.out.cell HEG.out).trans HKC.out.1;have x1:w2.cell? ⟨g2,o+1,none⟩=some (.int .i64 D):=(HB2.out.cell HEG.out).trans HKC.out.2.1;have x2:w2.cell? ⟨g2,o+2,none⟩=some (.string ⟨U.toArray⟩):=(HB2.out.cell HEG.out).trans HKC.out.2.2)
    | (go_at_call 211;refine(cLA.out _).mono ?_;rintro e w1 ⟨rfl,hb1⟩;obtain⟨b1,b2,b3⟩:=JaL hb1;have HR1:Hid (w1.heap[wr.heap.size]?=some (.cells #[.int .i64 0,.int .i64 0,.string ⟨#[]⟩] 50 (0,0))):=b1;have HP1:Hid (w1.heap[wr.heap.size+1]?=some (.cells #[.int .i64 0,.int .i64 0,.string ⟨#[]⟩] 50 (0,0))):=b2;have HB1:=hdz b3;clear b1 b2 b3 hb1;have x0:w1.cell? ⟨g2,o,none⟩=some (.int .i64 K):=(HB1.out.cell HEG.out).trans HKC.out.1;have x1:w1.cell? ⟨g2,o+1,none⟩=some (.int .i64 D):=(HB1.out.cell HEG.out).trans HKC.out.2.1;have x2:w1.cell? ⟨g2,o+2,none⟩=some (.string ⟨U.toArray⟩):=(HB1.out.cell HEG.out).trans HKC.out.2.2)
    | fail)
   obtain⟨s0,s1,s2,hsz,hoth⟩:=JbR q0 q1 q2 (.int .i64 K) (.int .i64 D) (.string ⟨U.toArray⟩)
   go_region
   all_goals (go_wp2_with (first
    | (go_at_call 226;have HBW:Hid (Below wr.heap.size wr _):=((((HB2.out.setCell (p:=⟨wr.heap.size+1,0,none⟩) (Nat.le_succ _) (.int .i64 K)).setCell (p:=⟨wr.heap.size+1,1,none⟩) (Nat.le_succ _) (.int .i64 D)).setCell (p:=⟨wr.heap.size+1,2,none⟩) (Nat.le_succ _) (.string ⟨U.toArray⟩)).drew);refine(CT.out _ HBW.out).mono ?_;rintro e w5 ⟨⟨v5,rfl⟩,hg5,hb5⟩)
    | fail))
   . have hc1:c=1:=by assumption
     subst hc1
     go_roundg l.length
     case measure=>have:=HK.out;simp only[List.length_cons]at this;omega
     case rel=>exact JaN HS.out ((HT.out _ HBW.out).2 rfl) HB.out HR.out hg5 hb5 HO.out h1 h2 h3 h4
   . go_roundg l.length
     case measure=>have:=HK.out;simp only[List.length_cons]at this;omega
     case rel=>exact JaN HS.out (HT.out _ HBW.out).1 HB.out HR.out hg5 hb5 HO.out h1 h2 h3 h4
  | both =>
   rename_i p q A B l m hla hlb o1 o2 m0 hm b1 b2 hS'
   obtain⟨oa,ca,rfl,ea1,ea2,eag,ea3,ka0,ka1,ka2⟩:=JaT hI.r1;obtain⟨ob,cb,rfl,eb1,eb2,ebg,eb3,kb0,kb1,kb2⟩:=JaT hI.r2;have hlp:=JaJ o1;have hlq:=JaJ o2;have cLA:Hid (∀wx,Calls Tryz.prog 211 #[Jay p] wx fun e w'=>e=.returned (.bool false)/\Below wx.heap.size wx w'):=fun wx=>by
    have:=JcA p wx;rw[show decide (0<p.drop)=false from hla]at this;exact this
   have cLB:Hid (∀wx,Calls Tryz.prog 225 #[Jay q] wx fun e w'=>e=.returned (.bool false)/\Below wx.heap.size wx w'):=fun wx=>by
    have:=Jbu q wx;rw[show decide (q.put≠[])=false from hlb]at this;exact this
   have cNP:Hid (∀wx,Calls Tryz.prog 267 #[Jay p] wx fun e w'=>e=.returned (.int .i64 (Jac p))/\Below wx.heap.size wx w'):=fun wx=>JbW p wx (by rcases o1 with ⟨h1,h2,h3⟩|⟨h1,h2,h3⟩|⟨h1,h2,h3⟩<;>exact⟨by omega,by omega⟩) (by unfold Jac at b1;omega)
   have cNQ:Hid (∀wx,Calls Tryz.prog 267 #[Jay q] wx fun e w'=>e=.returned (.int .i64 (Jac q))/\Below wx.heap.size wx w'):=fun wx=>JbW q wx (by rcases o2 with ⟨h1,h2,h3⟩|⟨h1,h2,h3⟩|⟨h1,h2,h3⟩<;>exact⟨by omega,by omega⟩) (by unfold Jac at b2;omega)
   have CC1:Hid (∀W',winP W' g1 (.slice (some ⟨g1,oa,none⟩) (A.length+1) ca) (p :: A)->Calls Tryz.prog 268 #[.slice (some ⟨g1,oa,none⟩) (A.length+1) ca,.int .i64 m] W' fun e w'=>∃v',e=.returned (.tuple #[Jay (cutP p m).1,v'])/\winP w' g1 v' ((cutP p m).2++A)/\ButO g1 W' w'):=fun W' h=>Jgm g1 _ p A m W' h o1 m0 (by omega) b1
   have CC2:Hid (∀W',winP W' g2 (.slice (some ⟨g2,ob,none⟩) (B.length+1) cb) (q :: B)->Calls Tryz.prog 268 #[.slice (some ⟨g2,ob,none⟩) (B.length+1) cb,.int .i64 m] W' fun e w'=>∃v',e=.returned (.tuple #[Jay (cutP q m).1,v'])/\winP w' g2 v' ((cutP q m).2++B)/\ButO g2 W' w'):=fun W' h=>Jgm g2 _ q B m W' h o2 m0 (by omega) b2
   have CT:Hid (∀W',gath M W' a s->Jdb bx W'->Calls Tryz.prog 226 #[Jay (cutP p m).1,Jay (cutP q m).1,.pointer (some ⟨β,0,none⟩)] W' (Jcw M a s (t ((cutP p m).1,(cutP q m).1)) W')):=fun W' hg hb=>cT.out s ((cutP p m).1,(cutP q m).1) T n l W' hg hb HB.out
   have HS:Hid (Side JaE Jaa ((cutP p m).2++A) ((cutP q m).2++B) l):=hS';have hm1:(m:Int)<1000000000:=by omega
   clear hS' hla hlb o1 o2 hlp hlq b1 b2;generalize Jac p=LP at *;generalize Jac q=LQ at *;obtain⟨R1,hR1⟩:∃R,(cutP p m).2++A=R:=⟨_,rfl⟩;obtain⟨R2,hR2⟩:∃R,(cutP q m).2++B=R:=⟨_,rfl⟩;obtain⟨x1,hx1⟩:∃x,(cutP p m).1=x:=⟨_,rfl⟩;obtain⟨x2,hx2⟩:∃x,(cutP q m).1=x:=⟨_,rfl⟩;rw[hR1,hx1]at CC1;rw[hR2,hx2]at CC2;rw[hx1,hx2]at CT HB HR;rw[hR1,hR2]at HS;rw[hx1,hx2]at HK;clear hR1 hR2 hx1 hx2;obtain⟨K1,D1,U1⟩:=x1;obtain⟨K2,D2,U2⟩:=x2;have HW1:Hid (winP wr g1 (.slice (some ⟨g1,oa,none⟩) (A.length+1) ca) (p :: A)):=hI.r1;have HW2:Hid (winP wr g2 (.slice (some ⟨g2,ob,none⟩) (B.length+1) cb) (q :: B)):=hI.r2;have HEG1:Hid (g1<wr.heap.size):=eag;have HEG2:Hid (g2<wr.heap.size):=ebg;obtain⟨KA,DA,UA⟩:=p;obtain⟨KB,DB,UB⟩:=q;simp only at ka0 ka1 ka2 kb0 kb1 kb2;have HKA:Hid (wr.cell? ⟨g1,oa,none⟩=some (.int .i64 KA)/\wr.cell? ⟨g1,oa+1,none⟩=some (.int .i64 DA)/\wr.cell? ⟨g1,oa+2,none⟩=some (.string ⟨UA.toArray⟩)):=⟨ka0,ka1,ka2⟩;have HKB:Hid (wr.cell? ⟨g2,ob,none⟩=some (.int .i64 KB)/\wr.cell? ⟨g2,ob+1,none⟩=some (.int .i64 DB)/\wr.cell? ⟨g2,ob+2,none⟩=some (.string ⟨UB.toArray⟩)):=⟨kb0,kb1,kb2⟩;have hia:(0:Int)<(A.length:Int)+1:=by omega
   have hib:(0:Int)<(B.length:Int)+1:=by omega
   unfold Jay at cLA cLB cNP cNQ CC1 CC2 CT;clear hI ea3 eb3
   go_wp2_with (first
    | (have _:=HB1;go_at_call 225;refine(cLB.out _).mono ?_;rintro e w2 ⟨rfl,hb2⟩;have HR2:Hid (w2.heap[wr.heap.size]?=some (.cells #[.int .i64 0,.int .i64 0,.string ⟨#[]⟩] 50 (0,0))):=(hb2.block _ (Jah HR1.out)).trans HR1.out;have HP2:Hid (w2.heap[wr.heap.size+1]?=some (.cells #[.int .i64 0,.int .i64 0,.string ⟨#[]⟩] 50 (0,0))):=(hb2.block _ (Jah HP1.out)).trans HP1.out;have HB2:=hdz (HB1.out.trans (hb2.mono HB1.out.size));clear hb2;have xa0:w2.cell? ⟨g1,oa,none⟩=some (.int .i64 KA):=(HB2.out.cell HEG1.out).trans HKA.out.1;have xa1:w2.cell? ⟨g1,oa+1,none⟩=some (.int .i64 DA):=(HB2.out.cell HEG1.out).trans HKA.out.2.1;have xa2:w2.cell? ⟨g1,oa+2,none⟩=some (.string ⟨UA.toArray⟩):=(HB2.out.cell HEG1.out).trans HKA.out.2.2;have xc0:w2.cell? ⟨g2,ob,none⟩=some (.int .i64 KB):=(HB2.out.cell HEG2.out).trans HKB.out.1;have xc1:w2.cell? ⟨g2,ob+1,none⟩=some (.int .i64 DB):=(HB2.out.cell HEG2.out).trans HKB.out.2.1;have xc2:w2.cell? ⟨g2,ob+2,none⟩=some (.string ⟨UB.toArray⟩):=(HB2.out.cell HEG2.out).trans HKB.out.2.2)
    | (go_at_call 211;refine(cLA.out _).mono ?_;rintro e w1 ⟨rfl,hb1⟩;obtain⟨y1,y2,y3⟩:=JaL hb1;have HR1:Hid (w1.heap[wr.heap.size]?=some (.cells #[.int .i64 0,.int .i64 0,.string ⟨#[]⟩] 50 (0,0))):=y1;have HP1:Hid (w1.heap[wr.heap.size+1]?=some (.cells #[.int .i64 0,.int .i64 0,.string ⟨#[]⟩] 50 (0,0))):=y2;have HB1:=hdz y3;clear y1 y2 y3 hb1;have xb0:w1.cell? ⟨g2,ob,none⟩=some (.int .i64 KB):=(HB1.out.cell HEG2.out).trans HKB.out.1;have xb1:w1.cell? ⟨g2,ob+1,none⟩=some (.int .i64 DB):=(HB1.out.cell HEG2.out).trans HKB.out.2.1;have xb2:w1.cell? ⟨g2,ob+2,none⟩=some (.string ⟨UB.toArray⟩):=(HB1.out.cell HEG2.out).trans HKB.out.2.2)
    | fail)
   go_region_with (first
    | (have _:=HB3;go_at_call 267;refine(cNQ.out _).mono ?_;rintro e w4 ⟨rfl,hb4⟩;have HR4:Hid (w4.heap[wr.heap.size]?=some (.cells #[.int .i64 0,.int .i64 0,.string ⟨#[]⟩] 50 (0,0))):=(hb4.block _ (Jah HR3.out)).trans HR3.out;have HP4:Hid (w4.heap[wr.heap.size+1]?=some (.cells #[.int .i64 0,.int .i64 0,.string ⟨#[]⟩] 50 (0,0))):=(hb4.block _ (Jah HP3.out)).trans HP3.out;have HB4:=hdz (HB3.out.trans (hb4.mono HB3.out.size));clear hb4)
    | (have _:=HB2;go_at_call 267;refine(cNP.out _).mono ?_;rintro e w3 ⟨rfl,hb3⟩;have HR3:Hid (w3.heap[wr.heap.size]?=some (.cells #[.int .i64 0,.int .i64 0,.string ⟨#[]⟩] 50 (0,0))):=(hb3.block _ (Jah HR2.out)).trans HR2.out;have HP3:Hid (w3.heap[wr.heap.size+1]?=some (.cells #[.int .i64 0,.int .i64 0,.string ⟨#[]⟩] 50 (0,0))):=(hb3.block _ (Jah HP2.out)).trans HP2.out;have HB3:Hid (Below wr.heap.size wr w3):=HB2.out.drew.trans (hb3.mono HB2.out.size);clear hb3;have xd0:w3.cell? ⟨g2,ob,none⟩=some (.int .i64 KB):=(HB3.out.cell HEG2.out).trans HKB.out.1;have xd1:w3.cell? ⟨g2,ob+1,none⟩=some (.int .i64 DB):=(HB3.out.cell HEG2.out).trans HKB.out.2.1;have xd2:w3.cell? ⟨g2,ob+2,none⟩=some (.string ⟨UB.toArray⟩):=(HB3.out.cell HEG2.out).trans HKB.out.2.2)
    | fail)
   all_goals (
    go_wp2_with (first
     | (have _:=HT7;go_at_call 226;have HI8:Hid (sideI M a g1 g2 bx w _ _ R1 R2 s (((w7.setCell ⟨wr.heap.size+1,0,none⟩ (.int .i64 K2)).setCell ⟨wr.heap.size+1,1,none⟩ (.int .i64 D2)).setCell ⟨wr.heap.size+1,2,none⟩ (.string ⟨U2.toArray⟩))):=HI.out.both (HT7.out.above3 (Nat.le_succ _) _ _ _) HO.out h1 h2 h3 h4 (Jbd HO7.out (by simp) fun _=>Jbx (by have:=HEG1.out;omega)) (Jbd HQ7.out (by simp) fun _=>Jbx (by have:=HEG2.out;omega));refine(CT.out _ HI8.out.g HI8.out.b).mono ?_;rintro e w9 ⟨⟨v9,rfl⟩,hg9,hb9⟩)
     | (have _:=HT5;go_at_call 268;have HT6:Hid (ButO g1 wr (((w5.setCell ⟨wr.heap.size,0,none⟩ (.int .i64 K1)).setCell ⟨wr.heap.size,1,none⟩ (.int .i64 D1)).setCell ⟨wr.heap.size,2,none⟩ (.string ⟨U1.toArray⟩))):=HT5.out.above3 (nlr _) _ _ _;have HR6:Hid ((((w5.setCell ⟨wr.heap.size,0,none⟩ (.int .i64 K1)).setCell ⟨wr.heap.size,1,none⟩ (.int .i64 D1)).setCell ⟨wr.heap.size,2,none⟩ (.string ⟨U1.toArray⟩)).heap[wr.heap.size]?=some (.cells #[.int .i64 K1,.int .i64 D1,.string ⟨U1.toArray⟩] 50 (0,0))):=Jmr HR5.out _ _ _;have HP6:Hid ((((w5.setCell ⟨wr.heap.size,0,none⟩ (.int .i64 K1)).setCell ⟨wr.heap.size,1,none⟩ (.int .i64 D1)).setCell ⟨wr.heap.size,2,none⟩ (.string ⟨U1.toArray⟩)).heap[wr.heap.size+1]?=some (.cells #[.int .i64 0,.int .i64 0,.string ⟨#[]⟩] 50 (0,0))):=(Jbx (by omega)).trans HP5.out;have HQ6:Hid (winP (((w5.setCell ⟨wr.heap.size,0,none⟩ (.int .i64 K1)).setCell ⟨wr.heap.size,1,none⟩ (.int .i64 D1)).setCell ⟨wr.heap.size,2,none⟩ (.string ⟨U1.toArray⟩)) g1 _ R1):=Jbd HQ5.out (by simp) fun _=>Jbx (by have:=HEG1.out;omega);refine(CC2.out _ (Jbd HW2.out HT6.out.size fun hg=>HT6.out.block g2 hg (Ne.symm HNE.out))).mono ?_;rintro e w7 ⟨v7,rfl,hw7,hb7⟩;have HQ7:Hid (winP w7 g2 v7 R2):=hw7;have hbz:ButO g2 (((w5.setCell ⟨wr.heap.size,0,none⟩ (.int .i64 K1)).setCell ⟨wr.heap.size,1,none⟩ (.int .i64 D1)).setCell ⟨wr.heap.size,2,none⟩ (.string ⟨U1.toArray⟩)) w7:=⟨hb7.os,hb7.tape,hb7.output,hb7.size,hb7.block⟩;obtain⟨p7,c7,rfl,_⟩:=hw7;have HO7:Hid (winP w7 g1 _ R1):=JgK HQ6.out hbz HNE.out;have HR7:Hid (w7.heap[wr.heap.size]?=some (.cells #[.int .i64 K1,.int .i64 D1,.string ⟨U1.toArray⟩] 50 (0,0))):=(hbz.block _ (Jah HR6.out) (by have:=HEG2.out;omega)).trans HR6.out;have HP7:Hid (w7.heap[wr.heap.size+1]?=some (.cells #[.int .i64 0,.int .i64 0,.string ⟨#[]⟩] 50 (0,0))):=(hbz.block _ (Jah HP6.out) (by have:=HEG2.out;omega)).trans HP6.out;have HT7:Hid (But2 g1 g2 wr w7):=(But2.of1 HT6.out).cut2 hbz;clear hb7 hbz;have t0:w7.cell? ⟨wr.heap.size,0,none⟩=some (.int .i64 K1):=chp HR7.out 0;have t1:w7.cell? ⟨wr.heap.size,1,none⟩=some (.int .i64 D1):=chp HR7.out 1;have t2:w7.cell? ⟨wr.heap.size,2,none⟩=some (.string ⟨U1.toArray⟩):=chp HR7.out 2;have q0:w7.cell? ⟨wr.heap.size+1,0,none⟩=some (.int .i64 0):=chp HP7.out 0;have q1:w7.cell? ⟨wr.heap.size+1,1,none⟩=some (.int .i64 0):=chp HP7.out 1;have q2:w7.cell? ⟨wr.heap.size+1,2,none⟩=some (.string ⟨#[]⟩):=chp HP7.out 2;have qF0:w7.frozen? ⟨wr.heap.size+1,0,none⟩=false:=frozen_of_heap HP7.out 0;have qF1:w7.frozen? ⟨wr.heap.size+1,1,none⟩=false:=frozen_of_heap HP7.out 1;have qF2:w7.frozen? ⟨wr.heap.size+1,2,none⟩=false:=frozen_of_heap HP7.out 2)
     | (have _:=HB4;go_at_call 268;refine(CC1.out _ (Jbd HW1.out HB4.out.size fun hg=>HB4.out.block g1 hg)).mono ?_;rintro e w5 ⟨v5,rfl,hw5,hb5⟩;have HQ5:Hid (winP w5 g1 v5 R1):=hw5;have hbz:ButO g1 w4 w5:=⟨hb5.os,hb5.tape,hb5.output,hb5.size,hb5.block⟩;obtain⟨p5,c5,rfl,_⟩:=hw5;have HR5:Hid (w5.heap[wr.heap.size]?=some (.cells #[.int .i64 0,.int .i64 0,.string ⟨#[]⟩] 50 (0,0))):=(hbz.block _ (Jah HR4.out) (by have:=HEG1.out;omega)).trans HR4.out;have HP5:Hid (w5.heap[wr.heap.size+1]?=some (.cells #[.int .i64 0,.int .i64 0,.string ⟨#[]⟩] 50 (0,0))):=(hbz.block _ (Jah HP4.out) (by have:=HEG1.out;omega)).trans HP4.out;have HT5:Hid (ButO g1 wr w5):=(ButO.of HB4.out).trans hbz;clear hb5 hbz;have r0:w5.cell? ⟨wr.heap.size,0,none⟩=some (.int .i64 0):=chp HR5.out 0;have r1:w5.cell? ⟨wr.heap.size,1,none⟩=some (.int .i64 0):=chp HR5.out 1;have r2:w5.cell? ⟨wr.heap.size,2,none⟩=some (.string ⟨#[]⟩):=chp HR5.out 2;have rF0:w5.frozen? ⟨wr.heap.size,0,none⟩=false:=frozen_of_heap HR5.out 0;have rF1:w5.frozen? ⟨wr.heap.size,1,none⟩=false:=frozen_of_heap HR5.out 1;have rF2:w5.frozen? ⟨wr.heap.size,2,none⟩=false:=frozen_of_heap HR5.out 2)
     | fail)
    go_roundg l.length
    case measure=>have:=HK.out;simp only[List.length_cons]at this;omega
    case rel=>exact JaN HS.out HI8.out HB.out HR.out hg9 hb9 HO.out h1 h2 h3 h4)
end
section
open Go.RowKit
variable {ps : List Pt}
theorem JfZ{w4 X5 w5 w6:World}{a:Nat}{v1 v2:Value}{N1 N2:List Pt}(bx:List (Nat×Obj))(hG:∀M w2,Below w4.heap.size w4 w2->a+4<=M->M<=w2.heap.size->gath M w2 a nst0)(hz:w4.heap.size=a+4)
    (hb:Jdb bx X5) (hk:∀x∈bx,a+4<=x.1/\(∀c fz,x.2≠.cells c 5 fz)/\∀c fz,x.2≠.cells c 50 fz) (h45:Below w4.heap.size w4 X5)
    (o1:w5.ownsRow X5.heap.size 50 3 v1 N1.length (Jag N1)) (b5:Below X5.heap.size X5 w5) (s5:X5.heap.size+4<=w5.heap.size)
    (o2:w6.ownsRow w5.heap.size 50 3 v2 N2.length (Jag N2)) (b6:Below w5.heap.size w5 w6) (s6:w5.heap.size+4<=w6.heap.size) :
    ∃g1 g2,sideI w6.heap.size a g1 g2 bx w6 v1 v2 N1 N2 nst0 w6/\JdD a g1 g2 bx/\a+4<=g1/\g1<w6.heap.size/\a+4<=g2/\g2<w6.heap.size/\g1≠g2:=by
 have s4:=h45.size;obtain⟨g1,hg1,r1⟩:=Jmw o1;obtain⟨g2,hg2,r2⟩:=Jmw o2;have b46:Below w4.heap.size w4 w6:=(h45.trans (b5.mono s4)).trans (b6.mono (by omega));have b56:Below X5.heap.size X5 w6:=b5.trans (b6.mono (by omega));refine⟨g1,g2,⟨.refl _ _,hG _ _ b46 (by omega) (nlr _),JfS r1 b6,r2,fun x hx=>(b56.block _ (Jah (hb x hx))).trans (hb x hx)⟩,fun x hx=>?_,by omega,by omega,by omega,by omega,by omega⟩;obtain⟨k1,k2,k3⟩:=hk x hx;have:=Jah (hb x hx);exact⟨k1,by omega,by omega,k2,k3⟩
theorem JjO(f:Pt->Int)(l:List Pt):∀x:Int,l.foldl (fun x p=>x+f p) x=x+(l.map f).sum:=by
 induction l with
 | nil=>intro x;simp
 | cons p l ih=>intro x;rw[List.foldl_cons,ih,List.map_cons,List.sum_cons];omega
theorem JqD(ps:List Pt)(h:∀p∈ps,0<=p.keep/\0<=p.drop):wts (Jae ps)=wts ps:=by
 have ok:ActP (fun (x:Int) p=>x+wtP p):=by
  constructor
  . intro x;simp[wtP]
  . intro x u v;simp only[wtP,List.length_append];push_cast;omega
  . intro x a b _ _;simp only[wtP,List.length_nil];omega
  . intro x a b _ _;simp only[wtP,List.length_nil];omega
  . intro x k d u;simp only[wtP,List.length_nil];omega
  . intro x d u;simp only[wtP,List.length_nil];omega
 have:=JeZ ok ps h 0;rw[JjO,JjO]at this;simpa[wts] using this
theorem JqE(ps:List Pt)(h:∀p∈ps,0<=p.keep/\0<=p.drop):((Jae ps).map isP).sum=(ps.map isP).sum:=by
 have ok:ActP (fun (x:Int) p=>x+isP p):=by
  constructor
  . intro x;simp[isP]
  . intro x u v;simp only[isP,List.length_append];push_cast;omega
  . intro x a b _ _;simp only[isP,List.length_nil];omega
  . intro x a b _ _;simp only[isP,List.length_nil];omega
  . intro x k d u;simp only[isP,List.length_nil];omega
  . intro x d u;simp only[isP,List.length_nil];omega
 have:=JeZ ok ps h 0;rw[JjO,JjO]at this;simpa using this
theorem JfT:∀(A:List Pt),(∀p∈A,oneP p)->(Jai A:Int)=wts A
 | [],_=>by simp[Jai,wts]
 | p :: A,h=>by
  have ih:=JfT A fun q hq=>h q (by simp[hq])
  have h1:=JaJ (h p (by simp));have e:wts (p :: A)=wtP p+wts A:=by simp[wts]
  have e2:wtP p=Jac p:=rfl;rw[Ja7,e,e2];omega
theorem JdI:∀(A:List Pt),(∀p∈A,oneP p)->Jc5 Jaa A=Jar A
 | [],_=>by simp[Jc5,Jar]
 | p :: A,h=>by
  have ih:=JdI A fun q hq=>h q (by simp[hq])
  have e:Jar (p :: A)=lenP p+Jar A:=by simp[Jar]
  rw[JcY,ih,e]
  rcases h p (by simp) with ⟨h1,h2,h3⟩|⟨h1,h2,h3⟩|⟨h1,h2,h3⟩
  . simp[Jaa,h3,Jac,lenP]
  . simp[Jaa,h3,Jac,lenP]
  . simp[Jaa,h3,lenP,h1,h2]
theorem Jk6:∀(A:List Pt),(∀p∈A,oneP p)->Jc5 JaE A=(A.map isP).sum
 | [],_=>by simp[Jc5]
 | p :: A,h=>by
  have ih:=Jk6 A fun q hq=>h q (by simp[hq])
  rw[JcY,ih,List.map_cons,List.sum_cons]
  rcases h p (by simp) with ⟨h1,h2,h3⟩|⟨h1,h2,h3⟩|⟨h1,h2,h3⟩
  . simp[JaE,h2,h3,Jac,isP]
  . simp[JaE,h2,h3,isP,h1]
  . simp[JaE,h2,Jac,isP]
theorem Jm6(t:Pt×Pt->List Pt)(l:List (Pt×Pt)):∀s,runS t l s=(l.flatMap t).foldl addP s:=by
 induction l with
 | nil=>intro s;rfl
 | cons x l ih=>intro s;rw[List.flatMap_cons,List.foldl_append];exact ih _
theorem Jhp{t:Pt×Pt->List Pt}{l:List (Pt×Pt)}(hB:BdS t l nst0 0 0):(runS t l nst0).out.length<1000000000/\(runS t l nst0).put.length<1000000000:=by
 rw[Jm6];have hb:=bds (l.flatMap t) fun p hp=>by
  obtain⟨x,hx,hp⟩:=List.mem_flatMap.1 hp;exact hB.sound x hx p hp
 have h1:(l.flatMap t).length<=l.length:=by
  have key:∀(l:List (Pt×Pt)),(∀x∈l,(t x).length<=1)->(l.flatMap t).length<=l.length:=by
   intro l
   induction l with
   | nil=>intro _;simp
   | cons x l ih =>
    intro h;have h1:=h x (by simp);have h2:=ih fun y hy=>h y (by simp[hy])
    rw[List.flatMap_cons,List.length_append,List.length_cons];omega
  exact key l hB.one
 have h2:=hb.len;have h3:=hb.put;have h4:=hB.w;have h5:=hB.n;exact⟨by omega,by omega⟩
structure fineP (ps:List Pt):Prop where
 one:∀p∈ps,oneP p
 w:wts ps<2000000
 len:ps.length<10000000
theorem JcI(h:fineP ps):(∀p∈Jae ps,oneP p/\Jac p<1000000000)/\Jai (Jae ps)<2000000/\Jar (Jae ps)=Jar ps/\((Jae ps).map isP).sum=(ps.map isP).sum:=by
 have hs:=JaS h.one;have h1:=JeR ps hs;have h2:=JfT _ h1;rw[JqD ps hs]at h2;have h3:=h.w;refine⟨fun p hp=>⟨h1 p hp,?_⟩,by omega,Jhw ps,JqE ps hs⟩;obtain⟨l1,l2,e⟩:=List.append_of_mem hp;have h4:=JfT _ h1;rw[e,Jbe,Ja7]at h4;rw[e]at h2;have h5:=JaJ (h1 p hp);rw[Jbe,Ja7]at h2;omega
theorem Jc1(h:fineP ps):(Ja9 ps).1=Jar ps/\(Ja9 ps).2=(ps.map isP).sum:=by
 have hs:=JaS h.one;obtain⟨h1,h2,_,_⟩:=JiB ps (fun p hp=>hs p hp) (by have:=h.w;omega);refine⟨?_,h2⟩;rw[h1,Jiu];exact JeS ps hs
end
section
open Go.RowKit
attribute [local go_sem] Oper.semAt_some
def Jba (first:Bool) (a b:List Pt):NSt:=if first then runS Jbl (Ja8 Jaa Jaa (Jai (Jae a)+Jai (Jae b)) (Jae a) (Jae b)) nst0 else runS (fun x=>Jbl (x.2,x.1)) (Ja8 Jaa Jaa (Jai (Jae b)+Jai (Jae a)) (Jae b) (Jae a)) nst0
def JgF (a b:List Pt):NSt:=runS JbI (Ja8 JaE Jaa (Jai (Jae a)+Jai (Jae b)) (Jae a) (Jae b)) nst0
def Jln (a b:List Pt):Int:=if Jch a b=0 then (if (Ja9 b).1=(Ja9 a).1 then 0 else 2) else Jch a b
def JpL (a b:List Pt):Int:=if Jch a b=0 then (if (Ja9 b).1=(Ja9 a).2 then 0 else 2) else Jch a b
theorem Jqq(v1 v2:Value)(a b:List Pt)(w:World)(hT:Lib.Utf8Tabs 2 3 w)(h1:opAt w v1 a)(h2:opAt w v2 b)(w1:∀p∈a,wfP p)(w2:∀p∈b,wfP p)(f1:fineP a)(f2:fineP b)(he:Jch a b=0)(hl:(Ja9 b).1=(Ja9 a).1) :
    Calls Tryz.prog 187 #[v1,v2,.bool true] w fun e w'=>∃v',e=.returned (.tuple #[v',.nilIface])/\opN w.heap.size w' v' (JaC (Jba true a b))/\Below w.heap.size w w':=by
 have cB:Hid _:=JbQ v1 v2 a b w hT h1 h2 w1 w2 f1.len f2.len;have hV:errV (Jch a b)=.nilIface:=by unfold errV;rw[if_pos he]
 rw[hV]at cB;have cL1:Hid (∀wx,Below w.heap.size w wx->Calls Tryz.prog 120 #[v1] wx fun e w'=>e=.returned (.tuple #[.int .i64 (Ja9 a).1,.int .i64 (Ja9 a).2])/\Below wx.heap.size wx w'):=fun wx hb=>Jcg v1 a wx (JaR h1 hb) f1.len
 have cL2:Hid (∀wx,Below w.heap.size w wx->Calls Tryz.prog 120 #[v2] wx fun e w'=>e=.returned (.tuple #[.int .i64 (Ja9 b).1,.int .i64 (Ja9 b).2])/\Below wx.heap.size wx w'):=fun wx hb=>Jcg v2 b wx (JaR h2 hb) f2.len
 have cN1:Hid (∀wx,Below w.heap.size w wx->Calls Tryz.prog 224 #[v1] wx fun e w'=>∃v',e=.returned v'/\w'.ownsRow wx.heap.size 50 3 v' (Jae a).length (Jag (Jae a))/\Below wx.heap.size wx w'/\wx.heap.size+4<=w'.heap.size):=fun wx hb=>Jeb v1 a wx (JaR h1 hb) (JaS f1.one) (by have:=f1.w;omega) f1.len
 have cN2:Hid (∀wx,Below w.heap.size w wx->Calls Tryz.prog 224 #[v2] wx fun e w'=>∃v',e=.returned v'/\w'.ownsRow wx.heap.size 50 3 v' (Jae b).length (Jag (Jae b))/\Below wx.heap.size wx w'/\wx.heap.size+4<=w'.heap.size):=fun wx hb=>Jeb v2 b wx (JaR h2 hb) (JaS f2.one) (by have:=f2.w;omega) f2.len
 obtain⟨n1,n2,n3,n4⟩:=JcI f1;obtain⟨m1,m2,m3,m4⟩:=JcI f2;have hmeas:Jc5 Jaa (Jae a)=Jc5 Jaa (Jae b):=by
  have e1:=(Jc1 f1).1;have e2:=(Jc1 f1).2;have e3:=(Jc1 f2).1;rw[JdI _ (fun p hp=>(m1 p hp).1),JdI _ (fun p hp=>(n1 p hp).1)];omega
 obtain⟨hSd,hok,hpw,hln⟩:=Jhn Jdh Jdh (Jai (Jae a)+Jai (Jae b)) (Jae a) (Jae b) n1 m1 hmeas (nlr _);have hBd:BdS Jbl (Ja8 Jaa Jaa (Jai (Jae a)+Jai (Jae b)) (Jae a) (Jae b)) nst0 0 0:=JpS Jhf hok (by rw[hpw];omega) (by omega);have HSD:Hid (Side Jaa Jaa (Jae a) (Jae b) (Ja8 Jaa Jaa (Jai (Jae a)+Jai (Jae b)) (Jae a) (Jae b))):=hSd;have HBD:Hid (BdS Jbl (Ja8 Jaa Jaa (Jai (Jae a)+Jai (Jae b)) (Jae a) (Jae b)) nst0 0 0):=hBd;have hS:runS Jbl (Ja8 Jaa Jaa (Jai (Jae a)+Jai (Jae b)) (Jae a) (Jae b)) nst0=Jba true a b:=rfl;have HSM:Hid _:=Jhp hBd;rw[hS]at HSM;obtain⟨S,hSe⟩:∃S,Jba true a b=S:=⟨_,rfl⟩;rw[hSe]at HSM ⊢;have HS:Hid (runS Jbl (Ja8 Jaa Jaa (Jai (Jae a)+Jai (Jae b)) (Jae a) (Jae b)) nst0=S):=hSe;rw[hl]at cL2;generalize (Ja9 a).1=A1 at *;generalize (Ja9 a).2=A2 at *;generalize (Ja9 b).2=B2 at *;obtain⟨p1,c1,rfl,_⟩:=h1;obtain⟨p2,c2,rfl,_⟩:=h2;clear hT w1 w2 f1 f2 he hV hSd hBd hok hpw hln hmeas hS hSe n1 n2 n3 n4 m1 m2 m3 m4 hl
 go_enter Tryz.func187,Tryz.ntmps187
 go_wp2_with (first
  | (have _:=HG4;go_at_call 9999)
  | (have _:=HB2;go_at_call 120;refine(cL2.out _ HB2.out).mono ?_;rintro e w3 ⟨rfl,hb3⟩;have HB3:=hdz (HB2.out.trans (hb3.mono HB2.out.size));clear hb3)
  | (go_at_call 120;refine(cL1.out _ HB1.out).mono ?_;rintro e w2 ⟨rfl,hb2⟩;have HB2:=hdz (HB1.out.trans (hb2.mono HB1.out.size));clear hb2)
  | (go_at_call 221;refine Calls.mono cB.out ?_;rintro e w1 ⟨rfl,hb1⟩;have HB1:=hdz hb1;clear hb1)
  | (have _:=HB3;go_at_call 222;refine(JeU w3).mono ?_;rintro e w4 ⟨rfl,hG4,hz4,hb4⟩;have HG4:Hid (∀M w2,Below w4.heap.size w4 w2->w3.heap.size+4<=M->M<=w2.heap.size->gath M w2 w3.heap.size nst0):=hG4;have HZ4:Hid (w4.heap.size=w3.heap.size+4):=hz4;have HB4:=hdz (HB3.out.trans (hb4.mono HB3.out.size));clear hG4 hz4 hb4)
  | fail)
 obtain⟨X5,hX5⟩:∃X,X=((w4.alloc (.cells #[.func (.func 265) #[] #[.pointer (some ⟨w3.heap.size+1,0,none⟩),.pointer (some ⟨w3.heap.size+2,0,none⟩),.pointer (some ⟨w3.heap.size+3,0,none⟩),.pointer (some ⟨w3.heap.size,0,none⟩)]] 342)).alloc (.cells #[.func (.func 228) #[] #[.pointer (some ⟨w4.heap.size,0,none⟩)]] 347)):=⟨_,rfl⟩;rw[←hX5];have H45:Hid (Below w4.heap.size w4 X5):=by rw[hX5];exact((brf _ _).alloc (nlr _) _).alloc (by simp) _
 have HX5:Hid (Below w.heap.size w X5):=HB4.out.trans (H45.out.mono HB4.out.size)
 have HBX:Hid (Jdb [(w4.heap.size,.cells #[addV w3.heap.size] 342 (0,0)),(w4.heap.size+1,.cells #[.func (.func 228) #[] #[.pointer (some ⟨w4.heap.size,0,none⟩)]] 347 (0,0))] X5):=by
  intro x hx;simp only[List.mem_cons,List.not_mem_nil,or_false]at hx;rw[hX5]
  rcases hx with rfl|rfl
  . exact(heap_alloc_old _ _ (by simp)).trans (heap_alloc_new _ _)
  . have:=heap_alloc_new (w4.alloc (.cells #[.func (.func 265) #[] #[.pointer (some ⟨w3.heap.size+1,0,none⟩),.pointer (some ⟨w3.heap.size+2,0,none⟩),.pointer (some ⟨w3.heap.size+3,0,none⟩),.pointer (some ⟨w3.heap.size,0,none⟩)]] 342)) (.cells #[.func (.func 228) #[] #[.pointer (some ⟨w4.heap.size,0,none⟩)]] 347)
    rwa[World.size_alloc]at this
 have HKX:Hid (∀x∈([(w4.heap.size,.cells #[addV w3.heap.size] 342 (0,0)),(w4.heap.size+1,.cells #[.func (.func 228) #[] #[.pointer (some ⟨w4.heap.size,0,none⟩)]] 347 (0,0))]:List (Nat×Obj)),w3.heap.size+4<=x.1/\(∀c fz,x.2≠.cells c 5 fz)/\∀c fz,x.2≠.cells c 50 fz):=by
  intro x hx;simp only[List.mem_cons,List.not_mem_nil,or_false]at hx;rcases hx with rfl|rfl<;>exact⟨by have:=HZ4.out;simp only;omega,fun c fz e=>(by cases e),fun c fz e=>(by cases e)⟩
 clear hX5;have yX:X5.cell? ⟨w4.heap.size+1,0,none⟩=some (.func (.func 228) #[] #[.pointer (some ⟨w4.heap.size,0,none⟩)]):=chp (HBX.out (w4.heap.size+1,.cells #[.func (.func 228) #[] #[.pointer (some ⟨w4.heap.size,0,none⟩)]] 347 (0,0)) (by simp)) 0
 go_region_with (first
  | (have _:=HO6;go_at_call 223;obtain⟨g1,g2,hI,ho,i1,i2,i3,i4,i5⟩:=JfZ [(w4.heap.size,.cells #[addV w3.heap.size] 342 (0,0)),(w4.heap.size+1,.cells #[.func (.func 228) #[] #[.pointer (some ⟨w4.heap.size,0,none⟩)]] 347 (0,0))] HG4.out HZ4.out HBX.out HKX.out H45.out HO5.out HB5.out HS5.out HO6.out HB6.out HS6.out;refine(JoG _ _ g1 g2 w4.heap.size [(w4.heap.size,.cells #[addV w3.heap.size] 342 (0,0)),(w4.heap.size+1,.cells #[.func (.func 228) #[] #[.pointer (some ⟨w4.heap.size,0,none⟩)]] 347 (0,0))] _ _ _ _ _ nst0 w6 hI HSD.out HBD.out ho i1 i2 i3 i4 i5 (fun s x T n W hg hbx hB hS hT hn=>Jkb _ _ _ s x.1 x.2 W hg (hbx (w4.heap.size,.cells #[addV w3.heap.size] 342 (0,0)) (by simp)) hB hS hT hn)).mono ?_;rintro e w7 ⟨⟨v7,rfl⟩,hg7,hx7,hb7⟩;rw[HS.out]at hg7;have HG7:Hid (gath w6.heap.size w7 w3.heap.size S):=hg7;have HB7:=hdz hb7;clear hI ho i1 i2 i3 i4 i5 hg7 hx7 hb7)
  | (have _:=HO5;go_at_call 224;refine(cN2.out _ HW5.out).mono ?_;rintro e w6 ⟨v6,rfl,o6,b6,s6⟩;have HO6:Hid (w6.ownsRow w5.heap.size 50 3 v6 (Jae b).length (Jag (Jae b))):=o6;have HB6:=hdz b6;have HS6:Hid (w5.heap.size+4<=w6.heap.size):=s6;have HW6:Hid (Below w.heap.size w w6):=HW5.out.trans (HB6.out.mono HW5.out.size);have HB56:Hid (Below X5.heap.size X5 w6):=HB5.out.trans (HB6.out.mono HB5.out.size);obtain⟨pp6,cc6,rfl⟩:=Jad o6;clear o6 b6 s6;have yw6:w6.cell? ⟨w4.heap.size+1,0,none⟩=some (.func (.func 228) #[] #[.pointer (some ⟨w4.heap.size,0,none⟩)]):=chp ((HB56.out.block _ (Jah (HBX.out (w4.heap.size+1,.cells #[.func (.func 228) #[] #[.pointer (some ⟨w4.heap.size,0,none⟩)]] 347 (0,0)) (by simp)))).trans (HBX.out (w4.heap.size+1,.cells #[.func (.func 228) #[] #[.pointer (some ⟨w4.heap.size,0,none⟩)]] 347 (0,0)) (by simp))) 0)
  | (go_at_call 224;refine(cN1.out _ (by first|exact HX5.out.drew|exact HX5.out)).mono ?_;rintro e w5 ⟨v5,rfl,o5,b5,s5⟩;have HO5:Hid (w5.ownsRow X5.heap.size 50 3 v5 (Jae a).length (Jag (Jae a))):=o5;have HB5:Hid (Below X5.heap.size X5 w5):=(by first|exact b5|exact(brf _ X5).drew.trans b5);have HS5:Hid (X5.heap.size+4<=w5.heap.size):=s5;have HW5:Hid (Below w.heap.size w w5):=HX5.out.trans (HB5.out.mono HX5.out.size);obtain⟨pp5,cc5,rfl⟩:=Jad o5;clear o5 b5 s5;have yw5:w5.cell? ⟨w4.heap.size+1,0,none⟩=some (.func (.func 228) #[] #[.pointer (some ⟨w4.heap.size,0,none⟩)]):=chp ((HB5.out.block _ (Jah (HBX.out (w4.heap.size+1,.cells #[.func (.func 228) #[] #[.pointer (some ⟨w4.heap.size,0,none⟩)]] 347 (0,0)) (by simp)))).trans (HBX.out (w4.heap.size+1,.cells #[.func (.func 228) #[] #[.pointer (some ⟨w4.heap.size,0,none⟩)]] 347 (0,0)) (by simp))) 0)
  | fail)
 all_goals (
  go_wp2_with (first
   | (have _:=HG7;go_at_call 266;refine(JfL w3.heap.size S w7 HG7.out HSM.out.1 HSM.out.2).mono ?_;rintro e w8 ⟨v8,rfl,o8,b8⟩)
   | fail)
  obtain⟨p8,c8,rfl⟩:=Jad o8
  go_ret2
  exact⟨_,rfl,Jfl HW6.out.size o8,(HW6.out.trans (HB7.out.mono HB3.out.size)).trans (b8.below.mono HB3.out.size)⟩)
theorem Jqp(v1 v2:Value)(a b:List Pt)(w:World)(hT:Lib.Utf8Tabs 2 3 w)(h1:opAt w v1 a)(h2:opAt w v2 b)(w1:∀p∈a,wfP p)(w2:∀p∈b,wfP p)(f1:fineP a)(f2:fineP b)(he:Jch a b=0)(hl:(Ja9 b).1=(Ja9 a).1) :
    Calls Tryz.prog 187 #[v1,v2,.bool false] w fun e w'=>∃v',e=.returned (.tuple #[v',.nilIface])/\opN w.heap.size w' v' (JaC (Jba false a b))/\Below w.heap.size w w':=by
 have cB:Hid _:=JbQ v1 v2 a b w hT h1 h2 w1 w2 f1.len f2.len;have hV:errV (Jch a b)=.nilIface:=by unfold errV;rw[if_pos he]
 rw[hV]at cB;have cL1:Hid (∀wx,Below w.heap.size w wx->Calls Tryz.prog 120 #[v1] wx fun e w'=>e=.returned (.tuple #[.int .i64 (Ja9 a).1,.int .i64 (Ja9 a).2])/\Below wx.heap.size wx w'):=fun wx hb=>Jcg v1 a wx (JaR h1 hb) f1.len
 have cL2:Hid (∀wx,Below w.heap.size w wx->Calls Tryz.prog 120 #[v2] wx fun e w'=>e=.returned (.tuple #[.int .i64 (Ja9 b).1,.int .i64 (Ja9 b).2])/\Below wx.heap.size wx w'):=fun wx hb=>Jcg v2 b wx (JaR h2 hb) f2.len
 have cN1:Hid (∀wx,Below w.heap.size w wx->Calls Tryz.prog 224 #[v2] wx fun e w'=>∃v',e=.returned v'/\w'.ownsRow wx.heap.size 50 3 v' (Jae b).length (Jag (Jae b))/\Below wx.heap.size wx w'/\wx.heap.size+4<=w'.heap.size):=fun wx hb=>Jeb v2 b wx (JaR h2 hb) (JaS f2.one) (by have:=f2.w;omega) f2.len
 have cN2:Hid (∀wx,Below w.heap.size w wx->Calls Tryz.prog 224 #[v1] wx fun e w'=>∃v',e=.returned v'/\w'.ownsRow wx.heap.size 50 3 v' (Jae a).length (Jag (Jae a))/\Below wx.heap.size wx w'/\wx.heap.size+4<=w'.heap.size):=fun wx hb=>Jeb v1 a wx (JaR h1 hb) (JaS f1.one) (by have:=f1.w;omega) f1.len
 obtain⟨n1,n2,n3,n4⟩:=JcI f1;obtain⟨m1,m2,m3,m4⟩:=JcI f2;have hmeas:Jc5 Jaa (Jae b)=Jc5 Jaa (Jae a):=by
  have e1:=(Jc1 f1).1;have e2:=(Jc1 f1).2;have e3:=(Jc1 f2).1;rw[JdI _ (fun p hp=>(n1 p hp).1),JdI _ (fun p hp=>(m1 p hp).1)];omega
 obtain⟨hSd,hok,hpw,hln⟩:=Jhn Jdh Jdh (Jai (Jae b)+Jai (Jae a)) (Jae b) (Jae a) m1 n1 hmeas (nlr _);have hBd:BdS (fun x=>Jbl (x.2,x.1)) (Ja8 Jaa Jaa (Jai (Jae b)+Jai (Jae a)) (Jae b) (Jae a)) nst0 0 0:=JpS Jip hok (by rw[hpw];omega) (by omega);have HSD:Hid (Side Jaa Jaa (Jae b) (Jae a) (Ja8 Jaa Jaa (Jai (Jae b)+Jai (Jae a)) (Jae b) (Jae a))):=hSd;have HBD:Hid (BdS (fun x=>Jbl (x.2,x.1)) (Ja8 Jaa Jaa (Jai (Jae b)+Jai (Jae a)) (Jae b) (Jae a)) nst0 0 0):=hBd;have hS:runS (fun x=>Jbl (x.2,x.1)) (Ja8 Jaa Jaa (Jai (Jae b)+Jai (Jae a)) (Jae b) (Jae a)) nst0=Jba false a b:=rfl;have HSM:Hid _:=Jhp hBd;rw[hS]at HSM;obtain⟨S,hSe⟩:∃S,Jba false a b=S:=⟨_,rfl⟩;rw[hSe]at HSM ⊢;have HS:Hid (runS (fun x=>Jbl (x.2,x.1)) (Ja8 Jaa Jaa (Jai (Jae b)+Jai (Jae a)) (Jae b) (Jae a)) nst0=S):=hSe;rw[hl]at cL2;generalize (Ja9 a).1=A1 at *;generalize (Ja9 a).2=A2 at *;generalize (Ja9 b).2=B2 at *;obtain⟨p1,c1,rfl,_⟩:=h1;obtain⟨p2,c2,rfl,_⟩:=h2;clear hT w1 w2 f1 f2 he hV hSd hBd hok hpw hln hmeas hS hSe n1 n2 n3 n4 m1 m2 m3 m4 hl
 go_enter Tryz.func187,Tryz.ntmps187
 go_wp2_with (first
  | (have _:=HG4;go_at_call 9999)
  | (have _:=HB2;go_at_call 120;refine(cL2.out _ HB2.out).mono ?_;rintro e w3 ⟨rfl,hb3⟩;have HB3:=hdz (HB2.out.trans (hb3.mono HB2.out.size));clear hb3)
  | (go_at_call 120;refine(cL1.out _ HB1.out).mono ?_;rintro e w2 ⟨rfl,hb2⟩;have HB2:=hdz (HB1.out.trans (hb2.mono HB1.out.size));clear hb2)
  | (go_at_call 221;refine Calls.mono cB.out ?_;rintro e w1 ⟨rfl,hb1⟩;have HB1:=hdz hb1;clear hb1)
  | (have _:=HB3;go_at_call 222;refine(JeU w3).mono ?_;rintro e w4 ⟨rfl,hG4,hz4,hb4⟩;have HG4:Hid (∀M w2,Below w4.heap.size w4 w2->w3.heap.size+4<=M->M<=w2.heap.size->gath M w2 w3.heap.size nst0):=hG4;have HZ4:Hid (w4.heap.size=w3.heap.size+4):=hz4;have HB4:=hdz (HB3.out.trans (hb4.mono HB3.out.size));clear hG4 hz4 hb4)
  | fail)
 obtain⟨X5,hX5⟩:∃X,X=((w4.alloc (.cells #[.func (.func 265) #[] #[.pointer (some ⟨w3.heap.size+1,0,none⟩),.pointer (some ⟨w3.heap.size+2,0,none⟩),.pointer (some ⟨w3.heap.size+3,0,none⟩),.pointer (some ⟨w3.heap.size,0,none⟩)]] 342)).alloc (.cells #[.func (.func 228) #[] #[.pointer (some ⟨w4.heap.size,0,none⟩)]] 347)):=⟨_,rfl⟩;rw[←hX5];have H45:Hid (Below w4.heap.size w4 X5):=by rw[hX5];exact((brf _ _).alloc (nlr _) _).alloc (by simp) _
 have HX5:Hid (Below w.heap.size w X5):=HB4.out.trans (H45.out.mono HB4.out.size)
 have HBX:Hid (Jdb [(w4.heap.size,.cells #[addV w3.heap.size] 342 (0,0)),(w4.heap.size+1,.cells #[.func (.func 228) #[] #[.pointer (some ⟨w4.heap.size,0,none⟩)]] 347 (0,0))] X5):=by
  intro x hx;simp only[List.mem_cons,List.not_mem_nil,or_false]at hx;rw[hX5]
  rcases hx with rfl|rfl
  . exact(heap_alloc_old _ _ (by simp)).trans (heap_alloc_new _ _)
  . have:=heap_alloc_new (w4.alloc (.cells #[.func (.func 265) #[] #[.pointer (some ⟨w3.heap.size+1,0,none⟩),.pointer (some ⟨w3.heap.size+2,0,none⟩),.pointer (some ⟨w3.heap.size+3,0,none⟩),.pointer (some ⟨w3.heap.size,0,none⟩)]] 342)) (.cells #[.func (.func 228) #[] #[.pointer (some ⟨w4.heap.size,0,none⟩)]] 347)
    rwa[World.size_alloc]at this
 have HKX:Hid (∀x∈([(w4.heap.size,.cells #[addV w3.heap.size] 342 (0,0)),(w4.heap.size+1,.cells #[.func (.func 228) #[] #[.pointer (some ⟨w4.heap.size,0,none⟩)]] 347 (0,0))]:List (Nat×Obj)),w3.heap.size+4<=x.1/\(∀c fz,x.2≠.cells c 5 fz)/\∀c fz,x.2≠.cells c 50 fz):=by
  intro x hx;simp only[List.mem_cons,List.not_mem_nil,or_false]at hx;rcases hx with rfl|rfl<;>exact⟨by have:=HZ4.out;simp only;omega,fun c fz e=>(by cases e),fun c fz e=>(by cases e)⟩
 clear hX5;refine(cN1.out _ HX5.out).mono ?_
 rintro e w5 ⟨v5,rfl,o5,b5,s5⟩;have HO5:Hid (w5.ownsRow X5.heap.size 50 3 v5 (Jae b).length (Jag (Jae b))):=o5;have HB5:Hid (Below X5.heap.size X5 w5):=(by first | exact b5 | exact(brf _ X5).drew.trans b5);have HS5:Hid (X5.heap.size+4<=w5.heap.size):=s5;have HW5:Hid (Below w.heap.size w w5):=HX5.out.trans (HB5.out.mono HX5.out.size);obtain⟨pp5,cc5,rfl⟩:=Jad o5;clear o5 b5 s5
 go_wp2_with (first
  | (have _:=HG7;go_at_call 266;refine(JfL w3.heap.size S w7 HG7.out HSM.out.1 HSM.out.2).mono ?_;rintro e w8 ⟨v8,rfl,o8,b8⟩)
  | (have _:=HO6;go_at_call 223;obtain⟨g1,g2,hI,ho,i1,i2,i3,i4,i5⟩:=JfZ [(w4.heap.size,.cells #[addV w3.heap.size] 342 (0,0)),(w4.heap.size+1,.cells #[.func (.func 228) #[] #[.pointer (some ⟨w4.heap.size,0,none⟩)]] 347 (0,0))] HG4.out HZ4.out HBX.out HKX.out H45.out HO5.out HB5.out HS5.out HO6.out HB6.out HS6.out;refine(Jnr _ _ g1 g2 (w4.heap.size+1) [(w4.heap.size,.cells #[addV w3.heap.size] 342 (0,0)),(w4.heap.size+1,.cells #[.func (.func 228) #[] #[.pointer (some ⟨w4.heap.size,0,none⟩)]] 347 (0,0))] _ _ _ _ _ nst0 w6 hI HSD.out HBD.out ho i1 i2 i3 i4 i5 (fun s x T n W hg hbx hB hS hT hn=>Jou _ _ w4.heap.size _ s x.1 x.2 W hg (hbx (w4.heap.size,.cells #[addV w3.heap.size] 342 (0,0)) (by simp)) (hbx (w4.heap.size+1,.cells #[.func (.func 228) #[] #[.pointer (some ⟨w4.heap.size,0,none⟩)]] 347 (0,0)) (by simp)) hB hS hT hn)).mono ?_;rintro e w7 ⟨⟨v7,rfl⟩,hg7,hx7,hb7⟩;rw[HS.out]at hg7;have HG7:Hid (gath w6.heap.size w7 w3.heap.size S):=hg7;have HB7:=hdz hb7;clear hI ho i1 i2 i3 i4 i5 hg7 hx7 hb7)
  | (have _:=HO5;go_at_call 224;refine(cN2.out _ HW5.out).mono ?_;rintro e w6 ⟨v6,rfl,o6,b6,s6⟩;have HO6:Hid (w6.ownsRow w5.heap.size 50 3 v6 (Jae a).length (Jag (Jae a))):=o6;have HB6:=hdz b6;have HS6:Hid (w5.heap.size+4<=w6.heap.size):=s6;have HW6:Hid (Below w.heap.size w w6):=HW5.out.trans (HB6.out.mono HW5.out.size);have HB56:Hid (Below X5.heap.size X5 w6):=HB5.out.trans (HB6.out.mono HB5.out.size);obtain⟨pp6,cc6,rfl⟩:=Jad o6;clear o6 b6 s6)
  | fail)
 obtain⟨p8,c8,rfl⟩:=Jad o8
 go_ret2
 exact⟨_,rfl,Jfl HW6.out.size o8,(HW6.out.trans (HB7.out.mono HB3.out.size)).trans (b8.below.mono HB3.out.size)⟩
theorem JnK(v1 v2:Value)(a b:List Pt)(w:World)(hT:Lib.Utf8Tabs 2 3 w)(h1:opAt w v1 a)(h2:opAt w v2 b)(w1:∀p∈a,wfP p)(w2:∀p∈b,wfP p)(f1:fineP a)(f2:fineP b)(he:Jch a b=0)(hl:(Ja9 b).1=(Ja9 a).2) :
    Calls Tryz.prog 182 #[v1,v2] w fun e w'=>∃v',e=.returned (.tuple #[v',.nilIface])/\opN w.heap.size w' v' (JaC (JgF a b))/\Below w.heap.size w w':=by
 have cB:Hid _:=JbQ v1 v2 a b w hT h1 h2 w1 w2 f1.len f2.len;have hV:errV (Jch a b)=.nilIface:=by unfold errV;rw[if_pos he]
 rw[hV]at cB;have cL1:Hid (∀wx,Below w.heap.size w wx->Calls Tryz.prog 120 #[v1] wx fun e w'=>e=.returned (.tuple #[.int .i64 (Ja9 a).1,.int .i64 (Ja9 a).2])/\Below wx.heap.size wx w'):=fun wx hb=>Jcg v1 a wx (JaR h1 hb) f1.len
 have cL2:Hid (∀wx,Below w.heap.size w wx->Calls Tryz.prog 120 #[v2] wx fun e w'=>e=.returned (.tuple #[.int .i64 (Ja9 b).1,.int .i64 (Ja9 b).2])/\Below wx.heap.size wx w'):=fun wx hb=>Jcg v2 b wx (JaR h2 hb) f2.len
 have cN1:Hid (∀wx,Below w.heap.size w wx->Calls Tryz.prog 224 #[v1] wx fun e w'=>∃v',e=.returned v'/\w'.ownsRow wx.heap.size 50 3 v' (Jae a).length (Jag (Jae a))/\Below wx.heap.size wx w'/\wx.heap.size+4<=w'.heap.size):=fun wx hb=>Jeb v1 a wx (JaR h1 hb) (JaS f1.one) (by have:=f1.w;omega) f1.len
 have cN2:Hid (∀wx,Below w.heap.size w wx->Calls Tryz.prog 224 #[v2] wx fun e w'=>∃v',e=.returned v'/\w'.ownsRow wx.heap.size 50 3 v' (Jae b).length (Jag (Jae b))/\Below wx.heap.size wx w'/\wx.heap.size+4<=w'.heap.size):=fun wx hb=>Jeb v2 b wx (JaR h2 hb) (JaS f2.one) (by have:=f2.w;omega) f2.len
 obtain⟨n1,n2,n3,n4⟩:=JcI f1;obtain⟨m1,m2,m3,m4⟩:=JcI f2;have hmeas:Jc5 JaE (Jae a)=Jc5 Jaa (Jae b):=by
  have e1:=(Jc1 f1).1;have e2:=(Jc1 f1).2;have e3:=(Jc1 f2).1;rw[JdI _ (fun p hp=>(m1 p hp).1),Jk6 _ (fun p hp=>(n1 p hp).1)];omega
 obtain⟨hSd,hok,hpw,hln⟩:=Jhn Jps Jdh (Jai (Jae a)+Jai (Jae b)) (Jae a) (Jae b) n1 m1 hmeas (nlr _);have hBd:BdS JbI (Ja8 JaE Jaa (Jai (Jae a)+Jai (Jae b)) (Jae a) (Jae b)) nst0 0 0:=JpS Jo6 hok (by rw[hpw];omega) (by omega);have HSD:Hid (Side JaE Jaa (Jae a) (Jae b) (Ja8 JaE Jaa (Jai (Jae a)+Jai (Jae b)) (Jae a) (Jae b))):=hSd;have HBD:Hid (BdS JbI (Ja8 JaE Jaa (Jai (Jae a)+Jai (Jae b)) (Jae a) (Jae b)) nst0 0 0):=hBd;have hS:runS JbI (Ja8 JaE Jaa (Jai (Jae a)+Jai (Jae b)) (Jae a) (Jae b)) nst0=JgF a b:=rfl;have HSM:Hid _:=Jhp hBd;rw[hS]at HSM;obtain⟨S,hSe⟩:∃S,JgF a b=S:=⟨_,rfl⟩;rw[hSe]at HSM ⊢;have HS:Hid (runS JbI (Ja8 JaE Jaa (Jai (Jae a)+Jai (Jae b)) (Jae a) (Jae b)) nst0=S):=hSe;rw[hl]at cL2;generalize (Ja9 a).1=A1 at *;generalize (Ja9 a).2=A2 at *;generalize (Ja9 b).2=B2 at *;obtain⟨p1,c1,rfl,_⟩:=h1;obtain⟨p2,c2,rfl,_⟩:=h2;clear hT w1 w2 f1 f2 he hV hSd hBd hok hpw hln hmeas hS hSe n1 n2 n3 n4 m1 m2 m3 m4 hl
 go_enter Tryz.func182,Tryz.ntmps182
 go_wp2_with (first
  | (have _:=HG4;go_at_call 9999)
  | (have _:=HB2;go_at_call 120;refine(cL2.out _ HB2.out).mono ?_;rintro e w3 ⟨rfl,hb3⟩;have HB3:=hdz (HB2.out.trans (hb3.mono HB2.out.size));clear hb3)
  | (go_at_call 120;refine(cL1.out _ HB1.out).mono ?_;rintro e w2 ⟨rfl,hb2⟩;have HB2:=hdz (HB1.out.trans (hb2.mono HB1.out.size));clear hb2)
  | (go_at_call 221;refine Calls.mono cB.out ?_;rintro e w1 ⟨rfl,hb1⟩;have HB1:=hdz hb1;clear hb1)
  | (have _:=HB3;go_at_call 222;refine(JeU w3).mono ?_;rintro e w4 ⟨rfl,hG4,hz4,hb4⟩;have HG4:Hid (∀M w2,Below w4.heap.size w4 w2->w3.heap.size+4<=M->M<=w2.heap.size->gath M w2 w3.heap.size nst0):=hG4;have HZ4:Hid (w4.heap.size=w3.heap.size+4):=hz4;have HB4:=hdz (HB3.out.trans (hb4.mono HB3.out.size));clear hG4 hz4 hb4)
  | fail)
 obtain⟨X5,hX5⟩:∃X,X=(w4.alloc (.cells #[.func (.func 265) #[] #[.pointer (some ⟨w3.heap.size+1,0,none⟩),.pointer (some ⟨w3.heap.size+2,0,none⟩),.pointer (some ⟨w3.heap.size+3,0,none⟩),.pointer (some ⟨w3.heap.size,0,none⟩)]] 342)):=⟨_,rfl⟩;rw[←hX5];have H45:Hid (Below w4.heap.size w4 X5):=by rw[hX5];exact(brf _ _).alloc (nlr _) _
 have HX5:Hid (Below w.heap.size w X5):=HB4.out.trans (H45.out.mono HB4.out.size);have HBX:Hid (Jdb [(w4.heap.size,.cells #[addV w3.heap.size] 342 (0,0))] X5):=by
  intro x hx;simp only[List.mem_singleton]at hx;subst hx;rw[hX5];exact heap_alloc_new _ _
 have HKX:Hid (∀x∈([(w4.heap.size,.cells #[addV w3.heap.size] 342 (0,0))]:List (Nat×Obj)),w3.heap.size+4<=x.1/\(∀c fz,x.2≠.cells c 5 fz)/\∀c fz,x.2≠.cells c 50 fz):=by
  intro x hx;simp only[List.mem_singleton]at hx;subst hx;exact⟨by have:=HZ4.out;omega,fun c fz e=>(by cases e),fun c fz e=>(by cases e)⟩
 clear hX5;refine(cN1.out _ HX5.out).mono ?_
 rintro e w5 ⟨v5,rfl,o5,b5,s5⟩;have HO5:Hid (w5.ownsRow X5.heap.size 50 3 v5 (Jae a).length (Jag (Jae a))):=o5;have HB5:Hid (Below X5.heap.size X5 w5):=(by first | exact b5 | exact(brf _ X5).drew.trans b5);have HS5:Hid (X5.heap.size+4<=w5.heap.size):=s5;have HW5:Hid (Below w.heap.size w w5):=HX5.out.trans (HB5.out.mono HX5.out.size);obtain⟨pp5,cc5,rfl⟩:=Jad o5;clear o5 b5 s5
 go_wp2_with (first
  | (have _:=HG7;go_at_call 266;refine(JfL w3.heap.size S w7 HG7.out HSM.out.1 HSM.out.2).mono ?_;rintro e w8 ⟨v8,rfl,o8,b8⟩)
  | (have _:=HO6;go_at_call 223;obtain⟨g1,g2,hI,ho,i1,i2,i3,i4,i5⟩:=JfZ [(w4.heap.size,.cells #[addV w3.heap.size] 342 (0,0))] HG4.out HZ4.out HBX.out HKX.out H45.out HO5.out HB5.out HS5.out HO6.out HB6.out HS6.out;refine(JoH _ _ g1 g2 w4.heap.size [(w4.heap.size,.cells #[addV w3.heap.size] 342 (0,0))] _ _ _ _ _ nst0 w6 hI HSD.out HBD.out ho i1 i2 i3 i4 i5 (fun s x T n W hg hbx hB hS hT hn=>Jru _ _ _ s x.1 x.2 W hg (hbx (w4.heap.size,.cells #[addV w3.heap.size] 342 (0,0)) (by simp)) hB hS hT hn)).mono ?_;rintro e w7 ⟨⟨v7,rfl⟩,hg7,hx7,hb7⟩;rw[HS.out]at hg7;have HG7:Hid (gath w6.heap.size w7 w3.heap.size S):=hg7;have HB7:=hdz hb7;clear hI ho i1 i2 i3 i4 i5 hg7 hx7 hb7)
  | (have _:=HO5;go_at_call 224;refine(cN2.out _ HW5.out).mono ?_;rintro e w6 ⟨v6,rfl,o6,b6,s6⟩;have HO6:Hid (w6.ownsRow w5.heap.size 50 3 v6 (Jae b).length (Jag (Jae b))):=o6;have HB6:=hdz b6;have HS6:Hid (w5.heap.size+4<=w6.heap.size):=s6;have HW6:Hid (Below w.heap.size w w6):=HW5.out.trans (HB6.out.mono HW5.out.size);have HB56:Hid (Below X5.heap.size X5 w6):=HB5.out.trans (HB6.out.mono HB5.out.size);obtain⟨pp6,cc6,rfl⟩:=Jad o6;clear o6 b6 s6)
  | fail)
 obtain⟨p8,c8,rfl⟩:=Jad o8
 go_ret2
 exact⟨_,rfl,Jfl HW6.out.size o8,(HW6.out.trans (HB7.out.mono HB3.out.size)).trans (b8.below.mono HB3.out.size)⟩
end
section
variable {a b l t : List UInt8}{p : Pt}{ps : List Pt}
def V (l:List UInt8):Prop:=∃rs:List Nat,(∀r∈rs,Jaw r)/\l=encs rs
theorem Jdk:V []:=⟨[],by simp,rfl⟩
theorem Jdl(ha:V a)(hb:V b):V (a++b):=by
 obtain⟨x,hx,rfl⟩:=ha;obtain⟨y,hy,rfl⟩:=hb;exact⟨x++y,fun r hr=>(List.mem_append.1 hr).elim (hx r) (hy r),(Jc6 x y).symm⟩
theorem Jjc(h:V l):(scan l).2=true:=by
 obtain⟨x,hx,rfl⟩:=h;rw[Jcx x hx]
theorem JfQ(h:(scan l).2=true):V l:=⟨Jal l,fun r hr=>JcW hr,(Jcm h).symm⟩
theorem Jqc(ha:V a)(hab:V (a++b)):V b:=by
 obtain⟨rs,hr,rfl⟩:=ha
 induction rs generalizing b with
 | nil=>exact hab
 | cons r rs ih =>
  obtain⟨qs,hq,e⟩:=hab;rw[Jc2,List.append_assoc]at e;have h1:=JhD (hr r (by simp)) (encs rs++b)
  cases qs with
  | nil =>
   have:=congrArg List.length e;have h2:=List.length_pos_iff.2 (JmS r);have h3:(encs []).length=0:=rfl;rw[List.length_append]at this;omega
  | cons q qs =>
   rw[Jc2]at e;have h2:=JhD (hq q (by simp)) (encs qs);rw[←e,h1.1]at h2;obtain⟨h2,_⟩:=h2;obtain rfl:r=q:=congrArg Prod.fst h2;exact ih (fun x hx=>hr x (by simp[hx])) ⟨qs,fun x hx=>hq x (by simp[hx]),List.append_cancel_left e⟩
theorem V_start{b:UInt8}(h:V (b :: l)):Jis b=true:=by
 obtain⟨rs,hr,e⟩:=h
 cases rs with
 | nil=>simp[encs]at e
 | cons r rs =>
  obtain⟨b0,t,e2,h1,_⟩:=JiI (hr r (by simp));rw[Jc2,e2,List.cons_append]at e;have:b=b0:=(List.cons.inj e).1;rw[this];exact h1
theorem JrW{n:Nat}(hl:V l)(hn:V (l.take n)):V (l.drop n):=Jqc hn (by rw[List.take_append_drop];exact hl)
def al:List Pt->List UInt8->Prop
 | [],_=>True
 | p :: ps,t=>V p.put/\V (t.take (lenP p).toNat)/\al ps (t.drop (lenP p).toNat)
structure good (ps:List Pt) (t:List UInt8):Prop where
 one:∀p∈ps,oneP p
 long:Jar ps=t.length
 al:al ps t
theorem Jbt(p:Pt)(ps:List Pt):Jar (p :: ps)=lenP p+Jar ps:=by simp[Jar]
theorem Jhu(h:oneP p):0<=lenP p:=by
 rcases h with ⟨h1,h2,h3⟩|⟨h1,h2,h3⟩|⟨h1,h2,h3⟩<;>simp only[lenP]<;>omega
theorem JfA(h:∀p∈ps,oneP p):0<=Jar ps:=by
 induction ps with
 | nil=>simp[Jar]
 | cons p ps ih =>
  have h1:=ih fun q hq=>h q (by simp[hq])
  have h2:=Jhu (h p (by simp));rw[Jbt];omega
theorem oneB_of(h:oneP p):oneB p=true:=by
 unfold oneB;obtain⟨K,D,U⟩:=p
 rcases h with ⟨h1,h2,h3⟩|⟨h1,h2,h3⟩|⟨h1,h2,h3⟩
 . obtain rfl:D=0:=h2
   obtain rfl:U=[]:=h3;simp;exact h1
 . obtain rfl:K=0:=h1
   obtain rfl:U=[]:=h3;have h2:0<D:=h2;have:D≠0:=by omega
   simp[this];exact h2
 . obtain rfl:K=0:=h1
   obtain rfl:D=0:=h2;have h3:U≠[]:=h3;simp[h3]
theorem JrP{n:Int}(h1:∀p∈ps,oneP p)(h2:∀p∈ps,V p.put)(h3:Jar ps=n):chkE ps n=0:=by
 have e1:chk1 ps=0:=by
  clear h3
  induction ps with
  | nil=>rfl
  | cons p ps ih =>
   rw[chk1,if_pos (oneB_of (h1 p (by simp))),if_pos (Jjc (h2 p (by simp)))];exact ih (fun q hq=>h1 q (by simp[hq])) fun q hq=>h2 q (by simp[hq])
 unfold chkE;rw[if_pos e1];clear e1 h2
 induction ps generalizing n with
 | nil=>simp[Jar]at h3;simp[chk2,←h3]
 | cons p ps ih =>
  rw[Jbt]at h3;have h4:=JfA fun q hq=>h1 q (List.mem_cons_of_mem _ hq)
  have h5:p.keep+p.drop=lenP p:=rfl;rw[chk2,if_neg (by omega)];exact ih (fun q hq=>h1 q (by simp[hq])) (by omega)
theorem Jmt:∀{ps:List Pt}{t:List UInt8},al ps t->∀p∈ps,V p.put
 | [],_,_,p,hp=>by cases hp
 | q :: ps,t,h,p,hp=>by
  rcases List.mem_cons.1 hp with rfl|hp
  . exact h.1
  . exact Jmt h.2.2 p hp
theorem JrS:∀{ps:List Pt}{t:List UInt8},al ps t->badO ps t=false
 | [],_,_=>rfl
 | p :: ps,t,h=>by
  rw[badO,JrS h.2.2,Bool.or_false];have:=h.2.1;generalize t.take (lenP p).toNat=l at this
  cases l with
  | nil=>rfl
  | cons b l=>simp[Jcf,V_start this]
theorem good.chk(h:good ps t):chkE ps (t.length:Int)=0:=JrP h.one (Jmt h.al) h.long
theorem good.ord(h:good ps t):ordE ps t=0:=by
 unfold ordE;rw[if_pos h.chk,JrS h.al];rfl
theorem Jds(p:Pt)(ps:List Pt)(t:List UInt8):Jab (p :: ps) t=JcO (p,t.take (lenP p).toNat)++Jab ps (t.drop (lenP p).toNat):=rfl
theorem Jgs:∀{ps:List Pt}{t:List UInt8},al ps t->V (Jab ps t)
 | [],_,_=>Jdk
 | p :: ps,t,h=>by
  rw[Jds];refine Jdl ?_ (Jgs h.2.2);unfold JcO;refine Jdl ?_ h.1
  split
  . exact h.2.1
  . exact Jdk
theorem Jc3(u:List UInt8)(ps:List Pt)(t:List UInt8):Jab (⟨0,0,u⟩ :: ps) t=u++Jab ps t:=by
 simp[Jds,JcO,lenP]
theorem Joc(n:Int)(hn:0<n)(ps:List Pt)(t:List UInt8):Jab (⟨n,0,[]⟩ :: ps) t=t.take n.toNat++Jab ps (t.drop n.toNat):=by
 simp[Jds,JcO,lenP,hn]
theorem Jod(n:Int)(ps:List Pt)(t:List UInt8):Jab (⟨0,n,[]⟩ :: ps) t=Jab ps (t.drop n.toNat):=by
 simp[Jds,JcO,lenP]
def actA (x:List UInt8×List UInt8) (p:Pt):List UInt8×List UInt8:=(x.1++(p.put++(x.2.drop p.drop.toNat).take p.keep.toNat),(x.2.drop p.drop.toNat).drop p.keep.toNat)
theorem JjR:ActP actA:=by
 constructor
 . intro x;simp[actA]
 . intro x u v;simp[actA]
 . intro x a b ha hb
   simp only[actA,Int.toNat_zero,List.take_zero,List.append_nil,List.drop_drop,Nat.add_zero];rw[show a.toNat+b.toNat=(a+b).toNat by omega]
 . intro x a b ha hb
   simp only[actA,List.nil_append,Int.toNat_zero,List.drop_zero,List.drop_drop,List.append_assoc];rw[show(a+b).toNat=a.toNat+b.toNat by omega,List.take_add];simp only[Nat.add_zero]
 . intro x k d u;simp[actA]
 . intro x d u;simp[actA]
theorem Jfa:∀(ps:List Pt),(∀p∈ps,oneP p)->∀(o t:List UInt8),ps.foldl actA (o,t)=(o++Jab ps t,t.drop (Jar ps).toNat)
 | [],_,o,t=>by simp[Jab,pcs,Jar]
 | p :: ps,h,o,t=>by
  have h0:=JfA fun q hq=>h q (List.mem_cons_of_mem _ hq)
  rw[List.foldl_cons,actA,Jfa ps fun q hq=>h q (by simp[hq])];rw[Jbt]
  rcases Jk5 (h p (by simp)) with ⟨u,hu,rfl⟩|⟨m,rfl⟩|⟨m,rfl⟩
  . rw[Jc3];simp[lenP]
  . rw[Joc _ (by omega)]
    simp only[lenP,Int.toNat_zero,List.drop_zero,List.nil_append,List.append_assoc,List.drop_drop];rw[show((m:Int)+1+0+Jar ps).toNat=((m:Int)+1).toNat+(Jar ps).toNat by omega]
  . rw[Jod]
    simp only[lenP,Int.toNat_zero,List.append_nil,List.take_zero,List.drop_drop,Nat.add_zero];rw[show(0+((m:Int)+1)+Jar ps).toNat=((m:Int)+1).toNat+(Jar ps).toNat by omega]
def Cut (E:Int->Prop):Int->List Pt->Prop
 | i,[]=>E i
 | i,p :: ps=>E i/\Cut E (i+lenP p) ps
theorem JjS{E:Int->Prop}{i:Int}{ps:List Pt}(h:Cut E i ps):E i:=by
 cases ps with
 | nil=>exact h
 | cons p ps=>exact h.1
theorem Jdt(E:Int->Prop):∀(a b:List Pt)(i:Int),Cut E i (a++b)↔Cut E i a/\Cut E (i+Jar a) b
 | [],b,i=>by
  simp only[List.nil_append,Jar,List.map_nil,List.sum_nil,Int.add_zero];exact⟨fun h=>⟨JjS h,h⟩,fun h=>h.2⟩
 | p :: a,b,i=>by
  rw[List.cons_append,Jbt,←Int.add_assoc];show(E i/\Cut E (i+lenP p) (a++b))↔(E i/\Cut E (i+lenP p) a)/\_;rw[Jdt E a b,and_assoc]
theorem Jqe{E:Int->Prop}{i:Int}{ps:List Pt}(h:Cut E i ps):E (i+Jar ps):=by
 have:=(Jdt E ps [] i).1 (by rw[List.append_nil];exact h);exact this.2
structure CutS (E:Int->Prop) (s:NSt):Prop where
 out:Cut E 0 s.out
 here:E (Jfb s)
 puts:∀p∈s.out,V p.put
 put:V s.put
 one:OneS s
theorem JfM{E:Int->Prop}{s:NSt}(h:CutS E s):Cut E 0 (JaC s)/\∀p∈JaC s,V p.put:=by
 have h1:=Jqe h.out;rw[Int.zero_add]at h1;have h2:=h.here;unfold Jfb at h2;unfold JaC;refine⟨(Jdt ..).2 ⟨h.out,?_⟩,?_⟩
 . rw [Int.zero_add]
   have key:Cut E (Jar s.out) (if s.drop=0 then [] else [⟨0,s.drop,[]⟩]):=by
    split
    . exact h1
    . refine⟨h1,?_⟩
      show E (Jar s.out+(0+s.drop));rw[Int.zero_add];exact h2
   split
   . exact key
   . refine⟨h1,?_⟩
     show Cut E (Jar s.out+(0+0)) _;rw[Int.zero_add,Int.add_zero];exact key
 . intro p hp
   rcases List.mem_append.1 hp with hp|hp
   . exact h.puts p hp
   . rcases List.mem_append.1 hp with hp | hp
     . split at hp
       . cases hp
       . rw[List.mem_singleton.1 hp];exact h.put
     . split at hp
       . cases hp
       . rw[List.mem_singleton.1 hp];exact Jdk
theorem Jrn{E:Int->Prop}{l:List Pt}{k:Int}(h:Cut E 0 l)(hk:E (Jar l+k)):Cut E 0 (Jbi l k):=by
 have hnew:Cut E 0 (l++[⟨k,0,[]⟩]):=by
  refine(Jdt ..).2 ⟨h,Jqe h,?_⟩;show E (0+Jar l+(k+0));rw[Int.zero_add,Int.add_zero];exact hk
 unfold Jbi
 cases hq:l.getLast? with
 | none=>exact hnew
 | some q =>
  simp only
  split
  . obtain⟨m,rfl⟩:=List.getLast?_eq_some_iff.1 hq
    obtain⟨h1,h2⟩:=(Jdt ..).1 h;rw[List.dropLast_concat];refine(Jdt ..).2 ⟨h1,h2.1,?_⟩;have e:Jar (m++[q])=Jar m+lenP q:=by simp[Jar]
    rw[e]at hk;show E (0+Jar m+(q.keep+k+q.drop));have:0+Jar m+(q.keep+k+q.drop)=Jar m+lenP q+k:=by unfold lenP;omega
    rw[this];exact hk
  . exact hnew
theorem JoR{l:List Pt}{k:Int}(h:∀p∈l,V p.put):∀p∈Jbi l k,V p.put:=by
 intro p hp;unfold Jbi at hp
 cases hq:l.getLast? with
 | none =>
  rw[hq]at hp;simp only[List.mem_append,List.mem_singleton]at hp
  rcases hp with hp|rfl
  . exact h p hp
  . exact Jdk
 | some q =>
  rw[hq]at hp;simp only at hp
  split at hp
  . simp only[List.mem_append,List.mem_singleton]at hp
    rcases hp with hp|rfl
    . exact h p (List.dropLast_subset l hp)
    . exact h q (List.mem_of_getLast? hq)
  . simp only[List.mem_append,List.mem_singleton]at hp
    rcases hp with hp|rfl
    . exact h p hp
    . exact Jdk
theorem JhE{E:Int->Prop}{s:NSt}(h:CutS E s)(p:Pt)(hk:0<=p.keep)(hd:0<=p.drop)(h1:p.keep=0\/(p.drop=0/\p.put=[]))(hv:V p.put)(he:E (Jfb s+lenP p)):CutS E (addP s p):=by
 have hone:=Jmu h.one p hk hd;have hlong:=JeY s p;refine⟨?_,by rw[hlong];exact he,?_,?_,hone⟩
 . unfold addP
   split
   . exact h.out
   . rename_i h0
     obtain⟨e1,e2⟩:=h1.resolve_left h0;rw[e1,e2,List.append_nil,Int.add_zero];have hk:E (Jar (JaC s)+p.keep):=by
      rw[Jfx];unfold lenP at he;rw[e1,Int.add_zero]at he;exact he
     exact Jrn (JfM h).1 hk
 . unfold addP
   split
   . exact h.puts
   . rename_i h0
     obtain⟨e1,e2⟩:=h1.resolve_left h0;rw[e1,e2,List.append_nil,Int.add_zero];exact JoR (JfM h).2
 . unfold addP
   split
   . exact Jdl h.put hv
   . exact Jdk
theorem JgT(h:oneP p):0<=p.keep/\0<=p.drop/\(p.keep=0\/(p.drop=0/\p.put=[])):=by
 rcases h with ⟨h1,h2,h3⟩|⟨h1,h2,h3⟩|⟨h1,h2,h3⟩
 . exact⟨by omega,by omega,.inr ⟨h2,h3⟩⟩
 . exact⟨by omega,by omega,.inl h1⟩
 . exact⟨by omega,by omega,.inl h1⟩
theorem JmX{E:Int->Prop}:∀(ps:List Pt)(s:NSt),(∀p∈ps,oneP p)->(∀p∈ps,V p.put)->CutS E s->Cut E (Jfb s) ps->CutS E (ps.foldl addP s)
 | [],s,_,_,h,_=>h
 | p :: ps,s,h1,h2,h,hc=>by
  obtain⟨k1,k2,k3⟩:=JgT (h1 p (by simp));have hl:=JeY s p;refine JmX ps (addP s p) (fun q hq=>h1 q (by simp[hq])) (fun q hq=>h2 q (by simp[hq])) (JhE h p k1 k2 k3 (h2 p (by simp)) (JjS hc.2)) ?_
  rw[hl];exact hc.2
def JkG (T:List UInt8) (j:Int):Prop:=V (T.take j.toNat)
theorem JrV{T:List UInt8}:∀{ps:List Pt}{i:Int},0<=i->(∀p∈ps,oneP p)->V (T.take i.toNat)->al ps (T.drop i.toNat)->Cut (JkG T) i ps
 | [],i,_,_,h,_=>h
 | p :: ps,i,h0,h1,h,ha=>by
  have hl:=Jhu (h1 p (by simp));have e:(i+lenP p).toNat=i.toNat+(lenP p).toNat:=by omega
  refine⟨h,JrV (by omega) (fun q hq=>h1 q (by simp[hq])) ?_ ?_⟩
  . rw[e,List.take_add];exact Jdl h ha.2.1
  . rw[e,←List.drop_drop];exact ha.2.2
theorem JrO{T:List UInt8}:∀{ps:List Pt}{i:Int},0<=i->(∀p∈ps,oneP p)->(∀p∈ps,V p.put)->Cut (JkG T) i ps->al ps (T.drop i.toNat)
 | [],i,_,_,_,_=>trivial
 | p :: ps,i,h0,h1,h2,hc=>by
  have hl:=Jhu (h1 p (by simp));have e:(i+lenP p).toNat=i.toNat+(lenP p).toNat:=by omega
  have h3:V (T.take i.toNat):=hc.1;have h4:V (T.take (i+lenP p).toNat):=JjS hc.2;rw[e,List.take_add]at h4;refine⟨h2 p (by simp),Jqc h3 h4,?_⟩;have:=JrO (by omega) (fun q hq=>h1 q (by simp[hq])) (fun q hq=>h2 q (by simp[hq])) hc.2;rw[e,←List.drop_drop]at this;exact this
theorem cut0(T:List UInt8):CutS (JkG T) nst0:=⟨Jdk,Jdk,by simp[nst0],Jdk,⟨by simp[nst0],by simp[nst0]⟩⟩
theorem Jh9{T:List UInt8}{s:NSt}(h:CutS (JkG T) s)(hl:Jfb s=T.length):good (JaC s) T:=by
 refine⟨JgL h.one,by rw[Jfx];exact hl,?_⟩;have:=JrO (i:=0) (by omega) (JgL h.one) (JfM h).2 (JfM h).1;exact this
theorem good.norm(h:good ps t):good (Jae ps) t:=by
 have hc:CutS (JkG t) (ps.foldl addP nst0):=JmX ps nst0 h.one (Jmt h.al) (cut0 t) (JrV (i:=0) (by omega) h.one Jdk h.al);refine Jh9 hc ?_
 rw[JkD];show Jar []+0+Jar ps=_;rw[h.long];simp[Jar]
theorem Jgq(h:∀p∈ps,oneP p)(t:List UInt8):Jab (Jae ps) t=Jab ps t:=by
 have e:=JeZ JjR ps (JaS h) ([],t);rw[Jfa ps h,Jfa _ (JeR ps (JaS h))]at e;simpa using congrArg Prod.fst e
end
section
variable {T D R o x r : List UInt8}{s : NSt}{p : Pt}{ps : List Pt}
structure St (T D R o:List UInt8) (s:NSt):Prop where
 cut:CutS (JkG T) s
 eq:T=D++R
 here:V D
 long:Jfb s=D.length
 act:(JaC s).foldl actA ([],T)=(o,R)
theorem St0(T:List UInt8):St T [] T [] nst0:=⟨cut0 T,rfl,Jdk,by simp[Jfb,nst0,Jar],rfl⟩
theorem St.none(h:St T D R o s):St T D R (o++[]) s:=by rw[List.append_nil];exact h
theorem St.put(h:St T D R o s){u:List UInt8}(hu:V u):St T D R (o++u) (addP s ⟨0,0,u⟩):=by
 have hl:=JeY s ⟨0,0,u⟩;have e0:lenP ⟨0,0,u⟩=0:=rfl;rw[e0,Int.add_zero]at hl;refine⟨JhE h.cut _ (Int.le_refl _) (Int.le_refl _) (.inl rfl) hu ?_,h.eq,h.here,by rw[hl];exact h.long,?_⟩
 . rw[e0,Int.add_zero];exact h.cut.here
 . rw[JjP JjR s _ h.cut.one.drop (Int.le_refl _) (Int.le_refl _),h.act]
   simp[actA]
theorem St.keep(h:St T D (x++R) o s)(hx:V x):St T (D++x) R (o++x) (addP s ⟨x.length,0,[]⟩):=by
 have hl:=JeY s ⟨x.length,0,[]⟩;have e0:lenP ⟨x.length,0,[]⟩=x.length:=by simp[lenP]
 rw[e0]at hl;have h0:(0:Int)<=x.length:=by omega
 refine⟨JhE h.cut _ h0 (Int.le_refl _) (.inr ⟨rfl,rfl⟩) Jdk ?_,by rw[List.append_assoc];exact h.eq,Jdl h.here hx,by rw[hl,h.long,List.length_append];push_cast;rfl,?_⟩
 . rw[e0,h.long]
   unfold JkG;rw[show((D.length:Int)+x.length).toNat=(D++x).length by rw[List.length_append];omega,h.eq,←List.append_assoc,List.take_left']
   . exact Jdl h.here hx
   . rfl
 . rw[JjP JjR s _ h.cut.one.drop h0 (Int.le_refl _),h.act]
   simp[actA]
theorem St.drop{T D R o x:List UInt8}{s:NSt}(h:St T D (x++R) o s)(hx:V x):St T (D++x) R o (addP s ⟨0,x.length,[]⟩):=by
 have hl:=JeY s ⟨0,x.length,[]⟩;have e0:lenP ⟨0,x.length,[]⟩=x.length:=by simp[lenP]
 rw[e0]at hl;have h0:(0:Int)<=x.length:=by omega
 refine⟨JhE h.cut _ (Int.le_refl _) h0 (.inl rfl) Jdk ?_,by rw[List.append_assoc];exact h.eq,Jdl h.here hx,by rw[hl,h.long,List.length_append];push_cast;rfl,?_⟩
 . rw[e0,h.long]
   unfold JkG;rw[show((D.length:Int)+x.length).toNat=(D++x).length by rw[List.length_append];omega,h.eq,←List.append_assoc,List.take_left']
   . exact Jdl h.here hx
   . rfl
 . rw[JjP JjR s _ h.cut.one.drop (Int.le_refl _) h0,h.act]
   simp[actA]
theorem St.full(h:St T D [] o s):St T T [] o s:=by
 have e:=h.eq;rw[List.append_nil]at e;subst e;exact h
theorem St.good{T o:List UInt8}{s:NSt}(h:St T T [] o s):good (JaC s) T/\Jab (JaC s) T=o:=by
 have hg:=Jh9 h.cut h.long;refine⟨hg,?_⟩;have e:=h.act;rw[Jfa _ hg.one]at e;simpa using congrArg Prod.fst e
theorem Jb2(d:Bool)(n:Nat):lenP (Jam d n)=(n:Int):=by cases d<;>simp[lenP,Jam]
theorem Jej(d:Bool)(n:Nat):(Jam d n).put=[]:=by cases d<;>rfl
theorem Jq8(d:Bool)(n:Nat):oneP (Jam d (n+1)):=by
 cases d with
 | true=>exact .inr (.inl ⟨rfl,by show(0:Int)<((n+1:Nat):Int);omega,rfl⟩)
 | false=>exact .inl ⟨by show(0:Int)<((n+1:Nat):Int);omega,rfl,rfl⟩
theorem Jpq(d:Bool)(n:Nat)(x:List UInt8):JcO (Jam d (n+1),x)=if d then [] else x:=by
 cases d<;>simp[JcO,Jam]
theorem JcB(d:Bool)(n:Nat)(ps:List Pt)(r:List UInt8):Jab (Jam d (n+1) :: ps) r=(if d then [] else r.take (n+1))++Jab ps (r.drop (n+1)):=by
 rw[Jds,Jpq,Jb2];rfl
theorem JkO(d:Bool)(m j:Nat)(hj:j<=m):(m=j/\(cutP (Jam d (m+1)) ((j:Int)+1)).2=[])\/∃i,m=j+i+1/\(cutP (Jam d (m+1)) ((j:Int)+1)).2=[Jam d (i+1)]:=by
 have hl:Jac (Jam d (m+1))=(m:Int)+1:=by rw[Jb9];push_cast;rfl
 by_cases e:m=j
 . exact .inl ⟨e,by unfold cutP;rw[if_pos (by rw[hl,e])]⟩
 . right
   refine⟨m - j - 1,by omega,?_⟩;unfold cutP;rw[if_neg (by rw[hl];omega)];have e1:((m+1:Nat):Int) - ((j:Int)+1)=((m - j - 1+1:Nat):Int):=by omega
   cases d with
   | true =>
    rw[if_neg (show ¬0<(Jam true (m+1)).keep from Int.lt_irrefl 0),if_pos (show 0<(Jam true (m+1)).drop by show(0:Int)<((m+1:Nat):Int);omega)];show [(⟨0,((m+1:Nat):Int) - ((j:Int)+1),[]⟩:Pt)]=[⟨0,((m - j - 1+1:Nat):Int),[]⟩];rw[e1]
   | false =>
    rw[if_pos (show 0<(Jam false (m+1)).keep by show(0:Int)<((m+1:Nat):Int);omega)];show [(⟨((m+1:Nat):Int) - ((j:Int)+1),0,[]⟩:Pt)]=[⟨((m - j - 1+1:Nat):Int),0,[]⟩];rw[e1]
structure Left (X:List Pt) (r:List UInt8):Prop where
 one:∀p∈X,oneP p
 long:Jar X=r.length
 al:al X r
theorem Left.good{X:List Pt}{r:List UInt8}(h:Left X r):good X r:=⟨h.one,h.long,h.al⟩
theorem Jed(d:Bool)(m j:Nat)(hj:j<=m)(ps:List Pt)(r:List UInt8)(h:Left (Jam d (m+1) :: ps) r)(hv:V (r.take (j+1))) :
    Left ((cutP (Jam d (m+1)) ((j:Int)+1)).2++ps) (r.drop (j+1))/\Jab (Jam d (m+1) :: ps) r=(if d then [] else r.take (j+1))++Jab ((cutP (Jam d (m+1)) ((j:Int)+1)).2++ps) (r.drop (j+1))/\j+1<=r.length:=by
 have hl:=h.long;rw[Jbt,Jb2]at hl;have h0:=JfA fun q hq=>h.one q (List.mem_cons_of_mem _ hq)
 have ha:=h.al.2.2;have hq:=h.al.2.1;rw[Jb2]at ha hq;have ht:((m+1:Nat):Int).toNat=m+1:=by omega
 rw[ht]at ha hq;have hlen:j+1<=r.length:=by omega
 rcases JkO d m j hj with ⟨rfl,e⟩|⟨i,rfl,e⟩
 . rw[e,List.nil_append]
   refine⟨⟨fun p hp=>h.one p (by simp[hp]),by rw[List.length_drop];omega,ha⟩,JcB d m ps r,hlen⟩
 . rw [e]
   have e1:r.take (j+i+1+1)=r.take (j+1)++(r.drop (j+1)).take (i+1):=by rw[←List.take_add];congr 1;omega
   have e2:r.drop (j+i+1+1)=(r.drop (j+1)).drop (i+1):=by rw[List.drop_drop];congr 1;omega
   rw[e1]at hq;rw[e2]at ha;refine⟨⟨?_,?_,?_,?_,?_⟩,?_,hlen⟩
   . intro p hp
     rcases List.mem_cons.1 hp with rfl|hp
     . exact Jq8 d i
     . exact h.one p (by simp at hp;simp[hp])
   . show Jar (Jam d (i+1) :: ps)=_
     rw[Jbt,Jb2,List.length_drop];omega
   . rw[Jej];exact Jdk
   . rw[Jb2];exact Jqc hv hq
   . rw[Jb2];exact ha
   . show _=_++Jab (Jam d (i+1) :: ps) _
     rw[JcB,JcB,e1,e2]
     cases d<;>simp
def outL:List (Pt×Pt)->List UInt8->List UInt8
 | [],_=>[]
 | (p,q) :: l,r=>p.put++(q.put++((if 0<p.keep/\0<q.keep then r.take p.keep.toNat else [])++outL l (r.drop (lenP p).toNat)))
def tF (F:Bool) (x:Pt×Pt):List Pt:=if F then Jbl x else Jbl (x.2,x.1)
theorem Jdz(t:Pt×Pt->List Pt)(x:Pt×Pt)(l:List (Pt×Pt))(s:NSt):runS t (x :: l) s=runS t l ((t x).foldl addP s):=rfl
theorem Jk4(u:List UInt8)(l:List (Pt×Pt))(r:List UInt8):outL ((⟨0,0,u⟩,noP) :: l) r=u++outL l r/\outL ((noP,⟨0,0,u⟩) :: l) r=u++outL l r:=by
 simp[outL,noP,lenP]
theorem Jn6(d e:Bool)(j:Nat)(l:List (Pt×Pt))(r:List UInt8):outL ((Jam d (j+1),Jam e (j+1)) :: l) r=(if d || e then [] else r.take (j+1))++outL l (r.drop (j+1)):=by
 have h0:(0:Int)<((j:Int)+1):=by omega
 have h1:((j:Int)+1).toNat=j+1:=by omega
 cases d<;>cases e<;>simp[outL,Jam,lenP,h0,h1]
theorem Jm4(F:Bool)(u:List UInt8)(hu:u≠[]):tF F (if F then (⟨0,0,u⟩,noP) else (noP,⟨0,0,u⟩))=[⟨0,0,u⟩]:=by
 cases F<;>simp[tF,Jbl,Jaa,noP,hu]
theorem JgN(F:Bool)(u:List UInt8)(hu:u≠[]):tF F (if F then (noP,⟨0,0,u⟩) else (⟨0,0,u⟩,noP))=[⟨u.length,0,[]⟩]:=by
 cases F<;>simp[tF,Jbl,Jaa,noP,hu]
theorem Jm3(F d e:Bool)(j:Nat):tF F (Jam d (j+1),Jam e (j+1))=if (if F then e else d) then [] else [Jam (if F then d else e) (j+1)]:=by
 have h1:=Jbr d (j+1);have h2:=Jbr e (j+1);have h3:∀b,JbG (Jam b (j+1)) = !b:=by
  intro b;have h0:(0:Int)<((j:Int)+1):=by omega
  cases b<;>simp[JbG,Jam,h0]
 cases F<;>cases d<;>cases e<;>simp[tF,Jbl,h1,h2,h3]
theorem St.unit(h:St T D (x++R) o s)(hx:V x)(d:Bool)(n:Nat)(hn:x.length=n):St T (D++x) R (o++if d then [] else x) (addP s (Jam d n)):=by
 subst hn
 cases d with
 | true=>rw[if_pos rfl,List.append_nil];exact h.drop hx
 | false=>rw[if_neg (by decide)];exact h.keep hx
theorem JbD(h:Left (p :: ps) r):Left ps (r.drop (lenP p).toNat)/\V p.put/\V (r.take (lenP p).toNat)/\(lenP p).toNat<=r.length:=by
 have hl:=h.long;rw[Jbt]at hl;have h0:=JfA fun q hq=>h.one q (List.mem_cons_of_mem _ hq)
 have h1:=Jhu (h.one p (by simp));exact⟨⟨fun q hq=>h.one q (by simp[hq]),by rw[List.length_drop];omega,h.al.2.2⟩,h.al.1,h.al.2.1,by omega⟩
theorem Jdg(h:Left [] r):r=[]:=by
 have:=h.long;simp[Jar]at this;exact List.eq_nil_of_length_eq_zero (by omega)
theorem Jep{u:List UInt8}(h:Left (⟨0,0,u⟩ :: ps) r):Left ps r/\V u:=by
 obtain⟨h1,h2,_⟩:=JbD h;exact⟨by simpa[lenP] using h1,h2⟩
theorem JcZ{d:Bool}{n:Nat}(h:Left (Jam d (n+1) :: ps) []):False:=by
 have:=(JbD h).2.2.2;rw[Jb2]at this;simp at this
theorem Jcu(h:oneP p)(ps:List Pt):Jai ps+1<=Jai (p :: ps):=by
 have:=JaJ h;rw[Ja7];omega
theorem Jmz(F:Bool):∀(f:Nat)(A B:List Pt)(r T D o:List UInt8)(s:NSt),Left A r->Left B r->Jai A+Jai B<=f->St T D (Jab (if F then B else A) r) o s ->
    St T T [] (o++outL (Ja8 Jaa Jaa f A B) r) (runS (tF F) (Ja8 Jaa Jaa f A B) s):=by
 have base:∀(T D o:List UInt8) (s:NSt) (g:Nat),St T D (Jab (if F then [] else []) []) o s->St T T [] (o++outL (Ja8 Jaa Jaa g [] []) []) (runS (tF F) (Ja8 Jaa Jaa g [] []) s):=by
  intro T D o s g h;have e:Ja8 Jaa Jaa g [] []=[]:=by cases g<;>rfl
  rw[e];have h2:St T D [] o s:=by cases F<;>exact h
  exact h2.full.none
 have nil_of:∀{l:List Pt} {r:List UInt8},Left l r->Jai l=0->l=[]:=by
  intro l r h hw
  cases l with
  | nil=>rfl
  | cons p l=>have:=Jcu (h.one p (by simp)) l;omega
 intro f
 induction f with
 | zero =>
  intro A B r T D o s hA hB hw h;obtain rfl:=nil_of hA (by omega);obtain rfl:=nil_of hB (by omega);obtain rfl:=Jdg hA;exact base T D o s 0 h
 | succ f ih =>
  intro A B r T D o s hA hB hw h
  have stepB:∀(v:List UInt8) (B':List Pt),v≠[]->B=⟨0,0,v⟩ :: B'->Ja8 Jaa Jaa (f+1) A B=(noP,⟨0,0,v⟩) :: Ja8 Jaa Jaa f A B'->St T T [] (o++outL (Ja8 Jaa Jaa (f+1) A B) r) (runS (tF F) (Ja8 Jaa Jaa (f+1) A B) s):=by
   intro v B' hv e es;subst e;obtain⟨hB',hV⟩:=Jep hB;have hw':=Jcu (hB.one ⟨0,0,v⟩ (by simp)) B';rw[es,(Jk4 v _ r).2,Jdz,←List.append_assoc];refine ih A B' r T (if F then D++v else D) (o++v) _ hA hB' (by omega) ?_
   cases F with
   | true =>
    have e:=JgN true v hv;rw[if_pos rfl]at e;rw[e];rw[if_pos rfl,Jc3]at h;exact h.keep hV
   | false =>
    have e:=Jm4 false v hv;rw[if_neg (by decide)]at e;rw[e];rw[if_neg (by decide)]at h;exact h.put hV
  cases A with
  | nil =>
   obtain rfl:=Jdg hA
   cases B with
   | nil=>exact base T D o s (f+1) h
   | cons q B' =>
    rcases Jbn (hB.one q (by simp)) with ⟨v,hv,rfl⟩|⟨e,k,rfl⟩
    . exact stepB v B' hv rfl (by rw[Ja8,if_pos (JbS hv)])
    . exact absurd hB JcZ
  | cons p A' =>
   rcases Jbn (hA.one p (by simp)) with ⟨u,hu,rfl⟩|⟨d,m,rfl⟩
   . obtain ⟨hA',hV⟩:=Jep hA
     have hw':=Jcu (hA.one ⟨0,0,u⟩ (by simp)) A';have es:Ja8 Jaa Jaa (f+1) (⟨0,0,u⟩ :: A') B=(⟨0,0,u⟩,noP) :: Ja8 Jaa Jaa f A' B:=by
      have h1:=JbS hu
      cases B<;>simp only[Ja8,h1,if_true]
     rw[es,(Jk4 u _ r).1,Jdz,←List.append_assoc];refine ih A' B r T (if F then D else D++u) (o++u) _ hA' hB (by omega) ?_
     cases F with
     | true =>
      have e:=Jm4 true u hu;rw[if_pos rfl]at e;rw[e];rw[if_pos rfl]at h;exact h.put hV
     | false =>
      have e:=JgN false u hu;rw[if_neg (by decide)]at e;rw[e];rw[if_neg (by decide),Jc3]at h;exact h.keep hV
   . cases B with
     | nil =>
      obtain rfl:=Jdg hB;exact absurd hA JcZ
     | cons q B' =>
      rcases Jbn (hB.one q (by simp)) with ⟨v,hv,rfl⟩|⟨e,k,rfl⟩
      . exact stepB v B' hv rfl (by
          have h1:=Jbr d (m+1);have h2:=JbS hv
          simp only[Ja8,h1,h2,Bool.false_eq_true,if_false,if_true])
      . have hmin:min (Jac (Jam d (m+1))) (Jac (Jam e (k+1)))=((min m k:Nat):Int)+1:=by rw[Jb9,Jb9];omega
        obtain⟨j,hj⟩:∃j,min m k=j:=⟨_,rfl⟩;rw[hj]at hmin;have hj1:j<=m:=by omega
        have hj2:j<=k:=by omega
        have es:Ja8 Jaa Jaa (f+1) (Jam d (m+1) :: A') (Jam e (k+1) :: B')=(Jam d (j+1),Jam e (j+1)) :: Ja8 Jaa Jaa f ((cutP (Jam d (m+1)) ((j:Int)+1)).2++A') ((cutP (Jam e (k+1)) ((j:Int)+1)).2++B'):=by
         rw[Ja8,if_neg (by rw[Jbr];decide),if_neg (by rw[Jbr];decide),hmin,(Jdj d m j hj1).1,(Jdj e k j hj2).1]
        have hv:V (r.take (j+1)):=by
         have v1:=(JbD hA).2.2.1;have v2:=(JbD hB).2.2.1;rw[Jb2]at v1 v2
         by_cases hc:m<=k
         . obtain rfl:m=j:=by omega
           exact v1
         . obtain rfl:k=j:=by omega
           exact v2
        obtain⟨lA,aA,hlen⟩:=Jed d m j hj1 A' r hA hv;obtain⟨lB,aB,_⟩:=Jed e k j hj2 B' r hB hv;have wA:=Jcv d m j hj1;have wB:=Jcv e k j hj2;have hx:(r.take (j+1)).length=j+1:=by rw[List.length_take];omega
        have hw2:Jai ((cutP (Jam d (m+1)) ((j:Int)+1)).2++A')+Jai ((cutP (Jam e (k+1)) ((j:Int)+1)).2++B')<=f:=by
         rw[Jbe,Jbe,wA,wB];rw[Ja7,Ja7,Jb9,Jb9]at hw;omega
        rw[es,Jn6,Jdz,Jm3,←List.append_assoc];refine ih _ _ (r.drop (j+1)) T (if (if F then e else d) then D else D++r.take (j+1)) _ _ lA lB hw2 ?_
        cases F with
        | true =>
         rw[if_pos rfl,aB]at h;simp only[if_true]
         cases e with
         | true =>
          simp only[Bool.or_true,if_true,List.append_nil,List.foldl_nil];exact h
         | false =>
          simp only[Bool.or_false,Bool.false_eq_true,if_false,List.foldl_cons,List.foldl_nil]at h ⊢;exact h.unit hv d (j+1) hx
        | false =>
         rw[if_neg (by decide),aA]at h;simp only[Bool.false_eq_true,if_false]
         cases d with
         | true =>
          simp only[Bool.true_or,if_true,List.append_nil,List.foldl_nil];exact h
         | false =>
          simp only[Bool.false_or,Bool.false_eq_true,if_false,List.foldl_cons,List.foldl_nil]at h ⊢;exact h.unit hv e (j+1) hx
theorem Jdo(F:Bool){a b:List Pt}{t:List UInt8}(ha:good a t)(hb:good b t) :
    good (JaC (Jba F a b)) (Jab b t)/\Jab (JaC (Jba F a b)) (Jab b t)=outL (if F then Ja8 Jaa Jaa (Jai (Jae a)+Jai (Jae b)) (Jae a) (Jae b) else Ja8 Jaa Jaa (Jai (Jae b)+Jai (Jae a)) (Jae b) (Jae a)) t:=by
 have na:=ha.norm;have nb:=hb.norm;have la:Left (Jae a) t:=⟨na.one,na.long,na.al⟩;have lb:Left (Jae b) t:=⟨nb.one,nb.long,nb.al⟩;have eb:=Jgq hb.one t;unfold Jba
 cases F with
 | true =>
  have:=Jmz true _ (Jae a) (Jae b) t (Jab b t) [] [] nst0 la lb (nlr _) (by rw[if_pos rfl,eb];exact St0 _);exact this.good
 | false =>
  have:=Jmz false _ (Jae b) (Jae a) t (Jab b t) [] [] nst0 lb la (nlr _) (by rw[if_neg (by decide),eb];exact St0 _);exact this.good
theorem Jlo(F:Bool){a b:List Pt}{t:List UInt8}(ha:good a t)(hb:good b t) :
    Jab (JaC (Jba (!F) b a)) (Jab a t)=Jab (JaC (Jba F a b)) (Jab b t):=by
 rw[(Jdo F ha hb).2,(Jdo (!F) hb ha).2]
 cases F<;>simp
end
section
variable {u : Int}{q : Pt}
def byZ (l:List UInt8):List Int:=l.map fun b=>(b.toNat:Int)
def rowZ (u:Int) (rs:List Nat):List Int:=if u=1 then byZ (encs rs) else if u=2 then toI (hals rs) else toI rs
theorem JcD(u:Int):rowZ u []=[]:=by
 unfold rowZ;split
 . rfl
 . split<;>rfl
theorem Jrc(a b:List Nat):hals (a++b)=hals a++hals b:=by simp[hals]
theorem Jbm(u:Int)(a b:List Nat):rowZ u (a++b)=rowZ u a++rowZ u b:=by
 unfold rowZ;split
 . rw[Jc6];simp[byZ]
 . split
   . rw[Jrc,JeL]
   . rw[JeL]
theorem Jp2:∀(rs:List Nat),((hals rs).length:Int)=C2 rs
 | []=>rfl
 | r :: rs=>by
  have ih:=Jp2 rs;rw[JfE,List.length_append];have e:C2 (r :: rs)=cH r+C2 rs:=by simp[C2,sum2,wide]
  rw[e];have:((hal r).length:Int)=cH r:=by unfold hal cH;split<;>rfl
  omega
theorem JcE(hu:Ja3 u)(rs:List Nat):((rowZ u rs).length:Int)=by_ u rs:=by
 unfold rowZ by_
 rcases hu with rfl|rfl|rfl
 . rw[if_pos rfl,if_pos rfl,JbU];simp[byZ]
 . rw[if_neg (by decide),if_pos rfl,if_neg (by decide),if_pos rfl,←Jp2];simp[toI]
 . rw[if_neg (by decide),if_neg (by decide),if_neg (by decide),if_neg (by decide),if_pos rfl];simp[toI,C3]
theorem JpP:∀{a b:List UInt8},byZ a=byZ b->a=b
 | [],[],_=>rfl
 | [],_ :: _,h=>by simp[byZ]at h
 | _ :: _,[],h=>by simp[byZ]at h
 | x :: a,y :: b,h=>by
  simp only[byZ,List.map_cons,List.cons.injEq]at h;have hx:x=y:=by
   apply UInt8.toNat_inj.1;omega
  rw[hx,JpP (a:=a) (b:=b) h.2]
theorem Jqz(hu:Ja3 u){x y:Nat}(hx:Jaw x)(hy:Jaw y){a b:List Int}(ha:u=1->∃l,a=byZ l)(hb:u=1->∃l,b=byZ l)(h:rowZ u [x]++a=rowZ u [y]++b):x=y/\a=b:=by
 have hxy:x=y:=by
  rcases hu with rfl|rfl|rfl
  . obtain⟨la,rfl⟩:=ha rfl
    obtain⟨lb,rfl⟩:=hb rfl;have e:∀(r:Nat) (l:List UInt8),rowZ 1 [r]++byZ l=byZ (enc r++l):=fun r l=>by simp[rowZ,byZ,encs]
    rw[e,e]at h;have h:=JpP h;have h1:=(JhD hx la).1;rw[h,(JhD hy lb).1]at h1;exact(Prod.mk.inj h1).1.symm
  . have e:∀r:Nat,rowZ 2 [r]=toI (hal r):=fun r=>by simp[rowZ,hals]
    rw[e,e]at h;have h1:=Jj7 hx a;rw[h,Jj7 hy b]at h1;have:=(Prod.mk.inj h1).1;omega
  . have e:∀r:Nat,rowZ 3 [r]=[(r:Int)]:=fun r=>by simp[rowZ,toI]
    rw[e,e]at h;simp only[List.cons_append,List.nil_append,List.cons.injEq]at h;omega
 subst hxy;exact⟨rfl,List.append_cancel_left h⟩
theorem row_ne(hu:Ja3 u)(r:Nat):rowZ u [r]≠[]:=fun e=>by
 have h1:=JcE hu [r];have h2:=Jna hu r;rw[e]at h1;simp at h1;omega
theorem Jkw(hu:u=1)(rs:List Nat):∃l,rowZ u rs=byZ l:=⟨encs rs,by subst hu;rfl⟩
theorem Jjt(u:Int)(r:Nat)(rs:List Nat):rowZ u (r :: rs)=rowZ u [r]++rowZ u rs:=by
 rw[←Jbm];rfl
theorem JoO{u:Int}(hu:Ja3 u):∀(xs ys:List Nat)(t:List Int),(∀r∈xs,Jaw r)->(∀r∈ys,Jaw r)->(u=1->∃l,t=byZ l)->rowZ u xs++t=rowZ u ys->∃zs,ys=xs++zs/\t=rowZ u zs
 | [],ys,t,_,_,_,h=>⟨ys,rfl,by rw[JcD]at h;exact h⟩
 | x :: xs,[],t,_,_,_,h=>by
  rw[Jjt,JcD,List.append_assoc]at h;exact absurd (List.append_eq_nil_iff.1 h).1 (row_ne hu x)
 | x :: xs,y :: ys,t,hx,hy,ht,h=>by
  rw[Jjt,Jjt u y,List.append_assoc]at h;obtain ⟨rfl,h2⟩:=Jqz hu (hx x (by simp)) (hy y (by simp)) (fun e=>by
   obtain⟨l,hl⟩:=ht e;obtain⟨m,hm⟩:=Jkw e xs
   exact⟨m++l,by rw[hl,hm];simp[byZ]⟩) (fun e=>Jkw e ys) h
  obtain⟨zs,e1,e2⟩:=JoO hu xs ys t (fun r hr=>hx r (by simp[hr])) (fun r hr=>hy r (by simp[hr])) ht h2;exact⟨zs,by rw[e1];rfl,e2⟩
def Jbb (u:Int) (R:List Nat) (n:Int):List Nat:=R.drop (upTo R u n).length
theorem JeC(hu:Ja3 u){R:List Nat}{n:Int}(h1:n<=by_ u R)(he:JaU R u n=true):R=upTo R u n++Jbb u R n/\by_ u (upTo R u n)=n:=by
 obtain⟨k,k1,k2,k3,_⟩:=(JdY hu h1).1 he;unfold Jbb;rw[k2,List.length_take,Nat.min_eq_left k1];exact⟨(List.take_append_drop k R).symm,k3⟩
theorem JpC(hu:Ja3 u){R X Y:List Nat}(h:R=X++Y):JaU R u (by_ u X)=true/\upTo R u (by_ u X)=X/\Jbb u R (by_ u X)=Y:=by
 have hle:by_ u X<=by_ u R:=by rw[h,Jb3];have:=Jea u Y;omega
 have hx:R.take X.length=X:=by rw[h,List.take_left' rfl]
 have he:JaU R u (by_ u X)=true:=by
  cases e:JaU R u (by_ u X) with
  | true=>rfl
  | false=>exact absurd (by rw[hx]) ((JdY hu hle).2 e X.length (by rw[h];simp))
 obtain⟨k,k1,k2,k3,_⟩:=(JdY hu hle).1 he
 have hk:k=X.length:=by
  have hXl:X.length<=R.length:=by rw[h];simp
  rcases Nat.lt_trichotomy k X.length with hlt|rfl|hlt
  . have:=JjH hu R k X.length hlt hXl
    rw[hx,k3]at this;omega
  . rfl
  . have:=JjH hu R X.length k hlt k1
    rw[hx,k3]at this;omega
 subst hk;refine⟨he,by rw[k2,hx],?_⟩;unfold Jbb;rw[k2,hx,h,List.drop_left' rfl]
theorem Jpa(hu:Ja3 u){R:List Nat}{n:Int}(h0:0<=n)(h1:n<=by_ u R)(he:JaU R u n=true) :
    (rowZ u R).take n.toNat=rowZ u (upTo R u n)/\(rowZ u R).drop n.toNat=rowZ u (Jbb u R n):=by
 obtain⟨e1,e2⟩:=JeC hu h1 he;have hl:n.toNat=(rowZ u (upTo R u n)).length:=by have:=JcE hu (upTo R u n);omega
 have e3:rowZ u R=rowZ u (upTo R u n)++rowZ u (Jbb u R n):=by
  rw[←Jbm];exact congrArg _ e1
 rw[e3,hl];exact⟨List.take_left' rfl,List.drop_left' rfl⟩
theorem Jpb(hu:Ja3 u){R:List Nat}(hR:∀r∈R,Jaw r){n:Int}(h0:0<=n)(h1:n<=by_ u R)(he:JaU R u n=false)(xs:List Nat)(hx:∀r∈xs,Jaw r):(rowZ u R).take n.toNat≠rowZ u xs:=by
 intro e;have hlen:=JcE hu R;have h2:rowZ u xs++(rowZ u R).drop n.toNat=rowZ u R:=by rw[←e,List.take_append_drop]
 obtain⟨zs,e1,_⟩:=JoO hu xs R _ hx hR (fun e=>by subst e;exact⟨(encs R).drop n.toNat,by simp[rowZ,byZ]⟩) h2;have hl:by_ u xs=n:=by
  rw[←JcE hu,←e,List.length_take];omega
 have:=(JpC hu e1).1;rw[hl,he]at this
 cases this
def okZ (u:Int):List Nat->List Pt->Bool
 | _,[]=>true
 | R,q :: qs=>JaU R u (lenP q) && okZ u (Jbb u R (lenP q)) qs
def inZ (u v:Int):List Nat->List Pt->List Pt
 | _,[]=>[]
 | R,q :: qs=>JdP (by_ v (upTo R u (lenP q))) q :: inZ u v (Jbb u R (lenP q)) qs
def Ja4 (u:Int):List Nat->List Pt->List Nat
 | _,[]=>[]
 | R,q :: qs=>((if 0<q.keep then upTo R u (lenP q) else [])++Jal q.put)++Ja4 u (Jbb u R (lenP q)) qs
theorem Ji0(hu:Ja3 u)(pre R:List Nat)(n:Int)(h0:0<=n)(h1:n<=by_ u R) :
    JaU (pre++R) u (by_ u pre+n)=JaU R u n/\(JaU R u n=true->upTo (pre++R) u (by_ u pre+n)=pre++upTo R u n):=by
 have key:JaU R u n=true->JaU (pre++R) u (by_ u pre+n)=true/\upTo (pre++R) u (by_ u pre+n)=pre++upTo R u n:=fun he=>by
  obtain⟨e1,e2⟩:=JeC hu h1 he;have e3:pre++R=(pre++upTo R u n)++Jbb u R n:=by rw[List.append_assoc,←e1]
  have:=JpC hu e3;rw[Jb3,e2]at this;exact⟨this.1,this.2.1⟩
 refine⟨?_,fun he=>(key he).2⟩
 cases he:JaU R u n with
 | true=>exact(key he).1
 | false =>
  cases e:JaU (pre++R) u (by_ u pre+n) with
  | false=>rfl
  | true =>
   exfalso
   have hle:by_ u pre+n<=by_ u (pre++R):=by rw[Jb3];omega
   obtain⟨k,k1,k2,k3,_⟩:=(JdY hu hle).1 e
   have hk:pre.length<=k:=by
    by_cases h:pre.length<=k
    . exact h
    . have:=JjH hu (pre++R) k pre.length (by omega) (by simp)
      rw[k3,List.take_left' rfl]at this;omega
   have e4:(pre++R).take k=pre++R.take (k - pre.length):=by
    rw[List.take_append,List.take_of_length_le hk]
   rw[e4,Jb3]at k3;exact(JdY hu h1).2 he (k - pre.length) (by rw[List.length_append]at k1;omega) (by omega)
theorem Jmy{u:Int}(hu:Ja3 u)(v:Int):∀(qs:List Pt)(pre R:List Nat),(∀q∈qs,0<=lenP q)->Jar qs<=by_ u R ->
    (JhT (pre++R) u v (by_ u pre) qs).2=okZ u R qs/\(okZ u R qs=true->(JhT (pre++R) u v (by_ u pre) qs).1=inZ u v R qs)
 | [],_,_,_,_=>⟨rfl,fun _=>rfl⟩
 | q :: qs,pre,R,h,hl=>by
  have h0:=h q (by simp);have h3:∀x∈qs,0<=lenP x:=fun x hx=>h x (by simp[hx])
  have hp:=Jhj h3;have hl2:Jar (q :: qs)=lenP q+Jar qs:=by simp[Jar]
  rw[hl2]at hl;obtain⟨s1,s2⟩:=Ji0 hu pre R (lenP q) h0 (by omega);obtain⟨t1,t2⟩:=Ji0 hu pre R 0 (Int.le_refl _) (Jea u R);have hz:upTo R u 0=[]:=JjW R u;have hz2:JaU R u 0=true:=by unfold JaU;rw[hz,JiV];rfl
  have t2:=t2 hz2;rw[Int.add_zero,hz,List.append_nil]at t2
  have hunf:JhT (pre++R) u v (by_ u pre) (q :: qs)=if JaU (pre++R) u (by_ u pre+lenP q) then
   (JdP (by_ v (upTo (pre++R) u (by_ u pre+lenP q)) - by_ v (upTo (pre++R) u (by_ u pre))) q :: (JhT (pre++R) u v (by_ u pre+lenP q) qs).1,(JhT (pre++R) u v (by_ u pre+lenP q) qs).2)
   else ([],false):=rfl
  have hoz:okZ u R (q :: qs)=(JaU R u (lenP q) && okZ u (Jbb u R (lenP q)) qs):=rfl;rw[hunf,hoz,s1]
  cases he:JaU R u (lenP q) with
  | false=>exact⟨rfl,fun h=>by cases h⟩
  | true =>
   obtain⟨e1,e2⟩:=JeC hu (by omega) he;have hR:pre++R=(pre++upTo R u (lenP q))++Jbb u R (lenP q):=by rw[List.append_assoc,←e1]
   have hby:by_ u pre+lenP q=by_ u (pre++upTo R u (lenP q)):=by rw[Jb3,e2]
   have hle:Jar qs<=by_ u (Jbb u R (lenP q)):=by
    have:by_ u R=by_ u (upTo R u (lenP q))+by_ u (Jbb u R (lenP q)):=by rw[←Jb3];exact congrArg _ e1
    omega
   obtain⟨i1,i2⟩:=Jmy hu v qs (pre++upTo R u (lenP q)) (Jbb u R (lenP q)) h3 hle;rw[if_pos rfl,s2 he,t2,hby,Bool.true_and];rw[←hR]at i1 i2;refine⟨i1,fun ho=>?_⟩;have ev:by_ v (pre++upTo R u (lenP q)) - by_ v pre=by_ v (upTo R u (lenP q)):=by rw[Jb3];omega
   rw[i2 ho,ev];rfl
theorem Jot(hu:Ja3 u)(v:Int)(qs:List Pt)(R:List Nat)(h:∀q∈qs,0<=lenP q)(hl:Jar qs<=by_ u R) :
    turnX R u v qs=(if okZ u R qs then 0 else 10)/\turnO R u v qs=if okZ u R qs then inZ u v R qs else []:=by
 obtain⟨h1,h2⟩:=Jmy hu v qs [] R h hl;rw[List.nil_append,JiV]at h1 h2;unfold turnX turnO;rw[h1];refine⟨rfl,?_⟩
 split
 . rename_i ho;exact h2 ho
 . rfl
theorem Jf6{R:List Nat}{n:Int}(h:∀r∈R,Jaw r):∀r∈Jbb u R n,Jaw r:=fun r hr=>h r (List.mem_of_mem_drop hr)
theorem Jhb(hu:Ja3 u){R:List Nat}{n:Int}(hn:n<=by_ u R)(h:∀r∈R,Jaw r):∀r∈upTo R u n,Jaw r:=fun r hr=>by
 obtain⟨k,_,h2,_⟩:=JfV R u n hn;rw[h2]at hr;exact h r (List.mem_of_mem_take hr)
theorem JiN{u:Int}(hu:Ja3 u):∀(qs:List Pt)(R:List Nat),(∀q∈qs,0<=lenP q)->Jar qs<=by_ u R->okZ u R qs=true->(∀r∈R,Jaw r)->∀r∈Ja4 u R qs,Jaw r
 | [],R,_,_,_,_,r,hr=>by cases hr
 | q :: qs,R,h,hl,ho,hR,r,hr=>by
  have h3:∀x∈qs,0<=lenP x:=fun x hx=>h x (by simp[hx])
  have hp:=Jhj h3;have h0:=h q (by simp);have hl2:Jar (q :: qs)=lenP q+Jar qs:=by simp[Jar]
  rw[hl2]at hl;have ho:(JaU R u (lenP q) && okZ u (Jbb u R (lenP q)) qs)=true:=ho;rw[Bool.and_eq_true]at ho;obtain⟨e1,e2⟩:=JeC hu (by omega) ho.1;have hle:Jar qs<=by_ u (Jbb u R (lenP q)):=by
   have:by_ u R=by_ u (upTo R u (lenP q))+by_ u (Jbb u R (lenP q)):=by rw[←Jb3];exact congrArg _ e1
   omega
  have hr:r∈((if 0<q.keep then upTo R u (lenP q) else [])++Jal q.put)++Ja4 u (Jbb u R (lenP q)) qs:=hr
  rcases List.mem_append.1 hr with hr|hr
  . rcases List.mem_append.1 hr with hr | hr
    . split at hr
      . exact Jhb hu (by omega) hR r hr
      . cases hr
    . exact JcW hr
  . exact JiN hu qs _ h3 hle ho.2 (Jf6 hR) r hr
theorem Jql(h:oneB q=true)(n:Int)(hn:lenP q=0->n=0):lenP (JdP n q)=n:=by
 unfold JdP
 rcases Jd5 h with ⟨h1,h2,h3⟩|⟨h1,h2,h3⟩|⟨h1,h2,h3⟩
 . rw[if_pos h1];simp[lenP]
 . rw[if_neg (by omega),if_pos h2];simp[lenP]
 . rw[if_neg (by omega),if_neg (by omega)]
   rw[hn (by unfold lenP;omega)];simp[lenP]
theorem Jqk(h:oneB q=true){n:Int}(hn:0<lenP q->0<n):oneP (JdP n q):=by
 unfold JdP
 rcases Jd5 h with ⟨h1,h2,h3⟩|⟨h1,h2,h3⟩|⟨h1,h2,h3⟩
 . rw[if_pos h1];exact .inl ⟨hn (by unfold lenP;omega),rfl,rfl⟩
 . rw[if_neg (by omega),if_pos h2];exact .inr (.inl ⟨rfl,hn (by unfold lenP;omega),rfl⟩)
 . rw[if_neg (by omega),if_neg (by omega)];exact .inr (.inr ⟨rfl,rfl,h3⟩)
theorem Jji(h:oneB q=true)(n:Int):(JdP n q).put=q.put:=by
 unfold JdP
 rcases Jd5 h with ⟨h1,h2,h3⟩|⟨h1,h2,h3⟩|⟨h1,h2,h3⟩
 . rw[if_pos h1,h3]
 . rw[if_neg (by omega),if_pos h2,h3]
 . rw[if_neg (by omega),if_neg (by omega)]
theorem Jop(h:oneB q=true){n:Int}(hn:0<lenP q->0<n):(0<(JdP n q).keep)↔0<q.keep:=by
 unfold JdP
 rcases Jd5 h with ⟨h1,h2,h3⟩|⟨h1,h2,h3⟩|⟨h1,h2,h3⟩
 . rw[if_pos h1];exact⟨fun _=>h1,fun _=>hn (by unfold lenP;omega)⟩
 . rw[if_neg (by omega),if_pos h2];exact⟨fun h=>absurd h (Int.lt_irrefl 0),fun h=>by omega⟩
 . rw[if_neg (by omega),if_neg (by omega)];exact⟨fun h=>absurd h (Int.lt_irrefl 0),fun h=>by omega⟩
theorem JpO{v:Int}(hu:Ja3 u)(hv:Ja3 v){X:List Nat}(h:0<by_ u X):0<by_ v X:=by
 cases X with
 | nil=>rw[JiV]at h;omega
 | cons r X =>
  have e:r :: X=[r]++X:=rfl;rw[e,Jb3];have:=Jna hv r;have:=Jea v X;omega
theorem JiU(hu:Ja3 u){X:List Nat}(h:by_ u X=0):X=[]:=by
 cases X with
 | nil=>rfl
 | cons r X =>
  have e:r :: X=[r]++X:=rfl;rw[e,Jb3]at h;have:=Jna hu r;have:=Jea u X;omega
theorem Jp0{u:Int}(hu:Ja3 u):∀(qs:List Pt)(R:List Nat),(∀q∈qs,oneB q=true/\(scan q.put).2=true)->Jar qs=by_ u R->(∀r∈R,Jaw r)->okZ u R qs=true ->
    Left (inZ u 1 R qs) (encs R)/\Jab (inZ u 1 R qs) (encs R)=encs (Ja4 u R qs)
 | [],R,_,hl,_,_=>by
  have:R=[]:=JiU hu (by rw[←hl];simp[Jar]);subst this;exact⟨⟨by simp[inZ],by simp[inZ,Jar,encs],trivial⟩,rfl⟩
 | q :: qs,R,h,hl,hr,ho=>by
  have hq:=h q (by simp);have hs:=(JcG hq.1).1;have hl2:Jar (q :: qs)=lenP q+Jar qs:=by simp[Jar]
  have hp3:∀x∈qs,0<=lenP x:=fun x hx=>by
   have:=(JcG (h x (by simp[hx])).1).1;unfold JbA at this;unfold lenP;omega
  have hp:=Jhj hp3;have hq0:0<=lenP q:=by unfold JbA at hs;unfold lenP;omega
  rw[hl2]at hl;have ho:(JaU R u (lenP q) && okZ u (Jbb u R (lenP q)) qs)=true:=ho;rw[Bool.and_eq_true]at ho;obtain⟨e1,e2⟩:=JeC hu (by omega) ho.1;have hby:by_ u R=by_ u (upTo R u (lenP q))+by_ u (Jbb u R (lenP q)):=by rw[←Jb3];exact congrArg _ e1
  obtain⟨il,ia⟩:=Jp0 hu qs (Jbb u R (lenP q)) (fun x hx=>h x (by simp[hx])) (by omega) (Jf6 hr) ho.2;have hur:=Jhb (n:=lenP q) hu (by omega) hr;have hX:encs R=encs (upTo R u (lenP q))++encs (Jbb u R (lenP q)):=by rw[←Jc6];exact congrArg _ e1
  have hunf:inZ u 1 R (q :: qs)=JdP (by_ 1 (upTo R u (lenP q))) q :: inZ u 1 (Jbb u R (lenP q)) qs:=rfl;have hc:Ja4 u R (q :: qs)=((if 0<q.keep then upTo R u (lenP q) else [])++Jal q.put)++Ja4 u (Jbb u R (lenP q)) qs:=rfl;have h1:by_ 1 (upTo R u (lenP q))=(encs (upTo R u (lenP q))).length:=by unfold by_;rw[if_pos rfl,JbU]
  have hz0:lenP q=0->by_ 1 (upTo R u (lenP q))=0:=fun e=>by rw[JiU hu (e2.trans e),JiV]
  have hzp:0<lenP q->0<by_ 1 (upTo R u (lenP q)):=fun e=>JpO hu (.inl rfl) (by omega)
  have hul:=Jql hq.1 _ hz0;rw[hunf,hc,hX];have hto:(lenP (JdP (by_ 1 (upTo R u (lenP q))) q)).toNat=(encs (upTo R u (lenP q))).length:=by rw[hul,h1];simp
  have htake:(encs (upTo R u (lenP q))++encs (Jbb u R (lenP q))).take (lenP (JdP (by_ 1 (upTo R u (lenP q))) q)).toNat=encs (upTo R u (lenP q)):=by rw[hto,List.take_left' rfl]
  have hdrop:(encs (upTo R u (lenP q))++encs (Jbb u R (lenP q))).drop (lenP (JdP (by_ 1 (upTo R u (lenP q))) q)).toNat=encs (Jbb u R (lenP q)):=by rw[hto,List.drop_left' rfl]
  refine⟨⟨?_,?_,?_⟩,?_⟩
  . intro p hp
    rcases List.mem_cons.1 hp with rfl|hp
    . exact Jqk hq.1 hzp
    . exact il.one p hp
  . rw[Jbt,il.long,hul,h1,List.length_append];omega
  . refine⟨?_,?_,?_⟩
    . rw[Jji hq.1];exact JfQ hq.2
    . rw[htake];exact⟨_,hur,rfl⟩
    . rw[hdrop];exact il.al
  . rw[Jds,htake,hdrop,ia,Jc6,Jc6]
    congr 1
    unfold JcO;have hk:=Jop hq.1 hzp;rw[Jji hq.1,Jcm hq.2]
    congr 1
    by_cases hkk:0<q.keep
    . rw[if_pos hkk,if_pos (hk.2 hkk)]
    . rw[if_neg hkk,if_neg (fun e=>hkk (hk.1 e))];rfl
end
section
open Go.RowKit
variable {w w' : World}{k : IntKind}{p : Option Addr}{n c m b o : Nat}{zs : List Int}
def sl (w:World) (k:IntKind) (p:Option Addr) (n c:Nat) (zs:List Int):Prop :=
 n=zs.length/\((p=none/\c=0/\zs=[])\/∃b o,p=some ⟨b,o,none⟩/\zs.length<=c/\c<=maxLen/\b<w.heap.size/\∀i z,zs[i]?=some z->w.cell? ⟨b,o+i,none⟩=some (.int k z))
theorem Jb7(h:sl w k p n c zs){B:Nat}(hb:Below B w w')(hB:w.heap.size<=B):sl w' k p n c zs:=by
 obtain⟨h0,h⟩:=h;refine⟨h0,?_⟩
 rcases h with h|⟨b,o,h1,h2,h3,h4,h5⟩
 . exact .inl h
 . exact .inr ⟨b,o,h1,h2,h3,Nat.lt_of_lt_of_le h4 hb.size,fun i z hi=>(hb.cell (p:=⟨b,o+i,none⟩) (Nat.lt_of_lt_of_le h4 hB)).trans (h5 i z hi)⟩
theorem Jqw(h:sl w k p n c zs)(hb:Below w.heap.size w w'):sl w' k p n c zs:=Jb7 h hb (nlr _)
theorem Jjp(h:sl w k p n c zs):reads w k (.slice p n c) zs:=by
 obtain⟨rfl,h⟩:=h
 rcases h with ⟨rfl,rfl,rfl⟩|⟨b,o,h1,h2,h3,h4,h5⟩
 . exact⟨none,0,rfl,nlr _,Nat.zero_le _,fun h=>absurd rfl h⟩
 . exact⟨p,c,rfl,h2,h3,fun _=>⟨b,o,h1,h4,fun i hi=>h5 i _ (by rw[List.getD_eq_getElem?_getD,lgg hi];rfl)⟩⟩
theorem Jkk{B e:Nat}{v:Value}{xs:List Value}(hx:xs=zs.map (Value.int k))(h:w.ownsRow B e 1 v zs.length xs):∃p c,v=.slice p zs.length c/\sl w k p zs.length c zs:=by
 subst hx;obtain⟨h0,hrow⟩:=h
 rcases hrow with ⟨rfl,h2⟩|⟨g,cap,cur,rfl,h2,h3,h4,h5,h6,h7⟩
 . obtain rfl:zs=[]:=List.eq_nil_of_length_eq_zero h2
   exact⟨none,0,rfl,rfl,.inl ⟨rfl,rfl,rfl⟩⟩
 . refine ⟨_,cap,rfl,rfl,.inr ⟨g,0,rfl,h4,h5,(alt h3),fun i z hi=>?_⟩⟩
   have hil:i<zs.length:=(llt hi);rw[Nat.mul_one]at h7;have hc:cur[i]?=some (.int k z):=by
    rw[←Array.getElem?_toList];have:=congrArg (·[i]?) h7;simp only[List.getElem?_take,hil,if_true,List.getElem?_map]at this;rw[this,hi];rfl
   rw[Nat.zero_add];show w.cell? ⟨g,i,none⟩=_;unfold World.cell?;simp[h3,hc]
theorem JfY(h:sl w k p n c zs)(hm:m<=n):sl w k p m c (zs.take m):=by
 obtain⟨rfl,h⟩:=h;refine⟨by rw[List.length_take];omega,?_⟩
 rcases h with ⟨h1,h2,rfl⟩|⟨b,o,h1,h2,h3,h4,h5⟩
 . exact .inl ⟨h1,h2,by simp⟩
 . refine .inr ⟨b,o,h1,by rw[List.length_take];omega,h3,h4,fun i z hi=>h5 i z ?_⟩
   rw[List.getElem?_take]at hi
   split at hi
   . exact hi
   . cases hi
theorem sl_tail(h:sl w k (some ⟨b,o,none⟩) n c zs)(hm:m<=n):sl w k (some ⟨b,o+m,none⟩) (n - m) (c - m) (zs.drop m):=by
 obtain⟨rfl,h⟩:=h;refine⟨by rw[List.length_drop],?_⟩
 rcases h with ⟨h1,_⟩|⟨b',o',h1,h2,h3,h4,h5⟩
 . cases h1
 . obtain⟨rfl,rfl,_⟩:b=b'/\o=o'/\True:=by injection h1 with h1;injection h1 with h1 h2;exact⟨h1,h2,trivial⟩
   refine .inr ⟨b,o+m,rfl,by rw[List.length_drop];omega,by omega,h4,fun i z hi=>?_⟩;rw[List.getElem?_drop]at hi;have:=h5 (m+i) z hi;rw[Nat.add_assoc];exact this
theorem sl_last(h:sl w k (some ⟨b,o,none⟩) n c zs)(hm:m<=n)(hc:c=m):sl w k (some ⟨b,o,none⟩) 0 0 (zs.drop m):=by
 obtain⟨rfl,h⟩:=h
 rcases h with ⟨h1,_⟩|⟨b',o',h1,h2,h3,h4,h5⟩
 . cases h1
 . obtain⟨rfl,rfl,_⟩:b=b'/\o=o'/\True:=by injection h1 with h1;injection h1 with h1 h2;exact⟨h1,h2,trivial⟩
   have e:zs.drop m=[]:=List.drop_eq_nil_of_le (by omega);rw[e];exact⟨rfl,.inr ⟨b,o,rfl,nlr _,Nat.zero_le _,h4,fun i z hi=>by cases hi⟩⟩
theorem Jf2(h:sl w k p n c zs)(hm:m<=n):sl w k (if c=m then p else Option.map (fun x=>x.add m) p) (n - m) (c - m) (zs.drop m):=by
 cases p with
 | none =>
  obtain⟨rfl,h⟩:=h
  rcases h with ⟨_,rfl,rfl⟩|⟨_,_,h1,_⟩
  . have:m=0:=by simpa using hm
    subst this;exact⟨rfl,.inl ⟨by simp,rfl,rfl⟩⟩
  . cases h1
 | some a =>
  have h0:=h;obtain⟨rfl,h⟩:=h
  rcases h with ⟨h1,_⟩|⟨b,o,h1,h2,_⟩
  . cases h1
  . obtain rfl:a=⟨b,o,none⟩:=osi h1
    by_cases hc:c=m
    . rw[if_pos hc]
      have e1:zs.length - m=0:=by omega
      have e2:c - m=0:=by omega
      rw[e1,e2];exact sl_last h0 hm hc
    . rw[if_neg hc]
      have:=sl_tail h0 hm;simpa[Addr.add_lit] using this
theorem Jiv(h:sl w k p n c zs):n<=c/\c<=maxLen/\n=zs.length:=by
 obtain⟨rfl,h⟩:=h
 rcases h with ⟨h1,rfl,rfl⟩|⟨b,o,h1,h2,h3,_⟩
 . exact⟨nlr _,Nat.zero_le _,rfl⟩
 . exact⟨h2,h3,rfl⟩
theorem JnH(w:World)(row:Option Nat):w.grownBy w row:=⟨rfl,rfl,rfl,nlr _,fun _ _ _=>rfl⟩
theorem JbC{P:Program}(w:World){ops:Array Oper}{rest:List Oper}{o:Oper}{a:Act}{Q:Exit->Act->World->Prop}(hgd:o.guard=none)(s x:Operand)(t:TypeId)
    (ho:o.op=.call { callee:=.builtin .append,args:=#[s,x],argTypes:=#[t,t] })
    (base:Nat) (e:TypeId) (i:TypeInfo) (z:Value) (bytes:Nat) (ht:P.underlying t=some (.slice e)) (hi:P.info? e=some i) (hz:i.zero=some z)
    (hsize:i.size=1) (hby:i.bytes=bytes) (hzs:z.cells.size=1)
    (v:Value) (n:Nat) (xs:List Value) (hs:a.eval s=v) (hown:w.ownsRow base e 1 v n xs)
    (k:IntKind) (p:Option Addr) (m c:Nat) (zs:List Int) (hx:a.eval x=.slice p m c) (hsl:sl w k p m c zs)
    (h63:n+m<=maxLen) (hbytes:(n+m)*bytes<=140737488355328) (hbase:base<=w.heap.size)
    (h:∀v' w',w'.ownsRow base e 1 v' (n+m) (xs++zs.map (Value.int k))->w.grownBy w' v.ownBlock->wpList P ops Q rest (a.put o.dst v') w'):wpList P ops Q (o :: rest) a w:=by
 obtain⟨rfl,hsl⟩:=hsl
 rcases hsl with ⟨rfl,rfl,rfl⟩|⟨b,o',rfl,h2,h3,h4,h5⟩
 . exact wpList_append_own_none hgd s x t ho base e i 1 ht hi v n xs hs hown hx (h v w (by simpa using hown) (JnH _ _))
 . exact wpList_append_own w hgd s x t ho base e i z 1 bytes ht hi hz hsize hby hzs (by decide) v n xs hs hown ⟨b,o',none⟩ zs.length c (zs.map (Value.int k)) hx (by simp) (fun j u hj=>by
     rw[List.getElem?_map]at hj
     cases hz':zs[j]? with
     | none=>rw[hz']at hj;cases hj
     | some z' =>
      rw[hz']at hj;obtain rfl:Value.int k z'=u:=osi hj;rw[Addr.add_lit];exact h5 j z' hz') (fun u hu=>by
     obtain⟨y,_,rfl⟩:=List.mem_map.1 hu
     rfl) h63 hbytes hbase fun v' w' g1 g2 _=>h v' w' g1 g2
theorem Jkg{l:List UInt8}(h:sl w .u8 p n c (l.map fun b=>(b.toNat:Int))):(convert 158 9 (.slice p n c)).run Tryz.prog w=.ok (.string ⟨l.toArray⟩) w:=by
 obtain⟨rfl,h⟩:=h;rw[List.length_map]
 rcases h with ⟨rfl,rfl,e⟩|⟨b,o,rfl,h2,h3,h4,h5⟩
 . obtain rfl:l=[]:=List.map_eq_nil_iff.1 e
   kernel_rfl
 . refine run_convert_bytes_back w 158 9 5 ⟨b,o,none⟩ c l Tryz.underlying158 Tryz.underlying5 Tryz.underlying9 fun j hj=>?_
   rw[Addr.add_lit];exact h5 j _ (by rw[List.getElem?_map,lgg hj];rfl)
end
section
open Go.RowKit
attribute [local go_sem] Oper.semAt_some
def atV (b:Nat):Value:=.iface 273 (.pointer (some ⟨b,0,none⟩))
theorem row1(X:List Nat):rowZ 1 X=(encs X).map fun b=>(b.toNat:Int):=rfl
theorem row2(X:List Nat):rowZ 2 X=toI (hals X):=rfl
theorem row3(X:List Nat):rowZ 3 X=toI X:=rfl
theorem JdX{X:List Nat}(h:C1 X<=1000000):(encs X).length<=1000000/\X.length<=1000000/\(hals X).length<=2000000:=by
 have h1:=JbU X;have h2:=Jeu X;have h3:=(Jrb X).1;omega
theorem Jnl(X:List Nat)(hX:∀r∈X,Jaw r)(hz:C1 X<=1000000)(p:Option Addr)(n c:Nat)(w:World)(hT:Lib.Utf8Tabs 2 3 w)(h:sl w .u8 p n c (rowZ 1 X)) :
    Calls Tryz.prog 94 #[.slice p n c] w fun e w'=>e=.returned (.tuple #[.string (Jao X),.nilIface])/\Below w.heap.size w w':=by
 have hconv:=Jkg (l:=encs X) h;obtain⟨e1,_,_⟩:=JdX hz;have hsc:(scan (encs X)).2=true:=by rw[Jcx X hX]
 have cC:Hid (Calls Tryz.prog 78 #[.string ⟨(encs X).toArray⟩] w fun e w'=>∃n1 n2 n3 n4,e=.returned (.tuple #[.agg #[.int .i64 n1,.int .i64 n2,.int .i64 n3,.int .i64 n4],.nilIface])/\Below w.heap.size w w') :=
  (JcK ⟨(encs X).toArray⟩ (by simp[ByteArray.size];omega) w hT).mono fun e w' ⟨v,x,h1,h2,h3⟩=>by
    rcases h3 with ⟨_,rfl,rfl⟩|⟨h4,_⟩
    . exact⟨_,_,_,_,h1,h2⟩
    . rw[show(ByteArray.mk (encs X).toArray).data.toList=encs X from rfl,hsc]at h4;cases h4
 have eb:Jao X=⟨(encs X).toArray⟩:=rfl;rw[eb];generalize ByteArray.mk (encs X).toArray=S at *;clear hT h hX hz hsc e1 eb
 go_enter Tryz.func94,Tryz.ntmps94
 go_wp2_with (first
  | (go_at_call 78;refine Calls.mono cC.out ?_;rintro e w1 ⟨n1,n2,n3,n4,rfl,hb1⟩)
  | fail)
 go_ret2
 exact⟨rfl,hb1.alloc hb1.size _⟩
theorem Jnn(R:List Nat)(m:Nat):(rowZ 1 R).take m=((encs R).take m).map fun b=>(b.toNat:Int):=by rw[row1,List.map_take]
theorem Jo2(R:List Nat)(m:Nat)(hbad:∀X,(∀r∈X,Jaw r)->(rowZ 1 R).take m≠rowZ 1 X)(hz:C1 R<=1000000)(p:Option Addr)(n c:Nat)(w:World)(hT:Lib.Utf8Tabs 2 3 w)(h:sl w .u8 p n c ((rowZ 1 R).take m)) :
    Calls Tryz.prog 94 #[.slice p n c] w fun e w'=>∃s bx,e=.returned (.tuple #[.string s,atV bx])/\Below w.heap.size w w':=by
 obtain⟨L,hL⟩:∃L,(encs R).take m=L:=⟨_,rfl⟩;have e0:=Jnn R m;rw[hL]at e0;rw[e0]at h hbad;have hconv:=Jkg (l:=L) h;obtain⟨e1,_,_⟩:=JdX hz;have hLl:L.length<=1000000:=by rw[←hL,List.length_take];omega
 have hsc:(scan L).2=false:=by
  cases e:(scan L).2 with
  | false=>rfl
  | true=>exact absurd (by rw[row1,Jcm e]) (hbad (Jal L) fun r hr=>JcW hr)
 have cC:Hid (Calls Tryz.prog 78 #[.string ⟨L.toArray⟩] w fun e w'=>∃bx,e=.returned (.tuple #[.agg #[.int .i64 0,.int .i64 0,.int .i64 0,.int .i64 0],.iface 273 (.pointer (some ⟨bx,0,none⟩))])/\Below w.heap.size w w') :=
  (JcK ⟨L.toArray⟩ (by simp[ByteArray.size];omega) w hT).mono fun e w' ⟨v,x,h1,h2,h3⟩=>by
    rcases h3 with ⟨h4,_⟩|⟨_,rfl,bx,rfl,_⟩
    . rw[show(ByteArray.mk L.toArray).data.toList=L from rfl,hsc]at h4;cases h4
    . exact⟨bx,h1,h2⟩
 generalize ByteArray.mk L.toArray=S at *;unfold atV;clear hT h hbad hz hsc e1 e0 hL hLl
 go_enter Tryz.func94,Tryz.ntmps94
 go_wp2_with (first
  | (go_at_call 78;refine Calls.mono cC.out ?_;rintro e w1 ⟨bx,rfl,hb1⟩)
  | fail)
 go_ret2
 exact⟨_,_,rfl,hb1.alloc hb1.size _⟩
theorem Jnk(X:List Nat)(hX:∀r∈X,Jaw r)(hz:C1 X<=1000000)(p:Option Addr)(n c:Nat)(w:World)(hT:Lib.Utf8Tabs 2 3 w)(h:sl w .u16 p n c (rowZ 2 X)) :
    Calls Tryz.prog 97 #[.slice p n c] w fun e w'=>e=.returned (.tuple #[.string (Jao X),.nilIface])/\Below w.heap.size w w':=by
 obtain⟨_,_,e3⟩:=JdX hz;refine(Jfg (.slice p n c) (toI (hals X)) w (Jp1 hX) (Jjp h) (by simp[toI];omega)).mono fun e w' ⟨s,x,h1,h2,h3⟩=>?_
 have hsc:=Ji2 X hX
 rcases h3 with ⟨_,rfl,rfl⟩|⟨h4,_⟩
 . rw[hsc]at h1
   have e5:((X.map fun r:Nat=>((r:Int),(hal r).length)).map (·.1))=toI X:=by simp[toI,Function.comp_def]
   rw[e5,JmT]at h1;exact⟨h1,h2⟩
 . rw[hsc]at h4;cases h4
theorem Jo1(R:List Nat)(m:Nat)(hR:∀r∈R,Jaw r)(hbad:∀X,(∀r∈X,Jaw r)->(rowZ 2 R).take m≠rowZ 2 X)(hz:C1 R<=1000000)(p:Option Addr)(n c:Nat)(w:World)(hT:Lib.Utf8Tabs 2 3 w)(h:sl w .u16 p n c ((rowZ 2 R).take m)) :
    Calls Tryz.prog 97 #[.slice p n c] w fun e w'=>∃s bx,e=.returned (.tuple #[.string s,atV bx])/\Below w.heap.size w w':=by
 obtain⟨_,_,e3⟩:=JdX hz;have hb:∀z∈(rowZ 2 R).take m,0<=z/\z<65536:=fun z hz=>Jp1 hR z (List.mem_of_mem_take hz)
 have hl:((rowZ 2 R).take m).length<=2000000:=by
  rw[List.length_take,row2];have:(toI (hals R)).length=(hals R).length:=by simp[toI]
  omega
 refine(Jfg (.slice p n c) ((rowZ 2 R).take m) w hb (Jjp h) (by omega)).mono fun e w' ⟨s,x,h1,h2,h3⟩=>?_
 rcases h3 with ⟨h4,_,_⟩|⟨_,_,bx,rfl,_⟩
 . obtain⟨rs,_,r2,r3⟩:=JnG _ _ (nlr _) hb h4
   exact absurd r3 (hbad rs r2)
 . exact⟨s,bx,h1,h2⟩
theorem Jnj(X:List Nat)(hX:∀r∈X,Jaw r)(hz:C1 X<=1000000)(p:Option Addr)(n c:Nat)(w:World)(hT:Lib.Utf8Tabs 2 3 w)(h:sl w .i32 p n c (rowZ 3 X)) :
    Calls Tryz.prog 101 #[.slice p n c] w fun e w'=>e=.returned (.tuple #[.string (Jao X),.nilIface])/\Below w.heap.size w w':=by
 obtain⟨_,e2,_⟩:=JdX hz;refine(JrA (.slice p n c) (toI X) w (toI_bd hX) (Jjp h) (by simp[toI];omega)).mono fun e w' ⟨s,x,h1,h2,h3⟩=>?_
 rcases h3 with ⟨_,rfl,rfl⟩|⟨k,k1,_,k3,_⟩
 . rw[JmT]at h1
   exact⟨h1,h2⟩
 . have:=Joo hX ((toI X).getD k 0) (by rw[List.getD_eq_getElem?_getD,lgg k1];exact List.getElem_mem _)
   rw[this]at k3;cases k3
theorem Jo0(R:List Nat)(m:Nat)(hR:∀r∈R,Jaw r)(hbad:∀X,(∀r∈X,Jaw r)->(rowZ 3 R).take m≠rowZ 3 X):False :=
 hbad (R.take m) (fun r hr=>hR r (List.mem_of_mem_take hr)) (by rw[row3,row3];simp[toI,List.map_take])
theorem Jmq(w:World)(e:TypeId)(s:ByteArray):Below w.heap.size w (Lib.bytesWorld w e s) :=
 ⟨rfl,rfl,rfl,by rw[Lib.bytesWorld_size];omega,fun k hk=>Lib.bytesWorld_at_old w e s k hk⟩
theorem Jq2(U:List UInt8)(hU:(scan U).2=true)(hl:U.length<=1000000)(w:World) :
    Calls Tryz.prog 95 #[.string ⟨U.toArray⟩] w fun e w'=>∃p n c,e=.returned (.slice p n c)/\sl w' .u8 p n c (rowZ 1 (Jal U))/\Below w.heap.size w w':=by
 have hconv:=Lib.run_convert_string_bytes (P:=Tryz.prog) w 9 158 5 ⟨U.toArray⟩ (u:=.string) Tryz.underlying9 Tryz.underlying158 Tryz.underlying5;have hz:(ByteArray.mk U.toArray).size=U.length:=by simp[ByteArray.size]
 have hsl:sl (Lib.bytesWorld w 5 ⟨U.toArray⟩) .u8 (some ⟨w.heap.size,0,none⟩) (ByteArray.mk U.toArray).size (grownCap w (ByteArray.mk U.toArray).size 0 5) (rowZ 1 (Jal U)):=by
  rw[row1,Jcm hU];refine⟨by rw[hz,List.length_map],.inr ⟨w.heap.size,0,rfl,?_,?_,?_,fun i z hi=>?_⟩⟩
  . rw[List.length_map,←hz];exact grownCap_ge _ _ _ _
  . exact grownCap_le_maxLen _ _ _ _ (by rw[hz];unfold maxLen;omega)
  . rw[Lib.bytesWorld_size];omega
  . have hil:i<U.length:=by have:=(llt hi);rwa[List.length_map]at this
    rw[Nat.zero_add,Lib.bytesWorld_cell _ _ _ _ (by rw[hz];exact hil)];rw[List.getElem?_map,lgg hil]at hi;have:=osi hi;rw[←this,List.getD_eq_getElem?_getD];simp[hil]
 have hbl:=Jmq w 5 ⟨U.toArray⟩;have HSL:=hdz hsl;have HBL:=hdz hbl;generalize Lib.bytesWorld w 5 ⟨U.toArray⟩=W at *;clear hsl hbl
 go_enter Tryz.func95,Tryz.ntmps95
 go_wp2;go_ret;exact⟨_,_,_,rfl,HSL.out,HBL.out⟩
theorem Jq1(U:List UInt8)(hU:(scan U).2=true)(hl:U.length<=1000000)(w:World)(hT:Lib.Utf8Tabs 2 3 w) :
    Calls Tryz.prog 98 #[.string ⟨U.toArray⟩] w fun e w'=>∃p n c,e=.returned (.slice p n c)/\sl w' .u16 p n c (rowZ 2 (Jal U))/\Below w.heap.size w w':=by
 have cC:Hid (Calls Tryz.prog 99 #[.string ⟨U.toArray⟩] w fun e w'=>∃p n c,e=.returned (.tuple #[.slice p n c,.nilIface])/\sl w' .u16 p n c (rowZ 2 (Jal U))/\Below w.heap.size w w') :=
  (Joj ⟨U.toArray⟩ (by simp[ByteArray.size];omega) w hT).mono fun e w' ⟨v,x,h1,h2,h3⟩=>by
    rcases h3 with ⟨_,rfl,p,c,h4,h5⟩|⟨h4,_⟩
    . have e0:(ByteArray.mk U.toArray).data.toList=U:=rfl
      have e1:=JnU U;rw[e0]at h4 h5;have hlen:(Jcn (scan U).1).length=(rowZ 2 (Jal U)).length:=by rw[e1,row2,List.length_map]
      rw[hlen]at h4 h5;obtain⟨p',c',q1,q2⟩:=Jkk e1 h5;exact⟨p',_,c',by rw[h1,q1],q2,h2⟩
    . rw[show(ByteArray.mk U.toArray).data.toList=U from rfl,hU]at h4;cases h4
 clear hT hU hl
 go_enter Tryz.func98,Tryz.ntmps98
 go_wp2_with (first
  | (go_at_call 99;refine Calls.mono cC.out ?_;rintro e w1 ⟨p,n,c,rfl,hs1,hb1⟩;have HS1:=hdz hs1;clear hs1)
  | fail)
 go_ret;exact⟨_,_,_,rfl,HS1.out,hb1⟩
theorem Jq0(U:List UInt8)(hU:(scan U).2=true)(hl:U.length<=1000000)(w:World)(hT:Lib.Utf8Tabs 2 3 w) :
    Calls Tryz.prog 102 #[.string ⟨U.toArray⟩] w fun e w'=>∃p n c,e=.returned (.slice p n c)/\sl w' .i32 p n c (rowZ 3 (Jal U))/\Below w.heap.size w w':=by
 have cC:Hid (Calls Tryz.prog 103 #[.string ⟨U.toArray⟩] w fun e w'=>∃p n c,e=.returned (.tuple #[.slice p n c,.nilIface])/\sl w' .i32 p n c (rowZ 3 (Jal U))/\Below w.heap.size w w') :=
  (Jqd ⟨U.toArray⟩ (by simp[ByteArray.size];omega) w hT).mono fun e w' ⟨v,x,h1,h2,h3⟩=>by
    rcases h3 with ⟨_,rfl,p,c,h4,h5⟩|⟨h4,_⟩
    . have e0:(ByteArray.mk U.toArray).data.toList=U:=rfl
      have e1:=JnV U;rw[e0]at h4 h5;have hlen:(JcJ (scan U).1).length=(rowZ 3 (Jal U)).length:=by rw[e1,row3,List.length_map]
      rw[hlen]at h4 h5;obtain⟨p',c',q1,q2⟩:=Jkk e1 h5;exact⟨p',_,c',by rw[h1,q1],q2,h2⟩
    . rw[show(ByteArray.mk U.toArray).data.toList=U from rfl,hU]at h4;cases h4
 clear hT hU hl
 go_enter Tryz.func102,Tryz.ntmps102
 go_wp2_with (first
  | (go_at_call 103;refine Calls.mono cC.out ?_;rintro e w1 ⟨p,n,c,rfl,hs1,hb1⟩;have HS1:=hdz hs1;clear hs1)
  | fail)
 go_ret;exact⟨_,_,_,rfl,HS1.out,hb1⟩
end
section
open Go.RowKit
variable {w : World}{u K D S : Int}{k : IntKind}{R R' : List Nat}{qs qs' : List Pt}{p : Option Addr}{n c x : Nat}{U : List UInt8}
def szV (u:Int) (R:List Nat) (qs:List Pt):Int:=if okZ u R qs then C1 (Ja4 u R qs) else 0
def szE (u:Int) (R:List Nat) (qs:List Pt):Int:=if okZ u R qs then 0 else 10
def szI (w:World) (u:Int) (k:IntKind) (R:List Nat) (qs:List Pt) (x:Nat) (v8 v9:Value) (wr:World):Prop :=
 ∃ (S:Int) (p:Option Addr) (n c:Nat) (R':List Nat),v8=.int .i64 S/\v9=.slice p n c/\sl wr k p n c (rowZ u R')/\(∀r∈R',Jaw r)/\Jar (qs.drop x)=by_ u R' /\
  okZ u R qs=okZ u R' (qs.drop x)/\(okZ u R qs=true->S+C1 (Ja4 u R' (qs.drop x))=C1 (Ja4 u R qs))/\0<=S/\S<=2000000*(x:Int)/\C1 R'<=1000000/\x<=qs.length/\Below w.heap.size w wr
theorem Jhi(hz:C1 R<=1000000)(hsl:sl w k p n c (rowZ u R))(hR:∀r∈R,Jaw r)(hl:Jar qs=by_ u R):szI w u k R qs 0 (.int .i64 0) (.slice p n c) w :=
 ⟨0,p,n,c,R,rfl,rfl,hsl,hR,hl,rfl,fun _=>Int.zero_add _,Int.le_refl _,Int.le_refl _,hz,Nat.zero_le _,brf _ _⟩
structure szStep (u:Int) (R':List Nat) (q:Pt) (qs':List Pt) (n:Nat):Prop where
 k0:0<=q.keep
 d0:0<=q.drop
 le:q.keep+q.drop<=(n:Int)
 len:(n:Int)=by_ u R'
 one:oneB q=true/\(scan q.put).2=true
 long:lenP q+Jar qs'=by_ u R'
 rest:0<=Jar qs'
theorem JfW{q:Pt}(hu:Ja3 u)(hd:qs.drop x=q :: qs.drop (x+1))(hq:oneB q=true/\(scan q.put).2=true)(hrest:∀y∈qs.drop (x+1),oneB y=true/\(scan y.put).2=true)
    (hsl:sl w k p n c (rowZ u R')) (hR:∀r∈R',Jaw r) (hl:Jar (qs.drop x)=by_ u R') (hz:C1 R'<=1000000):szStep u R' q (qs.drop (x+1)) n:=by
 have hs:=(JcG hq.1).1;have hp:=Jhj (l:=qs.drop (x+1)) fun y hy=>by
  have:=(JcG (hrest y hy).1).1;unfold JbA at this;unfold lenP;omega
 have hlen:(n:Int)=by_ u R':=by rw[hsl.1,JcE hu]
 have hl2:Jar (q :: qs.drop (x+1))=lenP q+Jar (qs.drop (x+1)):=by simp[Jar]
 rw[hd,hl2]at hl;refine⟨hs.1,hs.2,?_,hlen,hq,hl,hp⟩;have:lenP q=q.keep+q.drop:=rfl;omega
theorem C1_part{A B:List Nat}(h:R=A++B):C1 A<=C1 R/\C1 B<=C1 R:=by
 rw[h,Jcp];have:=JdM A;have:=JdM B;omega
theorem JcN(hu:Ja3 u)(h:szStep u R' ⟨K,D,U⟩ qs' n)(hR:∀r∈R',Jaw r)(hz:C1 R'<=1000000)(he:JaU R' u (K+D)=true) :
    (rowZ u R').take (K+D).toNat=rowZ u (upTo R' u (K+D))/\C1 (upTo R' u (K+D))<=1000000/\(∀r∈upTo R' u (K+D),Jaw r) /\
    ((rowZ u R').drop (K+D).toNat=rowZ u (Jbb u R' (K+D))/\(∀r∈Jbb u R' (K+D),Jaw r)/\Jar qs'=by_ u (Jbb u R' (K+D))/\C1 (Jbb u R' (K+D))<=1000000 /\
      okZ u R' (⟨K,D,U⟩ :: qs')=okZ u (Jbb u R' (K+D)) qs'/\C1 (Ja4 u R' (⟨K,D,U⟩ :: qs'))=((if 0<K then C1 (upTo R' u (K+D)) else 0)+(U.length:Int))+C1 (Ja4 u (Jbb u R' (K+D)) qs')):=by
 have hl:lenP ⟨K,D,U⟩=K+D:=rfl;have h0:0<=K+D:=by have:=h.k0;have:=h.d0;simp only at *;omega
 have hle:K+D<=by_ u R':=by have:=h.le;have:=h.len;simp only at *;omega
 obtain⟨e1,e2⟩:=JeC hu hle he;obtain⟨e3,e4⟩:=Jpa hu h0 hle he;have hc:=C1_part e1;have hby:by_ u R'=by_ u (upTo R' u (K+D))+by_ u (Jbb u R' (K+D)):=by rw[←Jb3];exact congrArg _ e1
 have hlong:=h.long;rw[hl]at hlong;refine⟨e3,by omega,Jhb hu hle hR,e4,Jf6 hR,by omega,by omega,?_,?_⟩
 . show(JaU R' u (lenP ⟨K,D,U⟩) && okZ u (Jbb u R' (lenP ⟨K,D,U⟩)) qs')=_
   rw[hl,he];rfl
 . show C1 (((if 0<K then upTo R' u (lenP ⟨K,D,U⟩) else [])++Jal U)++Ja4 u (Jbb u R' (lenP ⟨K,D,U⟩)) qs')=_
   rw[hl,Jcp,Jcp];have e5:C1 (Jal U)=(U.length:Int):=by rw[JbU,Jcm h.one.2]
   rw[e5]
   split
   . rfl
   . rfl
theorem JfX(hu:Ja3 u)(h:szStep u R' ⟨K,D,U⟩ qs' n)(hR:∀r∈R',Jaw r)(he:JaU R' u (K+D)=false) :
    ∀X,(∀r∈X,Jaw r)->(rowZ u R').take (K+D).toNat≠rowZ u X :=
 Jpb hu hR (by have:=h.k0;have:=h.d0;simp only at *;omega) (by have:=h.le;have:=h.len;simp only at *;omega) he
theorem Jo7(h:okZ u R qs=false):szV u R qs=0/\szE u R qs=10:=by
 unfold szV szE;rw[h];exact⟨rfl,rfl⟩
theorem Jlp(h:okZ u R qs=okZ u R' [])(hc:okZ u R qs=true->S+C1 (Ja4 u R' [])=C1 (Ja4 u R qs)):szV u R qs=S/\szE u R qs=0:=by
 have h1:okZ u R qs=true:=h;have h2:=hc h1;unfold szV szE;rw[h1,if_pos rfl,if_pos rfl];have e:C1 (Ja4 u R' [])=0:=rfl;exact⟨by omega,rfl⟩
theorem JeM{wn:World}{R2:List Nat}{A:Int}
    (hx:x<qs.length) (hok:okZ u R qs=okZ u R' (⟨K,D,U⟩ :: qs.drop (x+1))) (hcome:okZ u R qs=true->S+C1 (Ja4 u R' (⟨K,D,U⟩ :: qs.drop (x+1)))=C1 (Ja4 u R qs))
    (hs:(∀r∈R2,Jaw r)/\Jar (qs.drop (x+1))=by_ u R2/\C1 R2<=1000000/\okZ u R' (⟨K,D,U⟩ :: qs.drop (x+1))=okZ u R2 (qs.drop (x+1))/\C1 (Ja4 u R' (⟨K,D,U⟩ :: qs.drop (x+1)))=(A+(U.length:Int))+C1 (Ja4 u R2 (qs.drop (x+1))))
    (hsl:sl wn k p n c (rowZ u R2)) (h0:0<=S) (h1:S<=2000000*(x:Int)) (hA0:0<=A) (hA:A<=1000000) (hU:U.length<=1000000) (hb:Below w.heap.size w wn):szI w u k R qs (x+1) (.int .i64 (S+A+U.length)) (.slice p n c) wn:=by
 obtain⟨s1,s2,s3,s4,s5⟩:=hs;refine⟨_,p,n,c,R2,rfl,rfl,hsl,s1,s2,hok.trans s4,fun h=>?_,by omega,by rw[Int.natCast_add];omega,s3,hx,hb⟩;have:=hcome h;omega
end
section
open Go.RowKit
attribute [local go_sem] Oper.semAt_some
theorem Jkn(p:Option Addr)(n c:Nat)(R:List Nat)(qs:List Pt)(v:Value)(w:World)(hT:Lib.Utf8Tabs 2 3 w)(hR:∀r∈R,Jaw r)(hsl:sl w .u8 p n c (rowZ 1 R))(hr:opAt w v qs)(hc:chkE qs (by_ 1 R)=0)(hl:qs.length<=1000)(hz:C1 R<=1000000)(hpl:∀q∈qs,q.put.length<=1000000) :
    Calls Tryz.prog 159 #[.slice p n c,v,.func (.func 94) #[] #[]] w fun e w'=>e=.returned (.tuple #[.int .i64 (szV 1 R qs),errV (szE 1 R qs)])/\Below w.heap.size w w':=by
 have hu:Ja3 1:=by unfold Ja3;omega
 obtain⟨hp1,hp2,hp3⟩:=JbZ hc;have HU:Hid (Ja3 1):=hu;have HT:Hid (Lib.Utf8Tabs 2 3 w):=hT;have HOP:Hid (opAt w v qs):=hr;have HP1:Hid (∀p∈qs,oneB p=true/\(scan p.put).2=true):=hp1;have HPL:Hid (∀q∈qs,q.put.length<=1000000):=hpl;have HST:Hid (szI w 1 .u8 R qs 0 (.int .i64 0) (.slice p n c) w):=Jhi hz hsl hR hp2;obtain⟨pq,cq,rfl,r1,r2,r3⟩:=hr;unfold maxLen at r2;obtain⟨N,hN⟩:∃N,qs.length=N:=⟨_,rfl⟩;rw[hN]at r1 hl ⊢;have HN:Hid (qs.length=N):=hN;have hN0:(N:Int)<=1000:=by omega
 clear hT hR hsl hc hp1 hp2 hp3 r3 hz hpl hu hN
 go_enter Tryz.func159,Tryz.ntmps159
 go_wp2
 go_loopw [8,9,18] (fun v8 v9 i wr=>∃x:Nat,i=.int .i64 x/\szI w 1 .u8 R qs x v8 v9 wr) (fun _ _ i _=>N - (intOf i).toNat)
 case atStart=>exact⟨0,rfl,HST.out⟩
 case round =>
  obtain⟨x,rfl,hst⟩:=hrel;obtain⟨S,p',n',c',R',rfl,rfl,hsl,hR',hlong,hok,hcome,hS0,hS1,hCR,hx,hbw⟩:=hst;clear HST
  by_cases hlt:x<N
  . have hxr : x<qs.length:=by rw[HN.out];exact hlt
    have hne:qs≠[]:=by intro e;rw[e]at hxr;exact absurd hxr (Nat.not_lt_zero _)
    obtain⟨p0,c0,hvv,_,_,hcell⟩:=HOP.out;obtain⟨b0,o,rfl,hb0,hcell⟩:=hcell hne;obtain⟨f0,f1,f2⟩:=hcell x qs[x] (lgg hxr);have g0:=(hbw.cell (p:=⟨b0,o+x*3,none⟩) hb0).trans f0;have g1:=(hbw.cell (p:=⟨b0,o+x*3+1,none⟩) hb0).trans f1;have g2:=(hbw.cell (p:=⟨b0,o+x*3+2,none⟩) hb0).trans f2;obtain rfl:pq=some ⟨b0,o,none⟩:=by injection hvv
    clear hvv hcell f0 f1 f2 hne;have hq:=HP1.out _ (List.getElem_mem hxr);have hputl:=HPL.out _ (List.getElem_mem hxr);have hdk:qs.drop x=qs[x] :: qs.drop (x+1):=List.drop_eq_getElem_cons hxr;have hstep:=JfW HU.out hdk hq (fun y hy=>HP1.out y (List.mem_of_mem_drop hy)) hsl hR' hlong hCR;rw[hdk]at hok hcome;have HOK:Hid (okZ 1 R qs=okZ 1 R' (qs[x] :: qs.drop (x+1))):=hok;have HCOME:Hid (okZ 1 R qs=true->S+C1 (Ja4 1 R' (qs[x] :: qs.drop (x+1)))=C1 (Ja4 1 R qs)):=hcome;have HBW:=hdz hbw;have HX:Hid (x<qs.length):=hxr;have HSL:Hid (sl wr .u8 p' n' c' (rowZ 1 R')):=hsl;have HR':Hid (∀r∈R',Jaw r):=hR';have HCR:Hid (C1 R'<=1000000):=hCR;clear hok hcome hbw hsl hR' hlong hdk;generalize qs[x]=q at *;obtain⟨K,D,U⟩:=q;simp only at g0 g1 g2 hputl;have hK0:0<=K:=hstep.k0;have hD0:0<=D:=hstep.d0;have hKD:K+D<=(n':Int):=hstep.le;obtain⟨hcc,hcm,hnn⟩:=Jiv HSL.out;unfold maxLen at hcm;have HSTEP:Hid (szStep 1 R' ⟨K,D,U⟩ (qs.drop (x+1)) n'):=hstep;have hUz:(ByteArray.mk U.toArray).size=U.length:=by simp[ByteArray.size]
    obtain⟨M,hM⟩:∃M:Nat,K+D=(M:Int):=⟨(K+D).toNat,by omega⟩;have hMn:M<=n':=by omega
    have HPC:Hid (sl wr .u8 p' M c' ((rowZ 1 R').take M)):=JfY HSL.out hMn;have hxlN:(x:Int)<(N:Int):=by omega
    clear hstep hnn hxr
    by_cases he:JaU R' 1 (K+D)=true
    . obtain ⟨hpX,hX1,hX2,hX3⟩:=JcN HU.out HSTEP.out HR'.out HCR.out he
      have hMt:(K+D).toNat=M:=by omega
      rw[hMt]at hpX;obtain⟨X,hXe⟩:∃X,upTo R' 1 (K+D)=X:=⟨_,rfl⟩;rw[hXe]at hpX hX1 hX2 hX3;have hbz:(Jao X).size=(encs X).length:=by simp[Jao,ByteArray.size]
      have hXl:((encs X).length:Int)<=1000000:=by have:=JbU X;omega
      have cT:Hid (∀wx,Below w.heap.size w wx->sl wx .u8 p' M c' ((rowZ 1 R').take M)->Calls Tryz.prog 94 #[.slice p' M c'] wx fun e w'=>e=.returned (.tuple #[.string (Jao X),.nilIface])/\Below wx.heap.size wx w'):=fun wx hb hs=>Jnl X hX2 hX1 p' M c' wx (Go.Proofs.Utf8Tabs_below HT.out hb) (by rw[←hpX];exact hs)
      have HX3:=hdz hX3;have hS3:S<=2000000*(x:Int):=hS1;have hxx:(x:Int)<1000:=by omega
      generalize Jao X=bX at *;clear hX1 hX2 hX3 hpX hXe he hM hS1
      by_cases hK:0<K
      . go_wp2_with (first
          | (go_at_call 94;refine(cT.out _ (by exact HBW.out.alloc HBW.out.size _) (by exact Jb7 HPC.out ((brf wr.heap.size wr).alloc (nlr _) _) (nlr _))).mono ?_;rintro e w2 ⟨rfl,hb2⟩;have HB2:Hid (Below wr.heap.size wr w2):=((brf wr.heap.size wr).alloc (nlr _) _).trans (hb2.mono (by simp));have hz2:wr.heap.size+1<=w2.heap.size:=by have:=hb2.size;simpa using this
             have x0:w2.cell? ⟨wr.heap.size,0,none⟩=some (.int .i64 K):=(hb2.cell (p:=⟨wr.heap.size,0,none⟩) (by simp)).trans (by simp);have x1:w2.cell? ⟨wr.heap.size,1,none⟩=some (.int .i64 D):=(hb2.cell (p:=⟨wr.heap.size,1,none⟩) (by simp)).trans (by simp)
             have x2:w2.cell? ⟨wr.heap.size,2,none⟩=some (.string ⟨U.toArray⟩):=(hb2.cell (p:=⟨wr.heap.size,2,none⟩) (by simp)).trans (by simp);clear hb2)
          | fail)
        refine⟨⟨x+1,by go_num,?_⟩,by simp[intOf];omega⟩;obtain⟨y1,y2,y3,y4,y5,y6⟩:=HX3.out;have hs2:=Jb7 (Jf2 HSL.out hMn) HB2.out (nlr _);have hy1:(rowZ 1 R').drop M=rowZ 1 (Jbb 1 R' (K+D)):=by rw[←hMt];exact y1
        rw[hy1]at hs2;exact JeM (A:=((encs X).length:Int)) HX.out HOK.out HCOME.out ⟨y2,y3,y4,y5,by rw[y6,if_pos hK,JbU]⟩ hs2 hS0 hS3 (by omega) (by omega) hputl (HBW.out.trans (HB2.out.mono HBW.out.size))
      . go_wp2_with (first
          | (go_at_call 94;refine(cT.out _ (by exact HBW.out.alloc HBW.out.size _) (by exact Jb7 HPC.out ((brf wr.heap.size wr).alloc (nlr _) _) (nlr _))).mono ?_;rintro e w2 ⟨rfl,hb2⟩;have HB2:Hid (Below wr.heap.size wr w2):=((brf wr.heap.size wr).alloc (nlr _) _).trans (hb2.mono (by simp));have hz2:wr.heap.size+1<=w2.heap.size:=by have:=hb2.size;simpa using this
             have x0:w2.cell? ⟨wr.heap.size,0,none⟩=some (.int .i64 K):=(hb2.cell (p:=⟨wr.heap.size,0,none⟩) (by simp)).trans (by simp);have x1:w2.cell? ⟨wr.heap.size,1,none⟩=some (.int .i64 D):=(hb2.cell (p:=⟨wr.heap.size,1,none⟩) (by simp)).trans (by simp)
             have x2:w2.cell? ⟨wr.heap.size,2,none⟩=some (.string ⟨U.toArray⟩):=(hb2.cell (p:=⟨wr.heap.size,2,none⟩) (by simp)).trans (by simp);clear hb2)
          | fail)
        refine⟨⟨x+1,by go_num,?_⟩,by simp[intOf];omega⟩;obtain⟨y1,y2,y3,y4,y5,y6⟩:=HX3.out;have hs2:=Jb7 (Jf2 HSL.out hMn) HB2.out (nlr _);have hy1:(rowZ 1 R').drop M=rowZ 1 (Jbb 1 R' (K+D)):=by rw[←hMt];exact y1
        rw[hy1]at hs2;have hfin:=JeM (A:=0) HX.out HOK.out HCOME.out ⟨y2,y3,y4,y5,by rw[y6,if_neg (by omega)]⟩ hs2 hS0 hS3 (by omega) (by omega) hputl (HBW.out.trans (HB2.out.mono HBW.out.size));rw[Int.add_zero]at hfin;exact hfin
    . have he:JaU R' 1 (K+D)=false:=by simpa using he
      have hbad:=JfX HU.out HSTEP.out HR'.out he;have hMt:(K+D).toNat=M:=by omega
      rw[hMt]at hbad;have HV:Hid (szV 1 R qs=0/\szE 1 R qs=10):=Jo7 (by rw[HOK.out];unfold okZ;rw[show lenP ⟨K,D,U⟩=K+D from rfl,he];rfl);have cT:Hid (∀wx,Below w.heap.size w wx->sl wx .u8 p' M c' ((rowZ 1 R').take M)->Calls Tryz.prog 94 #[.slice p' M c'] wx fun e w'=>∃s bx,e=.returned (.tuple #[.string s,atV bx])/\Below wx.heap.size wx w'):=fun wx hb hs=>Jo2 R' M hbad HCR.out p' M c' wx (Go.Proofs.Utf8Tabs_below HT.out hb) hs
      unfold atV at cT;clear hbad he hM
      go_wp2_with (first
       | (go_at_call 94;refine(cT.out _ (by exact HBW.out.alloc HBW.out.size _) (by exact Jb7 HPC.out ((brf wr.heap.size wr).alloc (nlr _) _) (nlr _))).mono ?_;rintro e w2 ⟨s2,bx,rfl,hb2⟩;have HB2:Hid (Below wr.heap.size wr w2):=((brf wr.heap.size wr).alloc (nlr _) _).trans (hb2.mono (by simp));clear hb2)
       | fail)
      go_ret2
      refine⟨?_,HBW.out.trans (HB2.out.mono HBW.out.size)⟩;rw[HV.out.1,HV.out.2];rfl
  . obtain rfl:x=N:=by have:=HN.out;omega
    have hxlN:¬((x:Int)<(x:Int)):=by omega
    have HV:Hid (szV 1 R qs=S/\szE 1 R qs=0):=by
     rw[←HN.out,List.drop_length]at hok hcome;exact Jlp hok hcome
    have HBW:=hdz hbw;clear hok hcome hsl hR' hlong hbw;go_wp2
    go_ret2
    refine⟨?_,HBW.out⟩;rw[HV.out.1,HV.out.2];rfl
end
section
open Go.RowKit
variable {u : Int}
def plE (u:Int) (R:List Nat) (qs:List Pt):Int:=if okZ u R qs then (if C1 (Ja4 u R qs)<=8000 then 0 else 12) else 10
theorem Jd9:errV 0=.nilIface:=rfl
theorem Jmd:errV 10=.iface 26 (.int .i64 10):=rfl
theorem pl_no{R:List Nat}{qs:List Pt}(h:plE u R qs≠0):(szV u R qs=0/\szE u R qs=10/\plE u R qs=10)\/(szV u R qs=C1 (Ja4 u R qs)/\szE u R qs=0/\plE u R qs=12/\8000<C1 (Ja4 u R qs)):=by
 unfold plE at h;unfold szV szE plE
 split at h
 . split at h
   . exact absurd rfl h
   . rename_i h1 h2
     right
     rw[h1,if_pos rfl,if_pos rfl,if_pos rfl,if_neg h2];exact⟨rfl,rfl,rfl,by omega⟩
 . rename_i h1
   left
   rw[if_neg h1,if_neg h1,if_neg h1];exact⟨rfl,rfl,rfl⟩
theorem Jdn{w w':World}{b:Nat}{o:Obj}{v:Value}{N n e:Nat}{xs:List Value}(h:w.heap[b]?=some o)(hr:w.ownsRow N e 1 v n xs)(hg:w.grownBy w' v.ownBlock)(ho:∀c fz,o≠.cells c e fz):w'.heap[b]?=some o:=by
 refine(hg.block b (alt h) ?_).trans h;intro e
 rcases hr.2 with ⟨hx,_⟩|⟨g,cap,cur,rfl,_,hgg,_⟩
 . rw[hx]at e;cases e
 . have e2:some b=some g:=e
   obtain rfl:=osi e2;rw[h]at hgg;exact ho _ _ (osi hgg)
def plI (w:World) (e:TypeId) (u:Int) (k:IntKind) (R:List Nat) (qs:List Pt) (x:Nat) (v11 v12:Value) (wr:World):Prop :=
 ∃ (L:List Nat) (p:Option Addr) (n c:Nat) (R':List Nat),wr.ownsRow w.heap.size e 1 v11 (rowZ u L).length ((rowZ u L).map (Value.int k))/\v12=.slice p n c/\sl w k p n c (rowZ u R')/\(∀r∈R',Jaw r)/\Jar (qs.drop x)=by_ u R' /\
  okZ u R' (qs.drop x)=true/\Ja4 u R qs=L++Ja4 u R' (qs.drop x)/\C1 R'<=1000000/\x<=qs.length/\Below w.heap.size w wr/\w.heap.size<=wr.heap.size
theorem Jhq{w w1:World}{e:TypeId}{u:Int}{k:IntKind}{R:List Nat}{qs:List Pt}{p:Option Addr}{n c:Nat}(hz:C1 R<=1000000)(hsl:sl w k p n c (rowZ u R))(hR:∀r∈R,Jaw r)(hl:Jar qs=by_ u R)(hok:okZ u R qs=true)(hb:Below w.heap.size w w1):plI w e u k R qs 0 (.slice none 0 0) (.slice p n c) w1 :=
 ⟨[],p,n,c,R,by rw[JcD];exact World.ownsRow_nil _ _ _ _,rfl,hsl,hR,hl,hok,rfl,hz,Nat.zero_le _,hb,hb.size⟩
theorem JlH{R':List Nat}{Kn M:Nat}{D:Int}{U:List UInt8}{Y:List Nat}(h:oneB ⟨(Kn:Int),D,U⟩=true)(hM:(Kn:Int)+D=(M:Int))(hY:(if 0<(Kn:Int) then upTo R' u ((Kn:Int)+D) else [])=Y)(hp:(rowZ u R').take M=rowZ u (upTo R' u ((Kn:Int)+D))):(rowZ u R').take Kn=rowZ u Y:=by
 rcases Jd5 h with ⟨h1,h2,h3⟩|⟨h1,h2,h3⟩|⟨h1,h2,h3⟩
 . have h1:0<(Kn:Int):=h1
   have h2:D=0:=h2;rw[if_pos h1]at hY;have:Kn=M:=by omega
   rw[this,hp,hY]
 . have h1:(Kn:Int)=0:=h1
   rw[if_neg (by omega)]at hY;have:Kn=0:=by omega
   rw[this,←hY,JcD];rfl
 . have h1:(Kn:Int)=0:=h1
   rw[if_neg (by omega)]at hY;have:Kn=0:=by omega
   rw[this,←hY,JcD];rfl
theorem JhI(hu:Ja3 u)(rs:List Nat):by_ u rs<=2*C1 rs:=by
 have h1:=JdM rs;have h2:=Jqg rs;have h3:C3 rs<=C1 rs:=by
  have:=Jeu rs;rw[JbU];unfold C3;omega
 unfold by_
 rcases hu with rfl|rfl|rfl
 . rw[if_pos rfl];omega
 . rw[if_neg (by decide),if_pos rfl];omega
 . rw[if_neg (by decide),if_neg (by decide),if_pos rfl];omega
theorem JlG(hu:Ja3 u){R L Y V T:List Nat}{qs:List Pt}(h:C1 (Ja4 u R qs)<=8000)(e:Ja4 u R qs=(L++Y++V)++T):(rowZ u L).length<=16000/\(rowZ u Y).length<=16000/\(rowZ u V).length<=16000:=by
 rw[e,Jcp,Jcp,Jcp]at h;have h1:=JdM L;have h2:=JdM Y;have h3:=JdM V;have h4:=JdM T;have k1:=JhI hu L;have k2:=JhI hu Y;have k3:=JhI hu V;have l1:=JcE hu L;have l2:=JcE hu Y;have l3:=JcE hu V;omega
end
end Go.Proofs.YtedgnlgjmnccgabGreatDoor
