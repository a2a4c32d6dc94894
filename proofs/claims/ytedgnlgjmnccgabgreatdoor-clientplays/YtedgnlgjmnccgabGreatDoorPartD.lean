/-
  A part of the texts that the proof uses.
-/
import Derived.Test.YtedgnlgjmnccgabGreatDoorPartC
import Derived.Test.YtedgnlgjmnccgabGreatDoorPartB
import Derived.OwnWalkIn
import Derived.TacticsInMore
import Derived.LoopNIn
import Derived.LoopIn
import Derived.Stop.RegionWithIn
import Derived.Shelf.Strings.Builder1
import Derived.Shelf.Strings.Builder2
import Derived.Shelf.Small.Utf8
import Derived.Shelf.Strings.BuilderF
import Derived.Shelf.Strings.BuilderK
import Derived.Shelf.Utf8.AppendRunePlain
import Derived.Shelf.Utf8.RuneCount
import Derived.Shelf.Strings.Builder2Cap
import Derived.Shelf.LaysM
import Derived.Shelf.Strconv.Clone
import Derived.Shelf.Strings.Search1
import Derived.Shelf.Strings.Search2
import Derived.Shelf.Strings.Search3
import Derived.Shelf.Strings.Cut
import Derived.Shelf.Strings.Count
import Derived.Shelf.Strings.Shaped
import Derived.Shelf.Strings.RuneCount
import Derived.Shelf.Unicode.DecodeSlow
import Derived.Shelf.Unicode.DecodeAny
import Derived.Shelf.Strings.BuilderCap
import Derived.Test.YtedgnlgjmnccgabGreatDoorProg
import Derived.Lib.Builder
import Derived.Lib.OthersKept
import Derived.Lib.FrozenHead
import Derived.Laws.EntriesVeiled
set_option maxRecDepth 100000
set_option maxHeartbeats 40000000
set_option linter.unusedVariables false
namespace Go.Proofs.YtedgnlgjmnccgabGreatDoor
section
open Go.RowKit
structure BdK (s:KSt) (T k:Nat):Prop where
 put:s.put.length<=T
 d0:0<=s.drop
 dk:s.drop<=k
 k0:0<=s.keep
 kk:s.keep<=k
 len:s.out.length<=3*k
theorem bdk0:BdK kst0 0 0:=⟨by simp[kst0],by simp[kst0],by simp[kst0],by simp[kst0],by simp[kst0],by simp[kst0]⟩
theorem JpP(s:NSt):(Jaq s).length<=s.out.length+2:=by
 unfold Jaq;simp only[List.length_append]
 split<;>split<;>simp
theorem BdK.step{s:KSt}{T k:Nat}(h:BdK s T k)(x:List UInt8×Bool):BdK (Jdp s x) (T+x.1.length) (k+1):=by
 obtain⟨q,d⟩:=x;obtain⟨h1,h2,h3,h4,h5,h6⟩:=h
 have hf:(Jbm s q d).put.length<=T+q.length/\(Jbm s q d).drop=s.drop/\0<=(Jbm s q d).keep/\(Jbm s q d).keep<=k/\(Jbm s q d).out.length<=3*k+1:=by
  unfold Jbm
  split
  . refine ⟨by show(s.put++q).length<=_;rw[List.length_append];omega,rfl,?_,?_,?_⟩
    . show 0<=if 0<s.keep then 0 else s.keep;split<;>omega
    . show(if 0<s.keep then 0 else s.keep)<=_;split<;>omega
    . show(if 0<s.keep then s.out++[⟨s.keep,0,[]⟩] else s.out).length<=_
      split
      . rw[List.length_append,List.length_singleton];omega
      . omega
  . exact⟨by omega,rfl,h4,h5,by omega⟩
 obtain⟨f1,f2,f3,f4,f5⟩:=hf;show BdK (JcO (Jbm s q d) d) (T+q.length) (k+1);generalize Jbm s q d=t at *;unfold JcO
 cases d with
 | true=>exact⟨f1,by show 0<=t.drop+1;omega,by show t.drop+1<=_;omega,f3,by show t.keep<=_;omega,by show t.out.length<=_;omega⟩
 | false =>
  have:(Jaq ⟨t.out,t.put,t.drop⟩).length<=t.out.length+2:=JpP _;exact⟨Nat.zero_le _,Int.le_refl _,by show(0:Int)<=_;omega,by show 0<=t.keep+1;omega,by show t.keep+1<=_;omega,by show(Jaq ⟨t.out,t.put,t.drop⟩).length<=_;omega⟩
def JbZ (l:List (List UInt8×Bool)):Nat:=(l.map fun x=>x.1.length).sum
theorem JgG(l:List (List UInt8×Bool))(x:List UInt8×Bool):JbZ (l++[x])=JbZ l+x.1.length:=by simp[JbZ]
theorem bdks(l:List (List UInt8×Bool))(k:Nat)(hk:k<=l.length):BdK ((l.take k).foldl Jdp kst0) (JbZ (l.take k)) k:=by
 induction k with
 | zero=>exact bdk0
 | succ k ih =>
  have:=ih (by omega);rw[List.take_succ_eq_append_getElem (by omega),List.foldl_append];rw[JgG];exact this.step _
theorem JiX(l:List (List UInt8×Bool))(k:Nat):JbZ (l.take k)<=JbZ l:=by
 have h1:JbZ l=JbZ (l.take k)+JbZ (l.drop k):=by
  unfold JbZ;rw[←List.sum_append,←List.map_append,List.take_append_drop]
 omega
theorem Jj4(g1 g2 n:Nat)(G:GSt)(w:World)(hn:G.1.length=n)(hn':n<10000000)(hsz:JbZ G.1+G.2.length<1000000000)
    (h1:∀(i:Nat) q,(G.1.map (·.1)++[G.2])[i]?=some q->w.cell? ⟨g1,i,none⟩=some (strV q)) (h2:∀(i:Nat) d,(G.1.map (·.2))[i]?=some d->w.cell? ⟨g2,i,none⟩=some (.bool d)) (lt1:g1<w.heap.size) (lt2:g2<w.heap.size) :
    Calls Tryz.prog 185 #[.agg #[.slice (some ⟨g1,0,none⟩) (n+1) (n+1),.slice (some ⟨g2,0,none⟩) n n]] w fun e w'=>∃v,e=.returned v/\w'.ownsRow w.heap.size 50 3 v (JcY G).length (JaD (JcY G))/\Below w.heap.size w w':=by
 obtain⟨i0,hi,hz0,hz1,hz2⟩:=info_parts Jbf;have H1:Hid (∀(i:Nat) q,(G.1.map (·.1)++[G.2])[i]?=some q->w.cell? ⟨g1,i,none⟩=some (strV q)):=h1;have H2:Hid (∀(i:Nat) d,(G.1.map (·.2))[i]?=some d->w.cell? ⟨g2,i,none⟩=some (.bool d)):=h2;have HN:Hid (G.1.length=n):=hn;have HSZ:Hid (JbZ G.1+G.2.length<1000000000):=hsz;have hwn:IntKind.i64.wrap ((n:Int)+1)=(n:Int)+1:=by rw[IntKind.wrap_i64];omega
 clear h1 h2 hn hsz
 go_enter Tryz.func185,Tryz.ntmps185
 go_wp2
 go_loopw [6,14] (fun kp i wr=>∃(k:Nat),k<=n/\i=.int .i64 k/\kp=.int .i64 ((G.1.take k).foldl Jdp kst0).keep /\
     rgath wr (w.heap.size+1) ⟨((G.1.take k).foldl Jdp kst0).out,((G.1.take k).foldl Jdp kst0).put,((G.1.take k).foldl Jdp kst0).drop⟩ /\
     wr.cell? ⟨w.heap.size,0,none⟩=some (.slice (some ⟨g1,0,none⟩) (n+1) (n+1))/\wr.cell? ⟨w.heap.size,1,none⟩=some (.slice (some ⟨g2,0,none⟩) n n)/\Below w.heap.size w wr) (fun _ i _=>n+1 - (intOf i).toNat)
 case atStart =>
  refine⟨0,Nat.zero_le _,rfl,rfl,⟨⟨none,0,by simp[go_sem,kst0],World.ownsRow_nil _ _ _ _⟩,by simp[go_sem],by simp[go_sem,kst0],by simp[go_sem],by simp[go_sem,kst0],by simp[go_sem]⟩,by simp[go_sem],by simp[go_sem],?_⟩;have b1:=(brf w.heap.size w).alloc (nlr _) (.cells #[.slice (some ⟨g1,0,none⟩) (n+1) (n+1),.slice (some ⟨g2,0,none⟩) n n] 292);have b2:=b1.alloc b1.size (.cells #[.slice none 0 0] 23);have b3:=b2.alloc b2.size (.cells #[.string ⟨#[]⟩] 9);exact b3.alloc b3.size _
 case round =>
  obtain⟨k,hk,rfl,rfl,hg,b0,b1,hwr⟩:=hrel;have hbd:=bdks G.1 k (by rw[HN.out];exact hk);have hpt:=JiX G.1 k;have hlt:=JbE hg
  by_cases hkn:k<n
  . have hkr : k<G.1.length:=by rw[HN.out];exact hkn
    have e1:=H1.out k G.1[k].1 (by rw[List.getElem?_append_left (by simpa using hkr),List.getElem?_map,lgg hkr];rfl);have e2:=H2.out k G.1[k].2 (by rw[List.getElem?_map,lgg hkr];rfl);have c1:=(hwr.cell (p:=⟨g1,k,none⟩) lt1).trans e1;have c2:=(hwr.cell (p:=⟨g2,k,none⟩) lt2).trans e2;have hst:(G.1.take (k+1)).foldl Jdp kst0=Jdp ((G.1.take k).foldl Jdp kst0) G.1[k]:=by rw[List.take_succ_eq_append_getElem hkr,List.foldl_append];rfl
    have hql:G.1[k].1.length<=JbZ G.1:=by
     have:=JiX G.1 (k+1);rw[List.take_succ_eq_append_getElem hkr,JgG]at this;omega
    have hsz:=HSZ.out;generalize G.1[k]=x at *;generalize (G.1.take k).foldl Jdp kst0=K at *;obtain⟨q,d⟩:=x;obtain⟨out,put,drop,keep⟩:=K;have hbd':=hbd;obtain⟨f1,f2,f3,f4,f5,f6⟩:=hbd';simp only at f1 f2 f3 f4 f5 f6 c1 c2 hg hql ⊢;unfold strV at c1;have hcat:=Jd5 put q;have hcb:¬9223372036854775807<put.length+q.length:=by omega
    have HG:Hid (rgath wr (w.heap.size+1) ⟨out,put,drop⟩):=hg;obtain⟨⟨p,c,o0,o1⟩,o2,o3,o4,o5,o6⟩:=hg;have HO:Hid (wr.ownsRow (w.heap.size+1+3) 50 3 (.slice p out.length c) out.length (JaD out)):=o1;have HC:Hid (wr.cell? ⟨w.heap.size+1,0,none⟩=some (.slice p out.length c)):=o0;have HW:=hdz hwr;have lt1':g1<wr.heap.size:=Nat.lt_of_lt_of_le lt1 hwr.size;have hkz:(k:Int)<(n:Int)+1:=by omega
    have hkz2:(k:Int)<(n:Int):=by omega
    have hkb:((k:Int)==(n:Int))=false:=beq_eq_false_iff_ne.2 (by omega);have hw1:IntKind.i64.wrap (drop+1)=drop+1:=by rw[IntKind.wrap_i64];omega
    have hw2:IntKind.i64.wrap (keep+1)=keep+1:=by rw[IntKind.wrap_i64];omega
    have hw3:IntKind.i64.wrap ((0:Int)+1)=1:=by rw[IntKind.wrap_i64];rfl
    have hol:out.length<500000000:=by omega
    clear e1 e2 o1 hwr hbd hpt hsz hql
    by_cases hq:q=[]
    . cases d with
      | true =>
       by_cases hkp:(0:Int)<keep
       . skip
         subst hq;have hcat0:(ByteArray.mk put.toArray++ByteArray.mk #[]:ByteArray)=⟨put.toArray⟩:=by have:=Jd5 put [];simpa using this
         have hcb0:¬9223372036854775807<put.length:=by have:=hcb;simp at this;omega
         clear hcat hcb
         go_wp2_with (at_builtin;refine wpList_append_own _ rfl _ _ 23 rfl (w.heap.size+1+3) 50 i0 (.agg #[.int .i64 0,.int .i64 0,.string ⟨#[]⟩]) 3 32 Tryz.underlying23 hi hz0 hz1 hz2 rfl (by decide) _ _ _ rfl (HO.out.alloc _) ⟨wr.heap.size,0,none⟩ 1 1 (Ja6 ⟨keep,0,[]⟩) rfl rfl (JaW _ _ _) (Ja4 _) (by unfold maxLen;omega) (by omega) (by first | omega | (simp;omega)) ?_)
         intro v1 w1 hown1 hg1 _;have P1:=Jct (q:=⟨keep,0,[]⟩) HG.out HC.out hown1 hg1;obtain⟨p1,q1,hv1⟩:=Jae hown1;rw[hv1]at P1 ⊢;obtain⟨G1,B1,hb1,r1,r2⟩:=P1;have k3:=(hb1.cell (p:=⟨w.heap.size+1+1,0,none⟩) (by show w.heap.size+1+1<_;omega)).trans o3;have k4:=(hb1.frozen (p:=⟨w.heap.size+1+1,0,none⟩) (by show w.heap.size+1+1<_;omega)).trans o4;have k5:=(hb1.cell (p:=⟨w.heap.size+1+2,0,none⟩) (by show w.heap.size+1+2<_;omega)).trans o5;have k6:=(hb1.frozen (p:=⟨w.heap.size+1+2,0,none⟩) (by show w.heap.size+1+2<_;omega)).trans o6;have k7:=(hb1.cell (p:=⟨w.heap.size,0,none⟩) (by show w.heap.size<_;omega)).trans b0;have k8:=(hb1.cell (p:=⟨w.heap.size,1,none⟩) (by show w.heap.size<_;omega)).trans b1;have k9:=(hb1.cell (p:=⟨g1,k,none⟩) (by show g1<_;omega)).trans c1;have k10:=(hb1.cell (p:=⟨g2,k,none⟩) (by show g2<_;omega)).trans c2;have HG2:Hid (rgath (w1.setCell ⟨w.heap.size+1,0,none⟩ (.slice p1 (out.length+1) q1)) (w.heap.size+1) ⟨out++[⟨keep,0,[]⟩],put,drop⟩):=G1;have HW2:Hid (Below w.heap.size w (w1.setCell ⟨w.heap.size+1,0,none⟩ (.slice p1 (out.length+1) q1))):=HW.out.trans (B1.mono (by omega));clear hown1 hg1 hv1 G1 B1 hb1 o0 o2 o3 o4 o5 o6 b0 b1 c1 HG HC HO HW c2;go_wp2;have m3:=(Jab (show w.heap.size+1+1≠w.heap.size+1 by omega) (.slice p1 (out.length+1) q1)).trans k3;have m4:(w1.setCell ⟨w.heap.size+1,0,none⟩ (.slice p1 (out.length+1) q1)).frozen? ⟨w.heap.size+1+1,0,none⟩=false:=by rw[World.frozen?_setCell];exact k4
         have m5:=(Jab (show w.heap.size+1+2≠w.heap.size+1 by omega) (.slice p1 (out.length+1) q1)).trans k5;have m6:(w1.setCell ⟨w.heap.size+1,0,none⟩ (.slice p1 (out.length+1) q1)).frozen? ⟨w.heap.size+1+2,0,none⟩=false:=by rw[World.frozen?_setCell];exact k6
         have m7:=(Jab (show w.heap.size≠w.heap.size+1 by omega) (.slice p1 (out.length+1) q1)).trans k7;have m8:=(Jab (show w.heap.size≠w.heap.size+1 by omega) (.slice p1 (out.length+1) q1)).trans k8;have m9:=(Jab (show g1≠w.heap.size+1 by omega) (.slice p1 (out.length+1) q1)).trans k9;have m10:=(Jab (show g2≠w.heap.size+1 by omega) (.slice p1 (out.length+1) q1)).trans k10;clear k3 k4 k5 k6 k7 k8 k9 r1 r2 k10;generalize w1.setCell ⟨w.heap.size+1,0,none⟩ (.slice p1 (out.length+1) q1)=W2 at *;have hl2:=JbE HG2.out;have P3:=Jcc HG2.out (put);have HG3:Hid (rgath (W2.setCell ⟨w.heap.size+1+1,0,none⟩ (.string ⟨(put).toArray⟩)) (w.heap.size+1) ⟨out++[⟨keep,0,[]⟩],put,drop⟩):=P3.1;have HW3:Hid (Below w.heap.size w (W2.setCell ⟨w.heap.size+1+1,0,none⟩ (.string ⟨(put).toArray⟩))):=HW2.out.trans (P3.2.mono (show w.heap.size<=w.heap.size+1 by omega));clear P3
         go_region
         have HST:Hid ((G.1.take (k+1)).foldl Jdp kst0=⟨out++[⟨keep,0,[]⟩],put,drop+1,0⟩):=by
          show _=_;rw[hst];show JcO (Jbm ⟨out,put,drop,keep⟩ [] true) true=_;unfold Jbm;rw[if_pos (.inr rfl)];have hi0:∀(x y:List Pt),(if 0<keep then x else y)=x:=fun x y=>if_pos hkp;have hi1:(if 0<keep then (0:Int) else keep)=0:=if_pos hkp;simp only[hi0,hi1,List.append_nil];rfl
         clear hst;have z7:(W2.setCell ⟨w.heap.size+1+1,0,none⟩ (.string ⟨(put).toArray⟩)).cell? ⟨w.heap.size,0,none⟩=some (.slice (some ⟨g1,0,none⟩) (n+1) (n+1)):=(Jab (show w.heap.size≠w.heap.size+1+1 by omega) _).trans m7;have z8:(W2.setCell ⟨w.heap.size+1+1,0,none⟩ (.string ⟨(put).toArray⟩)).cell? ⟨w.heap.size,1,none⟩=some (.slice (some ⟨g2,0,none⟩) n n):=(Jab (show w.heap.size≠w.heap.size+1+1 by omega) _).trans m8;have Z7:=hdz z7;have Z8:=hdz z8;have P4:=Jc8 HG3.out (drop+1);have HP4:Hid _:=Jcl P4.1 (brf _ _).drew;have HP5:Hid _:=(HW3.out.trans (P4.2.mono (show w.heap.size<=w.heap.size+1 by omega))).drew;clear P4 z7 z8;go_wp2
         go_roundw
         case rel=>exact⟨k+1,by omega,by go_num,by rw[HST.out],by rw[HST.out];exact HP4.out,(Jab (show w.heap.size≠w.heap.size+1+2 by omega) _).trans Z7.out,(Jab (show w.heap.size≠w.heap.size+1+2 by omega) _).trans Z8.out,HP5.out⟩
         case measure=>simp[intOf];omega
       . skip
         subst hq;have hcat0:(ByteArray.mk put.toArray++ByteArray.mk #[]:ByteArray)=⟨put.toArray⟩:=by have:=Jd5 put [];simpa using this
         have hcb0:¬9223372036854775807<put.length:=by have:=hcb;simp at this;omega
         clear hcat hcb;have hkp':¬(0:Int)<keep:=hkp;go_wp2;have m3:=o3;have m4:=o4;have m5:=o5;have m6:=o6;have m7:=b0;have m8:=b1;have m9:=c1;have HG2:=HG;have HW2:=HW;have m10:=c2;clear o0 o2 o3 o4 o5 o6 b0 b1 c1 HG HC HO HW c2;obtain⟨W2,hW2⟩:∃W,W=wr:=⟨_,rfl⟩;rw[←hW2]at m3 m4 m5 m6 m7 m8 m9 m10 HG2 HW2 lt1' ⊢;clear hW2;have hl2:=JbE HG2.out;have P3:=Jcc HG2.out (put);have HG3:Hid (rgath (W2.setCell ⟨w.heap.size+1+1,0,none⟩ (.string ⟨(put).toArray⟩)) (w.heap.size+1) ⟨out,put,drop⟩):=P3.1;have HW3:Hid (Below w.heap.size w (W2.setCell ⟨w.heap.size+1+1,0,none⟩ (.string ⟨(put).toArray⟩))):=HW2.out.trans (P3.2.mono (show w.heap.size<=w.heap.size+1 by omega));clear P3
         go_region
         have HST:Hid ((G.1.take (k+1)).foldl Jdp kst0=⟨out,put,drop+1,keep⟩):=by
          show _=_;rw[hst];show JcO (Jbm ⟨out,put,drop,keep⟩ [] true) true=_;unfold Jbm;rw[if_pos (.inr rfl)];have hi0:∀(x y:List Pt),(if 0<keep then x else y)=y:=fun x y=>if_neg (by omega);have hi1:(if 0<keep then (0:Int) else keep)=keep:=if_neg (by omega);simp only[hi0,hi1,List.append_nil];rfl
         clear hst;have z7:(W2.setCell ⟨w.heap.size+1+1,0,none⟩ (.string ⟨(put).toArray⟩)).cell? ⟨w.heap.size,0,none⟩=some (.slice (some ⟨g1,0,none⟩) (n+1) (n+1)):=(Jab (show w.heap.size≠w.heap.size+1+1 by omega) _).trans m7;have z8:(W2.setCell ⟨w.heap.size+1+1,0,none⟩ (.string ⟨(put).toArray⟩)).cell? ⟨w.heap.size,1,none⟩=some (.slice (some ⟨g2,0,none⟩) n n):=(Jab (show w.heap.size≠w.heap.size+1+1 by omega) _).trans m8;have Z7:=hdz z7;have Z8:=hdz z8;have P4:=Jc8 HG3.out (drop+1);have HP4:Hid _:=Jcl P4.1 (brf _ _).drew;have HP5:Hid _:=(HW3.out.trans (P4.2.mono (show w.heap.size<=w.heap.size+1 by omega))).drew;clear P4 z7 z8;go_wp2
         go_roundw
         case rel=>exact⟨k+1,by omega,by go_num,by rw[HST.out],by rw[HST.out];exact HP4.out,(Jab (show w.heap.size≠w.heap.size+1+2 by omega) _).trans Z7.out,(Jab (show w.heap.size≠w.heap.size+1+2 by omega) _).trans Z8.out,HP5.out⟩
         case measure=>simp[intOf];omega
      | false =>
       subst hq;have hcat0:(ByteArray.mk put.toArray++ByteArray.mk #[]:ByteArray)=⟨put.toArray⟩:=by have:=Jd5 put [];simpa using this
       have hcb0:¬9223372036854775807<put.length:=by have:=hcb;simp at this;omega
       clear hcat hcb;have m3:=o3;have m4:=o4;have m5:=o5;have m6:=o6;have m7:=b0;have m8:=b1;have m9:=c1;have HG2:=HG;have HW2:=HW;have m10:=c2;clear o0 o2 o3 o4 o5 o6 b0 b1 c1 HG HC HO HW c2;obtain⟨W2,hW2⟩:∃W,W=wr:=⟨_,rfl⟩;rw[←hW2]at m3 m4 m5 m6 m7 m8 m9 m10 HG2 HW2 lt1' ⊢;clear hW2;have hl2:=JbE HG2.out;have HG3:=HG2;have HW3:=HW2;have HST:Hid ((G.1.take (k+1)).foldl Jdp kst0=⟨Jaq ⟨out,put,drop⟩,[],0,keep+1⟩):=by
        show _=_;rw[hst];show JcO (Jbm ⟨out,put,drop,keep⟩ [] false) false=_;unfold Jbm;rw[if_neg (by simp)];rfl
       clear hst;have z7:=m7;have z8:=m8;have Z7:=hdz z7;have Z8:=hdz z8;have HGD:=HG3.out;have cD:=Jc3 (w.heap.size+1) _ _ HGD (by show(out).length<_;first | omega | (rw[List.length_append];show out.length+1<_;omega)) (by show 0<=drop;omega);have HL3:=HW3.out.size;clear z7 z8 HGD
       go_wp2_with (go_at_call 227;refine cD.mono ?_;rintro e w4 ⟨⟨v4,rfl⟩,hg4,hb4⟩;have HG4:=hdz hg4;have HB4:=hdz hb4;clear hg4 hb4)
       go_roundw
       case rel=>exact⟨k+1,by omega,by go_num,by rw[HST.out]<;>first | rfl | go_num,by rw[HST.out];exact HG4.out,(HB4.out.cell (p:=⟨w.heap.size,0,none⟩) (by show w.heap.size<_;omega)).trans Z7.out,(HB4.out.cell (p:=⟨w.heap.size,1,none⟩) (by show w.heap.size<_;omega)).trans Z8.out,HW3.out.trans (HB4.out.mono (show w.heap.size<=w.heap.size+1 by omega))⟩
       case measure=>simp[intOf];omega
    . cases d with
      | true =>
       by_cases hkp:(0:Int)<keep
       . skip
         have hqe:q.isEmpty=false:=by simpa using hq
         go_wp2_with (at_builtin;refine wpList_append_own _ rfl _ _ 23 rfl (w.heap.size+1+3) 50 i0 (.agg #[.int .i64 0,.int .i64 0,.string ⟨#[]⟩]) 3 32 Tryz.underlying23 hi hz0 hz1 hz2 rfl (by decide) _ _ _ rfl (HO.out.alloc _) ⟨wr.heap.size,0,none⟩ 1 1 (Ja6 ⟨keep,0,[]⟩) rfl rfl (JaW _ _ _) (Ja4 _) (by unfold maxLen;omega) (by omega) (by first | omega | (simp;omega)) ?_)
         intro v1 w1 hown1 hg1 _;have P1:=Jct (q:=⟨keep,0,[]⟩) HG.out HC.out hown1 hg1;obtain⟨p1,q1,hv1⟩:=Jae hown1;rw[hv1]at P1 ⊢;obtain⟨G1,B1,hb1,r1,r2⟩:=P1;have k3:=(hb1.cell (p:=⟨w.heap.size+1+1,0,none⟩) (by show w.heap.size+1+1<_;omega)).trans o3;have k4:=(hb1.frozen (p:=⟨w.heap.size+1+1,0,none⟩) (by show w.heap.size+1+1<_;omega)).trans o4;have k5:=(hb1.cell (p:=⟨w.heap.size+1+2,0,none⟩) (by show w.heap.size+1+2<_;omega)).trans o5;have k6:=(hb1.frozen (p:=⟨w.heap.size+1+2,0,none⟩) (by show w.heap.size+1+2<_;omega)).trans o6;have k7:=(hb1.cell (p:=⟨w.heap.size,0,none⟩) (by show w.heap.size<_;omega)).trans b0;have k8:=(hb1.cell (p:=⟨w.heap.size,1,none⟩) (by show w.heap.size<_;omega)).trans b1;have k9:=(hb1.cell (p:=⟨g1,k,none⟩) (by show g1<_;omega)).trans c1;have k10:=(hb1.cell (p:=⟨g2,k,none⟩) (by show g2<_;omega)).trans c2;have HG2:Hid (rgath (w1.setCell ⟨w.heap.size+1,0,none⟩ (.slice p1 (out.length+1) q1)) (w.heap.size+1) ⟨out++[⟨keep,0,[]⟩],put,drop⟩):=G1;have HW2:Hid (Below w.heap.size w (w1.setCell ⟨w.heap.size+1,0,none⟩ (.slice p1 (out.length+1) q1))):=HW.out.trans (B1.mono (by omega));clear hown1 hg1 hv1 G1 B1 hb1 o0 o2 o3 o4 o5 o6 b0 b1 c1 HG HC HO HW c2;go_wp2;have m3:=(Jab (show w.heap.size+1+1≠w.heap.size+1 by omega) (.slice p1 (out.length+1) q1)).trans k3;have m4:(w1.setCell ⟨w.heap.size+1,0,none⟩ (.slice p1 (out.length+1) q1)).frozen? ⟨w.heap.size+1+1,0,none⟩=false:=by rw[World.frozen?_setCell];exact k4
         have m5:=(Jab (show w.heap.size+1+2≠w.heap.size+1 by omega) (.slice p1 (out.length+1) q1)).trans k5;have m6:(w1.setCell ⟨w.heap.size+1,0,none⟩ (.slice p1 (out.length+1) q1)).frozen? ⟨w.heap.size+1+2,0,none⟩=false:=by rw[World.frozen?_setCell];exact k6
         have m7:=(Jab (show w.heap.size≠w.heap.size+1 by omega) (.slice p1 (out.length+1) q1)).trans k7;have m8:=(Jab (show w.heap.size≠w.heap.size+1 by omega) (.slice p1 (out.length+1) q1)).trans k8;have m9:=(Jab (show g1≠w.heap.size+1 by omega) (.slice p1 (out.length+1) q1)).trans k9;have m10:=(Jab (show g2≠w.heap.size+1 by omega) (.slice p1 (out.length+1) q1)).trans k10;clear k3 k4 k5 k6 k7 k8 k9 r1 r2 k10;generalize w1.setCell ⟨w.heap.size+1,0,none⟩ (.slice p1 (out.length+1) q1)=W2 at *;have hl2:=JbE HG2.out;have P3:=Jcc HG2.out (put++q);have HG3:Hid (rgath (W2.setCell ⟨w.heap.size+1+1,0,none⟩ (.string ⟨(put++q).toArray⟩)) (w.heap.size+1) ⟨out++[⟨keep,0,[]⟩],put++q,drop⟩):=P3.1;have HW3:Hid (Below w.heap.size w (W2.setCell ⟨w.heap.size+1+1,0,none⟩ (.string ⟨(put++q).toArray⟩))):=HW2.out.trans (P3.2.mono (show w.heap.size<=w.heap.size+1 by omega));clear P3
         go_region
         have HST:Hid ((G.1.take (k+1)).foldl Jdp kst0=⟨out++[⟨keep,0,[]⟩],put++q,drop+1,0⟩):=by
          show _=_;rw[hst];show JcO (Jbm ⟨out,put,drop,keep⟩ q true) true=_;unfold Jbm;rw[if_pos (.inl hq)];have hi0:∀(x y:List Pt),(if 0<keep then x else y)=x:=fun x y=>if_pos hkp;have hi1:(if 0<keep then (0:Int) else keep)=0:=if_pos hkp;simp only[hi0,hi1];rfl
         clear hst;have z7:(W2.setCell ⟨w.heap.size+1+1,0,none⟩ (.string ⟨(put++q).toArray⟩)).cell? ⟨w.heap.size,0,none⟩=some (.slice (some ⟨g1,0,none⟩) (n+1) (n+1)):=(Jab (show w.heap.size≠w.heap.size+1+1 by omega) _).trans m7;have z8:(W2.setCell ⟨w.heap.size+1+1,0,none⟩ (.string ⟨(put++q).toArray⟩)).cell? ⟨w.heap.size,1,none⟩=some (.slice (some ⟨g2,0,none⟩) n n):=(Jab (show w.heap.size≠w.heap.size+1+1 by omega) _).trans m8;have Z7:=hdz z7;have Z8:=hdz z8;have P4:=Jc8 HG3.out (drop+1);have HP4:Hid _:=Jcl P4.1 (brf _ _).drew;have HP5:Hid _:=(HW3.out.trans (P4.2.mono (show w.heap.size<=w.heap.size+1 by omega))).drew;clear P4 z7 z8;go_wp2
         go_roundw
         case rel=>exact⟨k+1,by omega,by go_num,by rw[HST.out],by rw[HST.out];exact HP4.out,(Jab (show w.heap.size≠w.heap.size+1+2 by omega) _).trans Z7.out,(Jab (show w.heap.size≠w.heap.size+1+2 by omega) _).trans Z8.out,HP5.out⟩
         case measure=>simp[intOf];omega
       . skip
         have hqe:q.isEmpty=false:=by simpa using hq
         have hkp':¬(0:Int)<keep:=hkp;go_wp2;have m3:=o3;have m4:=o4;have m5:=o5;have m6:=o6;have m7:=b0;have m8:=b1;have m9:=c1;have HG2:=HG;have HW2:=HW;have m10:=c2;clear o0 o2 o3 o4 o5 o6 b0 b1 c1 HG HC HO HW c2;obtain⟨W2,hW2⟩:∃W,W=wr:=⟨_,rfl⟩;rw[←hW2]at m3 m4 m5 m6 m7 m8 m9 m10 HG2 HW2 lt1' ⊢;clear hW2;have hl2:=JbE HG2.out;have P3:=Jcc HG2.out (put++q);have HG3:Hid (rgath (W2.setCell ⟨w.heap.size+1+1,0,none⟩ (.string ⟨(put++q).toArray⟩)) (w.heap.size+1) ⟨out,put++q,drop⟩):=P3.1;have HW3:Hid (Below w.heap.size w (W2.setCell ⟨w.heap.size+1+1,0,none⟩ (.string ⟨(put++q).toArray⟩))):=HW2.out.trans (P3.2.mono (show w.heap.size<=w.heap.size+1 by omega));clear P3
         go_region
         have HST:Hid ((G.1.take (k+1)).foldl Jdp kst0=⟨out,put++q,drop+1,keep⟩):=by
          show _=_;rw[hst];show JcO (Jbm ⟨out,put,drop,keep⟩ q true) true=_;unfold Jbm;rw[if_pos (.inl hq)];have hi0:∀(x y:List Pt),(if 0<keep then x else y)=y:=fun x y=>if_neg (by omega);have hi1:(if 0<keep then (0:Int) else keep)=keep:=if_neg (by omega);simp only[hi0,hi1];rfl
         clear hst;have z7:(W2.setCell ⟨w.heap.size+1+1,0,none⟩ (.string ⟨(put++q).toArray⟩)).cell? ⟨w.heap.size,0,none⟩=some (.slice (some ⟨g1,0,none⟩) (n+1) (n+1)):=(Jab (show w.heap.size≠w.heap.size+1+1 by omega) _).trans m7;have z8:(W2.setCell ⟨w.heap.size+1+1,0,none⟩ (.string ⟨(put++q).toArray⟩)).cell? ⟨w.heap.size,1,none⟩=some (.slice (some ⟨g2,0,none⟩) n n):=(Jab (show w.heap.size≠w.heap.size+1+1 by omega) _).trans m8;have Z7:=hdz z7;have Z8:=hdz z8;have P4:=Jc8 HG3.out (drop+1);have HP4:Hid _:=Jcl P4.1 (brf _ _).drew;have HP5:Hid _:=(HW3.out.trans (P4.2.mono (show w.heap.size<=w.heap.size+1 by omega))).drew;clear P4 z7 z8;go_wp2
         go_roundw
         case rel=>exact⟨k+1,by omega,by go_num,by rw[HST.out],by rw[HST.out];exact HP4.out,(Jab (show w.heap.size≠w.heap.size+1+2 by omega) _).trans Z7.out,(Jab (show w.heap.size≠w.heap.size+1+2 by omega) _).trans Z8.out,HP5.out⟩
         case measure=>simp[intOf];omega
      | false =>
       by_cases hkp:(0:Int)<keep
       . skip
         have hqe:q.isEmpty=false:=by simpa using hq
         go_wp2_with (at_builtin;refine wpList_append_own _ rfl _ _ 23 rfl (w.heap.size+1+3) 50 i0 (.agg #[.int .i64 0,.int .i64 0,.string ⟨#[]⟩]) 3 32 Tryz.underlying23 hi hz0 hz1 hz2 rfl (by decide) _ _ _ rfl (HO.out.alloc _) ⟨wr.heap.size,0,none⟩ 1 1 (Ja6 ⟨keep,0,[]⟩) rfl rfl (JaW _ _ _) (Ja4 _) (by unfold maxLen;omega) (by omega) (by first | omega | (simp;omega)) ?_)
         intro v1 w1 hown1 hg1 _;have P1:=Jct (q:=⟨keep,0,[]⟩) HG.out HC.out hown1 hg1;obtain⟨p1,q1,hv1⟩:=Jae hown1;rw[hv1]at P1 ⊢;obtain⟨G1,B1,hb1,r1,r2⟩:=P1;have k3:=(hb1.cell (p:=⟨w.heap.size+1+1,0,none⟩) (by show w.heap.size+1+1<_;omega)).trans o3;have k4:=(hb1.frozen (p:=⟨w.heap.size+1+1,0,none⟩) (by show w.heap.size+1+1<_;omega)).trans o4;have k5:=(hb1.cell (p:=⟨w.heap.size+1+2,0,none⟩) (by show w.heap.size+1+2<_;omega)).trans o5;have k6:=(hb1.frozen (p:=⟨w.heap.size+1+2,0,none⟩) (by show w.heap.size+1+2<_;omega)).trans o6;have k7:=(hb1.cell (p:=⟨w.heap.size,0,none⟩) (by show w.heap.size<_;omega)).trans b0;have k8:=(hb1.cell (p:=⟨w.heap.size,1,none⟩) (by show w.heap.size<_;omega)).trans b1;have k9:=(hb1.cell (p:=⟨g1,k,none⟩) (by show g1<_;omega)).trans c1;have k10:=(hb1.cell (p:=⟨g2,k,none⟩) (by show g2<_;omega)).trans c2;have HG2:Hid (rgath (w1.setCell ⟨w.heap.size+1,0,none⟩ (.slice p1 (out.length+1) q1)) (w.heap.size+1) ⟨out++[⟨keep,0,[]⟩],put,drop⟩):=G1;have HW2:Hid (Below w.heap.size w (w1.setCell ⟨w.heap.size+1,0,none⟩ (.slice p1 (out.length+1) q1))):=HW.out.trans (B1.mono (by omega));clear hown1 hg1 hv1 G1 B1 hb1 o0 o2 o3 o4 o5 o6 b0 b1 c1 HG HC HO HW c2;go_wp2;have m3:=(Jab (show w.heap.size+1+1≠w.heap.size+1 by omega) (.slice p1 (out.length+1) q1)).trans k3;have m4:(w1.setCell ⟨w.heap.size+1,0,none⟩ (.slice p1 (out.length+1) q1)).frozen? ⟨w.heap.size+1+1,0,none⟩=false:=by rw[World.frozen?_setCell];exact k4
         have m5:=(Jab (show w.heap.size+1+2≠w.heap.size+1 by omega) (.slice p1 (out.length+1) q1)).trans k5;have m6:(w1.setCell ⟨w.heap.size+1,0,none⟩ (.slice p1 (out.length+1) q1)).frozen? ⟨w.heap.size+1+2,0,none⟩=false:=by rw[World.frozen?_setCell];exact k6
         have m7:=(Jab (show w.heap.size≠w.heap.size+1 by omega) (.slice p1 (out.length+1) q1)).trans k7;have m8:=(Jab (show w.heap.size≠w.heap.size+1 by omega) (.slice p1 (out.length+1) q1)).trans k8;have m9:=(Jab (show g1≠w.heap.size+1 by omega) (.slice p1 (out.length+1) q1)).trans k9;have m10:=(Jab (show g2≠w.heap.size+1 by omega) (.slice p1 (out.length+1) q1)).trans k10;clear k3 k4 k5 k6 k7 k8 k9 r1 r2 k10;generalize w1.setCell ⟨w.heap.size+1,0,none⟩ (.slice p1 (out.length+1) q1)=W2 at *;have hl2:=JbE HG2.out;have P3:=Jcc HG2.out (put++q);have HG3:Hid (rgath (W2.setCell ⟨w.heap.size+1+1,0,none⟩ (.string ⟨(put++q).toArray⟩)) (w.heap.size+1) ⟨out++[⟨keep,0,[]⟩],put++q,drop⟩):=P3.1;have HW3:Hid (Below w.heap.size w (W2.setCell ⟨w.heap.size+1+1,0,none⟩ (.string ⟨(put++q).toArray⟩))):=HW2.out.trans (P3.2.mono (show w.heap.size<=w.heap.size+1 by omega));clear P3
         go_region
         have HST:Hid ((G.1.take (k+1)).foldl Jdp kst0=⟨Jaq ⟨out++[⟨keep,0,[]⟩],put++q,drop⟩,[],0,0+1⟩):=by
          show _=_;rw[hst];show JcO (Jbm ⟨out,put,drop,keep⟩ q false) false=_;unfold Jbm;rw[if_pos (.inl hq)];have hi0:∀(x y:List Pt),(if 0<keep then x else y)=x:=fun x y=>if_pos hkp;have hi1:(if 0<keep then (0:Int) else keep)=0:=if_pos hkp;simp only[hi0,hi1];rfl
         clear hst;have z7:(W2.setCell ⟨w.heap.size+1+1,0,none⟩ (.string ⟨(put++q).toArray⟩)).cell? ⟨w.heap.size,0,none⟩=some (.slice (some ⟨g1,0,none⟩) (n+1) (n+1)):=(Jab (show w.heap.size≠w.heap.size+1+1 by omega) _).trans m7;have z8:(W2.setCell ⟨w.heap.size+1+1,0,none⟩ (.string ⟨(put++q).toArray⟩)).cell? ⟨w.heap.size,1,none⟩=some (.slice (some ⟨g2,0,none⟩) n n):=(Jab (show w.heap.size≠w.heap.size+1+1 by omega) _).trans m8;have Z7:=hdz z7;have Z8:=hdz z8;have HGD:=Jcl HG3.out (brf _ _).drew;have cD:=Jc3 (w.heap.size+1) _ _ HGD (by show(out++[(⟨keep,0,[]⟩:Pt)]).length<_;first | omega | (rw[List.length_append];show out.length+1<_;omega)) (by show 0<=drop;omega);have HL3:=HW3.out.size;clear z7 z8 HGD
         go_wp2_with (go_at_call 227;refine cD.mono ?_;rintro e w4 ⟨⟨v4,rfl⟩,hg4,hb4⟩;have HG4:=hdz hg4;have HB4:=hdz hb4;clear hg4 hb4)
         go_roundw
         case rel=>exact⟨k+1,by omega,by go_num,by rw[HST.out]<;>first | rfl | go_num,by rw[HST.out];exact HG4.out,(HB4.out.cell (p:=⟨w.heap.size,0,none⟩) (by show w.heap.size<_;omega)).trans Z7.out,(HB4.out.cell (p:=⟨w.heap.size,1,none⟩) (by show w.heap.size<_;omega)).trans Z8.out,HW3.out.drew.trans (HB4.out.mono (show w.heap.size<=w.heap.size+1 by omega))⟩
         case measure=>simp[intOf];omega
       . skip
         have hqe:q.isEmpty=false:=by simpa using hq
         have hkp':¬(0:Int)<keep:=hkp;go_wp2;have m3:=o3;have m4:=o4;have m5:=o5;have m6:=o6;have m7:=b0;have m8:=b1;have m9:=c1;have HG2:=HG;have HW2:=HW;have m10:=c2;clear o0 o2 o3 o4 o5 o6 b0 b1 c1 HG HC HO HW c2;obtain⟨W2,hW2⟩:∃W,W=wr:=⟨_,rfl⟩;rw[←hW2]at m3 m4 m5 m6 m7 m8 m9 m10 HG2 HW2 lt1' ⊢;clear hW2;have hl2:=JbE HG2.out;have P3:=Jcc HG2.out (put++q);have HG3:Hid (rgath (W2.setCell ⟨w.heap.size+1+1,0,none⟩ (.string ⟨(put++q).toArray⟩)) (w.heap.size+1) ⟨out,put++q,drop⟩):=P3.1;have HW3:Hid (Below w.heap.size w (W2.setCell ⟨w.heap.size+1+1,0,none⟩ (.string ⟨(put++q).toArray⟩))):=HW2.out.trans (P3.2.mono (show w.heap.size<=w.heap.size+1 by omega));clear P3
         go_region
         have HST:Hid ((G.1.take (k+1)).foldl Jdp kst0=⟨Jaq ⟨out,put++q,drop⟩,[],0,keep+1⟩):=by
          show _=_;rw[hst];show JcO (Jbm ⟨out,put,drop,keep⟩ q false) false=_;unfold Jbm;rw[if_pos (.inl hq)];have hi0:∀(x y:List Pt),(if 0<keep then x else y)=y:=fun x y=>if_neg (by omega);have hi1:(if 0<keep then (0:Int) else keep)=keep:=if_neg (by omega);simp only[hi0,hi1];rfl
         clear hst;have z7:(W2.setCell ⟨w.heap.size+1+1,0,none⟩ (.string ⟨(put++q).toArray⟩)).cell? ⟨w.heap.size,0,none⟩=some (.slice (some ⟨g1,0,none⟩) (n+1) (n+1)):=(Jab (show w.heap.size≠w.heap.size+1+1 by omega) _).trans m7;have z8:(W2.setCell ⟨w.heap.size+1+1,0,none⟩ (.string ⟨(put++q).toArray⟩)).cell? ⟨w.heap.size,1,none⟩=some (.slice (some ⟨g2,0,none⟩) n n):=(Jab (show w.heap.size≠w.heap.size+1+1 by omega) _).trans m8;have Z7:=hdz z7;have Z8:=hdz z8;have HGD:=Jcl HG3.out (brf _ _).drew;have cD:=Jc3 (w.heap.size+1) _ _ HGD (by show(out).length<_;first | omega | (rw[List.length_append];show out.length+1<_;omega)) (by show 0<=drop;omega);have HL3:=HW3.out.size;clear z7 z8 HGD
         go_wp2_with (go_at_call 227;refine cD.mono ?_;rintro e w4 ⟨⟨v4,rfl⟩,hg4,hb4⟩;have HG4:=hdz hg4;have HB4:=hdz hb4;clear hg4 hb4)
         go_roundw
         case rel=>exact⟨k+1,by omega,by go_num,by rw[HST.out]<;>first | rfl | go_num,by rw[HST.out];exact HG4.out,(HB4.out.cell (p:=⟨w.heap.size,0,none⟩) (by show w.heap.size<_;omega)).trans Z7.out,(HB4.out.cell (p:=⟨w.heap.size,1,none⟩) (by show w.heap.size<_;omega)).trans Z8.out,HW3.out.drew.trans (HB4.out.mono (show w.heap.size<=w.heap.size+1 by omega))⟩
         case measure=>simp[intOf];omega
  . have hke:k=n:=by omega
    have e1:=H1.out k G.2 (by rw[List.getElem?_append_right (by rw[List.length_map,HN.out];omega),List.length_map,HN.out,hke,Nat.sub_self];rfl);have c1:=(hwr.cell (p:=⟨g1,k,none⟩) lt1).trans e1;have hta:G.1.take k=G.1:=List.take_of_length_le (by rw[HN.out];omega);rw[hta]at hg hbd ⊢;have HGP:Hid (JcY G=endK (Jbm (G.1.foldl Jdp kst0) G.2 false)):=by show _=_;rfl
    have hql:=HSZ.out;generalize G.2=q at *;generalize G.1.foldl Jdp kst0=K at *;obtain⟨out,put,drop,keep⟩:=K;have hbd':=hbd;obtain⟨f1,f2,f3,f4,f5,f6⟩:=hbd';simp only at f1 f2 f3 f4 f5 f6 c1 hg ⊢;unfold strV at c1;have hcat:=Jd5 put q;have hcb:¬9223372036854775807<put.length+q.length:=by omega
    have HG:Hid (rgath wr (w.heap.size+1) ⟨out,put,drop⟩):=hg;obtain⟨⟨p,c,o0,o1⟩,o2,o3,o4,o5,o6⟩:=hg;have HO:Hid (wr.ownsRow (w.heap.size+1+3) 50 3 (.slice p out.length c) out.length (JaD out)):=o1;have HC:Hid (wr.cell? ⟨w.heap.size+1,0,none⟩=some (.slice p out.length c)):=o0;have HW:=hdz hwr;have lt1':g1<wr.heap.size:=Nat.lt_of_lt_of_le lt1 hwr.size;have hkz:(k:Int)<(n:Int)+1:=by omega
    have hkz2:¬(k:Int)<(n:Int):=by omega
    have hkb:((k:Int)==(n:Int))=true:=beq_iff_eq.2 (by omega);have hol:out.length<500000000:=by omega
    clear e1 o1 hwr hbd hpt hql hta hke
    by_cases hq:q=[]
    . by_cases hkp:(0:Int)<keep
      . skip
        have hqe:q.isEmpty=true:=by simpa using hq
        have HRES:Hid (JcY G=Jaq ⟨out++[⟨keep,0,[]⟩],put,drop⟩):=by
         show _=_;rw[HGP.out];simp[endK,Jbm,hq,hkp]
        go_wp2_with (at_builtin;refine wpList_append_own _ rfl _ _ 23 rfl (w.heap.size+1+3) 50 i0 (.agg #[.int .i64 0,.int .i64 0,.string ⟨#[]⟩]) 3 32 Tryz.underlying23 hi hz0 hz1 hz2 rfl (by decide) _ _ _ rfl (HO.out.alloc _) ⟨wr.heap.size,0,none⟩ 1 1 (Ja6 ⟨keep,0,[]⟩) rfl rfl (JaW _ _ _) (Ja4 _) (by unfold maxLen;omega) (by omega) (by first | omega | (simp;omega)) ?_)
        intro v1 w1 hown1 hg1 _;have P1:=Jct (q:=⟨keep,0,[]⟩) HG.out HC.out hown1 hg1;obtain⟨p1,q1,hv1⟩:=Jae hown1;rw[hv1]at P1 ⊢;obtain⟨G1,B1,hb1,r1,r2⟩:=P1;have k3:=(hb1.cell (p:=⟨w.heap.size+1+1,0,none⟩) (by show w.heap.size+1+1<_;omega)).trans o3;have k4:=(hb1.frozen (p:=⟨w.heap.size+1+1,0,none⟩) (by show w.heap.size+1+1<_;omega)).trans o4;have k5:=(hb1.cell (p:=⟨w.heap.size+1+2,0,none⟩) (by show w.heap.size+1+2<_;omega)).trans o5;have k6:=(hb1.frozen (p:=⟨w.heap.size+1+2,0,none⟩) (by show w.heap.size+1+2<_;omega)).trans o6;have k7:=(hb1.cell (p:=⟨w.heap.size,0,none⟩) (by show w.heap.size<_;omega)).trans b0;have k8:=(hb1.cell (p:=⟨w.heap.size,1,none⟩) (by show w.heap.size<_;omega)).trans b1;have k9:=(hb1.cell (p:=⟨g1,k,none⟩) (by show g1<_;omega)).trans c1;have HG2:Hid (rgath (w1.setCell ⟨w.heap.size+1,0,none⟩ (.slice p1 (out.length+1) q1)) (w.heap.size+1) ⟨out++[⟨keep,0,[]⟩],put,drop⟩):=G1;have HW2:Hid (Below w.heap.size w (w1.setCell ⟨w.heap.size+1,0,none⟩ (.slice p1 (out.length+1) q1))):=HW.out.trans (B1.mono (by omega));clear hown1 hg1 hv1 G1 B1 hb1 o0 o2 o3 o4 o5 o6 b0 b1 c1 HG HC HO HW;have HG3:=HG2;have HW3:=HW2;have cD:=Jc3 (w.heap.size+1) _ _ HG3.out (by show(out++[(⟨keep,0,[]⟩:Pt)]).length<_;first | omega | (rw[List.length_append];show out.length+1<_;omega)) (by show 0<=drop;omega)
        go_wp2_with (go_at_call 227;refine cD.mono ?_;rintro e w4 ⟨⟨v4,rfl⟩,⟨⟨p4,c4,h40,h41⟩,_⟩,hb4⟩;have HB4:=hdz hb4;clear hb4)
        go_ret;exact⟨_,rfl,by rw[HRES.out];exact JcJ h41 (by omega),HW3.out.trans (HB4.out.mono (show w.heap.size<=w.heap.size+1 by omega))⟩
      . skip
        have hqe:q.isEmpty=true:=by simpa using hq
        have hkp':¬(0:Int)<keep:=hkp;have HRES:Hid (JcY G=Jaq ⟨out,put,drop⟩):=by
         show _=_;rw[HGP.out];simp[endK,Jbm,hq,hkp]
        have HG3:=HG;have HW3:=HW;have cD:=Jc3 (w.heap.size+1) _ _ HG3.out (by show(out).length<_;first | omega | (rw[List.length_append];show out.length+1<_;omega)) (by show 0<=drop;omega)
        go_wp2_with (go_at_call 227;refine cD.mono ?_;rintro e w4 ⟨⟨v4,rfl⟩,⟨⟨p4,c4,h40,h41⟩,_⟩,hb4⟩;have HB4:=hdz hb4;clear hb4)
        go_ret;exact⟨_,rfl,by rw[HRES.out];exact JcJ h41 (by omega),HW3.out.trans (HB4.out.mono (show w.heap.size<=w.heap.size+1 by omega))⟩
    . by_cases hkp:(0:Int)<keep
      . skip
        have hqe:q.isEmpty=false:=by simpa using hq
        have HRES:Hid (JcY G=Jaq ⟨out++[⟨keep,0,[]⟩],put++q,drop⟩):=by
         show _=_;rw[HGP.out];simp[endK,Jbm,hq,hkp]
        go_wp2_with (at_builtin;refine wpList_append_own _ rfl _ _ 23 rfl (w.heap.size+1+3) 50 i0 (.agg #[.int .i64 0,.int .i64 0,.string ⟨#[]⟩]) 3 32 Tryz.underlying23 hi hz0 hz1 hz2 rfl (by decide) _ _ _ rfl (HO.out.alloc _) ⟨wr.heap.size,0,none⟩ 1 1 (Ja6 ⟨keep,0,[]⟩) rfl rfl (JaW _ _ _) (Ja4 _) (by unfold maxLen;omega) (by omega) (by first | omega | (simp;omega)) ?_)
        intro v1 w1 hown1 hg1 _;have P1:=Jct (q:=⟨keep,0,[]⟩) HG.out HC.out hown1 hg1;obtain⟨p1,q1,hv1⟩:=Jae hown1;rw[hv1]at P1 ⊢;obtain⟨G1,B1,hb1,r1,r2⟩:=P1;have k3:=(hb1.cell (p:=⟨w.heap.size+1+1,0,none⟩) (by show w.heap.size+1+1<_;omega)).trans o3;have k4:=(hb1.frozen (p:=⟨w.heap.size+1+1,0,none⟩) (by show w.heap.size+1+1<_;omega)).trans o4;have k5:=(hb1.cell (p:=⟨w.heap.size+1+2,0,none⟩) (by show w.heap.size+1+2<_;omega)).trans o5;have k6:=(hb1.frozen (p:=⟨w.heap.size+1+2,0,none⟩) (by show w.heap.size+1+2<_;omega)).trans o6;have k7:=(hb1.cell (p:=⟨w.heap.size,0,none⟩) (by show w.heap.size<_;omega)).trans b0;have k8:=(hb1.cell (p:=⟨w.heap.size,1,none⟩) (by show w.heap.size<_;omega)).trans b1;have k9:=(hb1.cell (p:=⟨g1,k,none⟩) (by show g1<_;omega)).trans c1;have HG2:Hid (rgath (w1.setCell ⟨w.heap.size+1,0,none⟩ (.slice p1 (out.length+1) q1)) (w.heap.size+1) ⟨out++[⟨keep,0,[]⟩],put,drop⟩):=G1;have HW2:Hid (Below w.heap.size w (w1.setCell ⟨w.heap.size+1,0,none⟩ (.slice p1 (out.length+1) q1))):=HW.out.trans (B1.mono (by omega));clear hown1 hg1 hv1 G1 B1 hb1 o0 o2 o3 o4 o5 o6 b0 b1 c1 HG HC HO HW;go_wp2;have m3:=(Jab (show w.heap.size+1+1≠w.heap.size+1 by omega) (.slice p1 (out.length+1) q1)).trans k3;have m4:(w1.setCell ⟨w.heap.size+1,0,none⟩ (.slice p1 (out.length+1) q1)).frozen? ⟨w.heap.size+1+1,0,none⟩=false:=by rw[World.frozen?_setCell];exact k4
        have m5:=(Jab (show w.heap.size+1+2≠w.heap.size+1 by omega) (.slice p1 (out.length+1) q1)).trans k5;have m6:(w1.setCell ⟨w.heap.size+1,0,none⟩ (.slice p1 (out.length+1) q1)).frozen? ⟨w.heap.size+1+2,0,none⟩=false:=by rw[World.frozen?_setCell];exact k6
        have m7:=(Jab (show w.heap.size≠w.heap.size+1 by omega) (.slice p1 (out.length+1) q1)).trans k7;have m8:=(Jab (show w.heap.size≠w.heap.size+1 by omega) (.slice p1 (out.length+1) q1)).trans k8;have m9:=(Jab (show g1≠w.heap.size+1 by omega) (.slice p1 (out.length+1) q1)).trans k9;clear k3 k4 k5 k6 k7 k8 k9 r1 r2;generalize w1.setCell ⟨w.heap.size+1,0,none⟩ (.slice p1 (out.length+1) q1)=W2 at *;have hl2:=JbE HG2.out;have P3:=Jcc HG2.out (put++q);have HG3:Hid (rgath (W2.setCell ⟨w.heap.size+1+1,0,none⟩ (.string ⟨(put++q).toArray⟩)) (w.heap.size+1) ⟨out++[⟨keep,0,[]⟩],put++q,drop⟩):=P3.1;have HW3:Hid (Below w.heap.size w (W2.setCell ⟨w.heap.size+1+1,0,none⟩ (.string ⟨(put++q).toArray⟩))):=HW2.out.trans (P3.2.mono (show w.heap.size<=w.heap.size+1 by omega));clear P3
        go_region
        have cD:=Jc3 (w.heap.size+1) _ _ (Jcl HG3.out (brf _ _).drew) (by show(out++[(⟨keep,0,[]⟩:Pt)]).length<_;first | omega | (rw[List.length_append];show out.length+1<_;omega)) (by show 0<=drop;omega)
        go_wp2_with (go_at_call 227;refine cD.mono ?_;rintro e w4 ⟨⟨v4,rfl⟩,⟨⟨p4,c4,h40,h41⟩,_⟩,hb4⟩;have HB4:=hdz hb4;clear hb4)
        go_ret;exact⟨_,rfl,by rw[HRES.out];exact JcJ h41 (by omega),HW3.out.drew.trans (HB4.out.mono (show w.heap.size<=w.heap.size+1 by omega))⟩
      . skip
        have hqe:q.isEmpty=false:=by simpa using hq
        have hkp':¬(0:Int)<keep:=hkp;have HRES:Hid (JcY G=Jaq ⟨out,put++q,drop⟩):=by
         show _=_;rw[HGP.out];simp[endK,Jbm,hq,hkp]
        go_wp2;have m3:=o3;have m4:=o4;have m5:=o5;have m6:=o6;have m7:=b0;have m8:=b1;have m9:=c1;have HG2:=HG;have HW2:=HW;clear o0 o2 o3 o4 o5 o6 b0 b1 c1 HG HC HO HW;obtain⟨W2,hW2⟩:∃W,W=wr:=⟨_,rfl⟩;rw[←hW2]at m3 m4 m5 m6 m7 m8 m9 HG2 HW2 lt1' ⊢;clear hW2;have hl2:=JbE HG2.out;have P3:=Jcc HG2.out (put++q);have HG3:Hid (rgath (W2.setCell ⟨w.heap.size+1+1,0,none⟩ (.string ⟨(put++q).toArray⟩)) (w.heap.size+1) ⟨out,put++q,drop⟩):=P3.1;have HW3:Hid (Below w.heap.size w (W2.setCell ⟨w.heap.size+1+1,0,none⟩ (.string ⟨(put++q).toArray⟩))):=HW2.out.trans (P3.2.mono (show w.heap.size<=w.heap.size+1 by omega));clear P3
        go_region
        have cD:=Jc3 (w.heap.size+1) _ _ (Jcl HG3.out (brf _ _).drew) (by show(out).length<_;first | omega | (rw[List.length_append];show out.length+1<_;omega)) (by show 0<=drop;omega)
        go_wp2_with (go_at_call 227;refine cD.mono ?_;rintro e w4 ⟨⟨v4,rfl⟩,⟨⟨p4,c4,h40,h41⟩,_⟩,hb4⟩;have HB4:=hdz hb4;clear hb4)
        go_ret;exact⟨_,rfl,by rw[HRES.out];exact JcJ h41 (by omega),HW3.out.drew.trans (HB4.out.mono (show w.heap.size<=w.heap.size+1 by omega))⟩
theorem Ja3{w w':World}{v:Value}{ps:List Pt}(h:opAt w v ps)(hb:Below w.heap.size w w'):opAt w' v ps:=JaK h hb (nlr _)
theorem JeH(ps:List Pt): -9223372036854775808<=(Jar ps).1/\(Jar ps).1<9223372036854775808:=by
 unfold Jar
 rcases List.eq_nil_or_concat ps with rfl|⟨l,p,rfl⟩
 . simp
 . rw[List.concat_eq_append,List.foldl_append]
   show -9223372036854775808<=IntKind.i64.wrap _/\IntKind.i64.wrap _<_;rw[IntKind.wrap_i64];omega
theorem JfH(d:Bool):∀(n:Nat)(g:GSt),JbZ (JbC d n g).1+(JbC d n g).2.length=JbZ g.1+g.2.length
 | 0,_=>rfl
 | n+1,g=>by
  rw[JbC,JfH d n];show JbZ (g.1++[(g.2,d)])+0=_;rw[JgG];rfl
theorem JcH(ps:List Pt)(h:∀p∈ps,Jbc p):((JbZ (Jah ps).1+(Jah ps).2.length:Nat):Int)<=wts ps:=by
 have key:∀k,k<=ps.length->((JbZ (Jah (ps.take k)).1+(Jah (ps.take k)).2.length:Nat):Int)<=wts (ps.take k):=by
  intro k
  induction k with
  | zero=>intro _;simp[Jah,JbZ,wts]
  | succ k ih =>
   intro hk;have h1:=ih (by omega);have hp:=h _ (List.getElem_mem (show k<ps.length by omega));rw[List.take_succ_eq_append_getElem (by omega),Jdb,Je3];generalize ps[k]=q at *;generalize Jah (ps.take k)=g at *;obtain⟨q1,q2⟩:=hp;have hwq:wtP q=q.keep+q.drop+q.put.length:=rfl;have e:JbZ (Jbh g q).1+(Jbh g q).2.length=JbZ g.1+(g.2.length+q.put.length):=by
    unfold Jbh;rw[JfH,JfH];show JbZ g.1+(g.2++q.put).length=_;rw[List.length_append]
   rw[e];omega
 have:=key ps.length (nlr _);rwa[List.take_length]at this
theorem JcU(v:Value)(ps:List Pt)(w:World)(hr:opAt w v ps)(hs:∀p∈ps,Jbc p)(hw:wts ps<10000000)(hl:ps.length<10000000) :
    Calls Tryz.prog 188 #[v] w fun e w'=>∃g,e=.returned g/\Below w.heap.size w w' /\
     Calls Tryz.prog 185 #[g] w' fun e w''=>∃v',e=.returned v'/\w''.ownsRow w'.heap.size 50 3 v' (Jac ps).length (JaD (Jac ps))/\Below w'.heap.size w' w'':=by
 refine(Je0 v ps w hr hs hw hl _ rfl).mono ?_;rintro e w' ⟨g1,g2,rfl,h1,h2,hb⟩;refine⟨_,rfl,hb,?_⟩;have hp:=JcH ps hs;have hn:=(Jcx ps hs (by omega)).2.2.1
 have := Jj4 g1 g2 (Jah ps).1.length (Jah ps) w' rfl (by omega) (by omega)
  (fun i q hi=>by
    have hlt:=(llt hi);rw[List.length_append,List.length_map,List.length_singleton]at hlt;rw[h1.cellAt i (by omega),List.getElem?_map];have e:Jci (Jah ps).1.length (Jah ps)=(Jah ps).1.map (·.1)++[(Jah ps).2]:=by simp[Jci]
    rw[e,hi]
    rfl)
  (fun i d hi=>by
    have hlt:=(llt hi);rw[List.length_map]at hlt;rw[h2.cellAt i (by omega),List.getElem?_map];have e:JbY (Jah ps).1.length (Jah ps)=(Jah ps).1.map (·.2):=by simp[JbY]
    rw[e,hi]
    rfl)
  (h1.lt g1 rfl).2 (h2.lt g2 rfl).2
 rw[JmV ps hs]at this;exact this
end
section
open Go.RowKit
attribute [local go_sem] Oper.semAt_some
def JbG (a b:List Pt):Int:=if chkE a (Jar a).1=0 then chkE b (Jar b).1 else chkE a (Jar a).1
theorem Jdg(p:Pt)(w:World):Calls Tryz.prog 225 #[JaO p] w fun e w'=>e=.returned (.bool (decide (p.put≠[])))/\Below w.heap.size w w':=by
 obtain⟨K,D,U⟩:=p;have hz:(ByteArray.mk U.toArray).size=U.length:=by simp[ByteArray.size]
 unfold JaO
 go_enter Tryz.func225,Tryz.ntmps225
 go_wp2;go_ret;exact⟨by cases U<;>simp,(brf _ _).alloc (nlr _) _⟩
theorem Jd6(p:Pt)(w:World)(h0:0<=p.keep/\0<=p.drop)(h1:p.keep+p.drop+p.put.length<4611686018427387904):Calls Tryz.prog 267 #[JaO p] w fun e w'=>e=.returned (.int .i64 (p.keep+p.drop+p.put.length))/\Below w.heap.size w w':=by
 obtain⟨K,D,U⟩:=p;simp only at h0 h1;obtain⟨h2,h3⟩:=h0;have hz:(ByteArray.mk U.toArray).size=U.length:=by simp[ByteArray.size]
 unfold JaO
 go_enter Tryz.func267,Tryz.ntmps267
 go_wp2;go_ret;exact⟨rfl,(brf _ _).alloc (nlr _) _⟩
theorem Jcb(v1 v2:Value)(a b:List Pt)(w:World)(hT:Lib.Utf8Tabs 2 3 w)(h1:opAt w v1 a)(h2:opAt w v2 b)(w1:∀p∈a,wfP p)(w2:∀p∈b,wfP p)(l1:a.length<10000000)(l2:b.length<10000000) :
    Calls Tryz.prog 221 #[v1,v2] w fun e w'=>e=.returned (errV (JbG a b))/\Below w.heap.size w w':=by
 have cL1:Hid (∀wx,Below w.heap.size w wx->Calls Tryz.prog 120 #[v1] wx fun e w'=>e=.returned (.tuple #[.int .i64 (Jar a).1,.int .i64 (Jar a).2])/\Below wx.heap.size wx w'):=fun wx hb=>Jc0 v1 a wx (Ja3 h1 hb) l1;have cL2:Hid (∀wx,Below w.heap.size w wx->Calls Tryz.prog 120 #[v2] wx fun e w'=>e=.returned (.tuple #[.int .i64 (Jar b).1,.int .i64 (Jar b).2])/\Below wx.heap.size wx w'):=fun wx hb=>Jc0 v2 b wx (Ja3 h2 hb) l2;have cC1:Hid (∀wx,Below w.heap.size w wx->Calls Tryz.prog 92 #[v1,.int .i64 (Jar a).1] wx fun e w'=>e=.returned (errV (chkE a (Jar a).1))/\Below wx.heap.size wx w'):=fun wx hb=>JcM v1 a _ wx (Go.Proofs.Utf8Tabs_below hT hb) (Ja3 h1 hb) w1 (JeH a) l1;have cC2:Hid (∀wx,Below w.heap.size w wx->Calls Tryz.prog 92 #[v2,.int .i64 (Jar b).1] wx fun e w'=>e=.returned (errV (chkE b (Jar b).1))/\Below wx.heap.size wx w'):=fun wx hb=>JcM v2 b _ wx (Go.Proofs.Utf8Tabs_below hT hb) (Ja3 h2 hb) w2 (JeH b) l2;obtain⟨R,hR⟩:∃R,R=JbG a b:=⟨_,rfl⟩;rw[←hR];unfold JbG at hR;generalize chkE a (Jar a).1=E1 at cC1 hR;generalize chkE b (Jar b).1=E2 at cC2 hR;generalize (Jar a).1=A1 at cL1 cC1;generalize (Jar a).2=A2 at cL1;generalize (Jar b).1=B1 at cL2 cC2;generalize (Jar b).2=B2 at cL2;obtain⟨p1,c1,rfl,_⟩:=h1;obtain⟨p2,c2,rfl,_⟩:=h2;clear hT w1 w2
 by_cases he:E1=0
 . rw [if_pos he]at hR
   have hV:errV E1=.nilIface:=by unfold errV;rw[if_pos he]
   rw[hV]at cC1;obtain⟨V,hV2⟩:∃V,errV R=V:=⟨_,rfl⟩;rw[←hR,hV2]at cC2;rw[hV2];clear hV hV2 hR he
   go_enter Tryz.func221,Tryz.ntmps221
   go_wp2_with (first
    | (have _:=hB3;go_at_call 92;refine(cC2.out _ hB3.out).mono ?_;rintro e w4 ⟨rfl,hb4⟩;have hB4:=hdz (hB3.out.trans (hb4.mono hB3.out.size)))
    | (have _:=hB2;go_at_call 120;refine(cL2.out _ hB2.out).mono ?_;rintro e w3 ⟨rfl,hb3⟩;have hB3:=hdz (hB2.out.trans (hb3.mono hB2.out.size)))
    | (have _:=hB1;go_at_call 92;refine(cC1.out _ hB1.out).mono ?_;rintro e w2 ⟨rfl,hb2⟩;have hB2:=hdz (hB1.out.trans (hb2.mono hB1.out.size)))
    | (go_at_call 120;refine(cL1.out _ (brf _ _)).mono ?_;rintro e w1 ⟨rfl,hb1⟩;have hB1:=hdz hb1))
   go_ret;exact⟨rfl,hB4.out⟩
 . rw [if_neg he]at hR
   have hV:errV E1=.iface 26 (.int .i64 E1):=by unfold errV;rw[if_neg he]
   rw[hV]at cC1;have hV2:errV R=.iface 26 (.int .i64 E1):=by rw[hR];exact hV
   rw[hV2];clear hV hV2 hR he cC2 cL2
   go_enter Tryz.func221,Tryz.ntmps221
   go_wp2_with (first
    | (have _:=hB1;go_at_call 92;refine(cC1.out _ hB1.out).mono ?_;rintro e w2 ⟨rfl,hb2⟩;have hB2:=hdz (hB1.out.trans (hb2.mono hB1.out.size)))
    | (go_at_call 120;refine(cL1.out _ (brf _ _)).mono ?_;rintro e w1 ⟨rfl,hb1⟩;have hB1:=hdz hb1))
   go_ret;exact⟨rfl,hB2.out⟩
theorem JnD(p:Option Addr)(n c:Nat)(s:ByteArray)(w:World):Calls Tryz.prog 106 #[.slice p n c,.string s] w fun e w'=>e=.returned (.func (.func 174) #[] #[.pointer (some ⟨w.heap.size+1,0,none⟩),.pointer (some ⟨w.heap.size,0,none⟩)])/\w'=(w.alloc (.cells #[.slice p n c] 23)).alloc (.cells #[.string s] 9):=by
 go_enter Tryz.func106,Tryz.ntmps106
 go_wp2;go_ret;exact⟨rfl,rfl⟩
def pcs:List Pt->List UInt8->List (Pt×List UInt8)
 | [],_=>[]
 | p :: ps,s=>(p,s.take (lenP p).toNat) :: pcs ps (s.drop (lenP p).toNat)
def Jdw:List Pt->List UInt8->List UInt8
 | [],s=>s
 | p :: ps,s=>Jdw ps (s.drop (lenP p).toNat)
theorem JoK(ps:List Pt)(p:Pt)(s:List UInt8):Jdw (ps++[p]) s=(Jdw ps s).drop (lenP p).toNat:=by
 induction ps generalizing s with
 | nil=>rfl
 | cons q ps ih=>exact ih _
theorem Jfs(a b:List Pt)(s:List UInt8):pcs (a++b) s=pcs a s++pcs b (Jdw a s):=by
 induction a generalizing s with
 | nil=>rfl
 | cons q a ih=>simp[pcs,Jdw,ih]
def Jki:List Pt->List UInt8->Prop
 | [],_=>True
 | p :: ps,s=>0<=p.keep/\0<=p.drop/\lenP p<=s.length/\Jki ps (s.drop (lenP p).toNat)
theorem Js4(ps:List Pt)(s:List UInt8)(h:Jki ps s)(k:Nat)(hk:k<ps.length):0<=ps[k].keep/\0<=ps[k].drop/\lenP ps[k]<=(Jdw (ps.take k) s).length:=by
 induction ps generalizing s k with
 | nil=>simp at hk
 | cons p ps ih =>
  obtain⟨h1,h2,h3,h4⟩:=h
  cases k with
  | zero=>exact⟨h1,h2,h3⟩
  | succ k=>exact ih _ h4 k (by simpa using hk)
theorem Jsh(ps:List Pt)(s:List UInt8):(Jdw ps s).length<=s.length:=by
 induction ps generalizing s with
 | nil=>exact nlr _
 | cons p ps ih =>
  have:=ih (s.drop (lenP p).toNat);rw[List.length_drop]at this;show(Jdw ps _).length<=_;omega
theorem Joe(l:List UInt8)(n:Nat):(ByteArray.mk l.toArray).extract 0 n=⟨(l.take n).toArray⟩:=by
 apply ByteArray.ext;simp
theorem Jod(l:List UInt8)(n:Nat):(ByteArray.mk l.toArray).extract n l.length=⟨(l.drop n).toArray⟩:=by
 apply ByteArray.ext;have:List.take (l.length - n) (l.drop n)=l.drop n:=List.take_of_length_le (by rw[List.length_drop];exact nlr _);simp[this]
theorem JnC(v:Value)(ps:List Pt)(s:List UInt8)(hs:s.length<1000000000)(hl:ps.length<10000000)(hf:Jki ps s)(R:Nat->Prop)(sb:Nat)(W:World)
    (h0:W.cell? ⟨sb,0,none⟩=some v) (h1:W.cell? ⟨sb+1,0,none⟩=some (.string ⟨s.toArray⟩)) (hop:opAt W v ps) (hR0:R sb) (hR1:R (sb+1)) (hRv:∀b o n c,v=.slice (some ⟨b,o,none⟩) n c->ps≠[]->R b) (hRl:∀x,R x->x<W.heap.size) (Z:World->Prop) :
    Jok Tryz.prog 174 #[.pointer (some ⟨sb+1,0,none⟩),.pointer (some ⟨sb,0,none⟩)] (fun _ (x:Pt×List UInt8)=>#[JaO x.1,.string ⟨x.2.toArray⟩]) (fun A B=>Below A.heap.size A B/\W.heap.size<=A.heap.size) (fun A B=>A.heap.size<=B.heap.size/\∀x,R x->B.heap[x]?=A.heap[x]?) Z
     (fun xs=>xs=pcs ps s) (fun pre=>∃rest,pcs ps s=pre++rest) W:=by
 intro l J Jx hZ hZx hJ hJx hR hj0;have hlt0:=blt W _ h0;have hlt1:=blt W _ h1;obtain⟨p,c,rfl,r1,r2,r3⟩:=hop;obtain⟨n,hn⟩:∃n,n=ps.length:=⟨_,rfl⟩;rw[←hn]at r1 hl h0 hRv;have HN:=hdz hn
 have R3:Hid (ps≠[]->∃b o,p=some ⟨b,o,none⟩/\b<W.heap.size/\∀i q,ps[i]?=some q ->
  W.cell? ⟨b,o+i*3,none⟩=some (.int .i64 q.keep)/\W.cell? ⟨b,o+i*3+1,none⟩=some (.int .i64 q.drop)/\W.cell? ⟨b,o+i*3+2,none⟩=some (.string ⟨q.put.toArray⟩)):=r3
 have HF:=hdz hf;have HSL:=hdz hs;have HRV:Hid (∀b o,p=some ⟨b,o,none⟩->ps≠[]->R b):=fun b o e=>hRv b o n c (by rw[e]);have HRL:=hdz hRl;clear r3 hf hn hs hRv hRl;refine callsIn_of_wp Tryz.func174 rfl trivial ?_ rfl;simp only[Tryz.ntmps174,List.size_toArray,List.length_cons,List.length_nil,Nat.reduceAdd,Nat.reduceSub,Array.replicate_succ,Array.replicate_zero,List.push_toArray,List.append_toArray,List.nil_append,List.cons_append]
 gi_wp2
 gi_loopw [4,11] (fun rest i wr=>∃(k:Nat),k<=n/\i=.int .i64 k/\rest=.string ⟨(Jdw (ps.take k) s).toArray⟩/\W.heap.size<=wr.heap.size/\(∀x,R x->wr.heap[x]?=W.heap[x]?)/\J (pcs (ps.take k) s) wr) (fun _ i _=>n - (intOf i).toNat)
 case atStart=>exact⟨0,Nat.zero_le _,rfl,rfl,nlr _,fun _ _=>rfl,hj0⟩
 case round =>
  obtain⟨k,hk,rfl,rfl,hsz,hkeep,hjp⟩:=hrel
  by_cases hlt:k<n
  . have hkr : k<ps.length:=by rw[←HN.out];exact hlt
    have hne:ps≠[]:=by intro e;rw[e]at hkr;exact absurd hkr (Nat.not_lt_zero _)
    obtain⟨b,o,rfl,hbw,hcell⟩:=R3.out hne;obtain⟨c0,c1,c2⟩:=hcell k ps[k] (lgg hkr);have hkb:=hkeep b (HRV.out b o rfl hne);have g0:=(World.cell?_of_block (w:=W) (w':=wr) (a:=⟨b,o+k*3,none⟩) hkb).trans c0;have g1:=(World.cell?_of_block (w:=W) (w':=wr) (a:=⟨b,o+k*3+1,none⟩) hkb).trans c1;have g2:=(World.cell?_of_block (w:=W) (w':=wr) (a:=⟨b,o+k*3+2,none⟩) hkb).trans c2;obtain⟨f1,f2,f3⟩:=Js4 ps s HF.out k hkr;have hll:=Jsh (ps.take k) s;have hs9:=HSL.out;have hts:ps.take (k+1)=ps.take k++[ps[k]]:=List.take_succ_eq_append_getElem hkr;have hpn:pcs (ps.take (k+1)) s=pcs (ps.take k) s++[(ps[k],(Jdw (ps.take k) s).take (lenP ps[k]).toNat)]:=by rw[hts,Jfs];rfl
    have hln:Jdw (ps.take (k+1)) s=(Jdw (ps.take k) s).drop (lenP ps[k]).toNat:=by rw[hts,JoK]
    have hSp:∃rest,pcs ps s=(pcs (ps.take k) s++[(ps[k],(Jdw (ps.take k) s).take (lenP ps[k]).toNat)])++rest:=by
     rw[←hpn];refine⟨pcs (ps.drop (k+1)) (Jdw (ps.take (k+1)) s),?_⟩;rw[←Jfs,List.take_append_drop]
    generalize ps[k]=q at *;generalize Jdw (ps.take k) s=T at *;obtain⟨K,D,U⟩:=q;have hlen:lenP ⟨K,D,U⟩=K+D:=rfl;rw[hlen]at f3 hpn hln hSp;simp only at f1 f2 g0 g1 g2;obtain⟨m,hm⟩:∃m:Nat,K+D=m:=⟨(K+D).toNat,by omega⟩;have hm':(K+D).toNat=m:=by omega
    rw[hm']at hpn hln hSp;rw[hm]at f3;have hwm:IntKind.i64.wrap (K+D)=(m:Int):=by rw[IntKind.wrap_i64];omega
    have hmT:m<=T.length:=by omega
    have hmi:(m:Int)<=(T.length:Int):=by omega
    have hm0:(0:Int)<=(m:Int):=by omega
    have e1:=Joe T m;have e2:=Jod T m;have HJP:=hdz hjp;have HSP:=hdz hSp;have HPN:=hdz hpn;have HLN:=hdz hln;have HKEEP:=hdz hkeep;clear hcell c0 c1 c2 hts hpn hln hSp hjp hlen hkb hkeep hm' f3 hll hs9 hm;have hbA:Below wr.heap.size wr (wr.alloc (.cells #[.int .i64 K,.int .i64 D,.string ⟨U.toArray⟩] 50)).drew:=((brf _ _).alloc (nlr _) _).drew;obtain⟨fn,tmps,assign,body,hyy,hRd⟩:=hR (pcs (ps.take k) s) (⟨K,D,U⟩,T.take m) _ (hJ _ _ _ HJP.out ⟨hbA,hsz⟩) HSP.out;unfold JaO at hyy
    gi_wp2
    have hRd2:=hRd.mono (fun e A' HH=>(⟨HH,by rcases HH with ⟨rfl,_⟩|⟨rfl,_⟩;exact⟨true,rfl⟩;exact⟨false,rfl⟩⟩:_/\∃bb:Bool,e=.returned (.bool bb)))
    gi_region_with (refine⟨rfl,hRd2.mono ?_⟩;rintro e A' ⟨HH,bb,rfl⟩)
    all_goals
     have hcase:(bb=true/\J (pcs (ps.take k) s++[(⟨K,D,U⟩,T.take m)]) A'/\wr.heap.size<=A'.heap.size/\∀x,R x->A'.heap[x]?=wr.heap[x]?)\/(bb=false/\Jx (pcs (ps.take k) s++[(⟨K,D,U⟩,T.take m)]) A'):=by
      rcases HH with ⟨e1,e2,e3,e4⟩|⟨e1,e2,_⟩
      . simp only[Ending.returned.injEq,Value.bool.injEq]at e1
        refine .inl ⟨e1,e2,Nat.le_trans hbA.size e3,fun x hx=>(e4 x hx).trans ?_⟩;have hxl:x<wr.heap.size:=by
         rcases Nat.lt_or_ge x wr.heap.size with h|h
         . exact h
         . exact absurd (HRL.out x hx) (by have:=hsz;omega)
        exact hbA.block x hxl
      . simp only[Ending.returned.injEq,Value.bool.injEq]at e1
        exact .inr ⟨e1,e2⟩
     clear HH hRd hRd2 hyy
     rcases hcase with ⟨rfl,hj2,hs2,hk2⟩|⟨rfl,hjx⟩
     . have HJ2:Hid (J (pcs (ps.take (k+1)) s) A'):=by show J _ _;rw[HPN.out];exact hj2
       have HK2:Hid (∀x,R x->A'.heap[x]?=W.heap[x]?):=fun x hx=>(hk2 x hx).trans (HKEEP.out x hx);have hs3:W.heap.size<=A'.heap.size:=Nat.le_trans hsz hs2;clear hj2 hk2 g0 g1 g2 hbA
       gi_wp2
       go_roundw
       case rel=>exact⟨k+1,by omega,by go_num,by rw[HLN.out],hs3,HK2.out,HJ2.out⟩
       case measure=>simp[intOf];omega
     . have HJX:=hdz hjx
       clear hjx g0 g1 g2 hbA
       gi_wp2
       refine bodyPost_ret (results_none rfl _ _ _) rfl ?_;exact⟨⟨_,rfl⟩,.inr ⟨_,HSP.out,HJX.out⟩⟩
  . have e:ps.take k=ps:=List.take_of_length_le (by rw[←HN.out];omega)
    rw[e]at hjp;have HJ:=hdz hjp;clear e hjp R3 HF
    gi_wp2
    go_end0;exact⟨⟨_,rfl⟩,.inl ⟨_,rfl,HJ.out⟩⟩
variable {ps : List Pt}{s : List UInt8}
def JfU (b:UInt8):Bool:=Lib.runeStart (b.toNat:Int)
def Jbg (l:List UInt8):Bool:=match l with
 | []=>false
 | b :: _=>!JfU b
def badO:List Pt->List UInt8->Bool
 | [],_=>false
 | p :: ps,s=>Jbg (s.take (lenP p).toNat) || badO ps (s.drop (lenP p).toNat)
theorem JsU(ps:List Pt)(s:List UInt8):badO ps s=(pcs ps s).any fun x=>Jbg x.2:=by
 induction ps generalizing s with
 | nil=>rfl
 | cons p ps ih=>simp[badO,pcs,ih]
theorem chkE_ok{n:Int}(h:chkE ps n=0):∀p∈ps,Jbc p:=by
 unfold chkE at h
 split at h
 . rename_i h1
   exact fun p hp=>(Jce (Jey h1 p hp).1).1
 . rename_i h1
   exact absurd h h1
theorem Jrs(hs:∀p∈ps,Jbc p)(h:chk2 ps (s.length:Int)=0):Jki ps s/\Jdw ps s=[]:=by
 induction ps generalizing s with
 | nil =>
  unfold chk2 at h;refine⟨trivial,?_⟩
  split at h
  . exact List.eq_nil_of_length_eq_zero (by show s.length=0;omega)
  . cases h
 | cons p ps ih =>
  unfold chk2 at h;have hp:=hs p (List.mem_cons_self ..);obtain⟨h1,h2⟩:=hp
  split at h
  . cases h
  . rename_i h3
    have hl:lenP p=p.keep+p.drop:=rfl;have e:((s.drop (lenP p).toNat).length:Int)=(s.length:Int) - (p.keep+p.drop):=by rw[List.length_drop];omega
    rw[←e]at h;obtain⟨i1,i2⟩:=ih (fun q hq=>hs q (List.mem_cons_of_mem _ hq)) h;exact⟨⟨h1,h2,by omega,i1⟩,i2⟩
theorem Jis(h:chkE ps (s.length:Int)=0):Jki ps s/\Jdw ps s=[]:=by
 have hs:=chkE_ok h;unfold chkE at h
 split at h
 . exact Jrs hs h
 . rename_i h1;exact absurd h h1
def ordE (ps:List Pt) (s:List UInt8):Int:=if chkE ps (s.length:Int)=0 then (if badO ps s then 10 else 0) else chkE ps (s.length:Int)
theorem Jfn(s:List UInt8):(ByteArray.mk s.toArray).size=s.length:=by simp[ByteArray.size]
theorem Jks(v:Value)(ps:List Pt)(s:List UInt8)(w:World)(hT:Lib.Utf8Tabs 2 3 w)(hr:opAt w v ps)(hwf:∀p∈ps,wfP p)(hs:s.length<1000000000)(hl:ps.length<10000000)(he:chkE ps (s.length:Int)≠0) :
    Calls Tryz.prog 105 #[v,.string ⟨s.toArray⟩] w fun e w'=>e=.returned (errV (ordE ps s))/\Below w.heap.size w w':=by
 have cC:Hid (∀wx,Below w.heap.size w wx->Calls Tryz.prog 92 #[v,.int .i64 (s.length:Int)] wx fun e w'=>e=.returned (errV (chkE ps (s.length:Int)))/\Below wx.heap.size wx w'):=fun wx hb=>JcM v ps _ wx (Go.Proofs.Utf8Tabs_below hT hb) (JaK hr hb (nlr _)) hwf (by omega) hl;unfold ordE;rw[if_neg he];have hV:errV (chkE ps (s.length:Int))=.iface 26 (.int .i64 (chkE ps (s.length:Int))):=by unfold errV;rw[if_neg he]
 rw[hV]at cC ⊢;generalize chkE ps (s.length:Int)=E at *;obtain⟨p,c,rfl,_⟩:=hr;clear hT hwf hV
 go_enter Tryz.func105,Tryz.ntmps105
 go_wp2_with (go_at_call 92;refine(cC.out _ ((brf _ _).alloc (nlr _) _)).mono ?_;rintro e w1 ⟨rfl,hb1⟩;have c0:w1.cell? ⟨w.heap.size,0,none⟩=some .nilIface:=(hb1.cell (p:=⟨w.heap.size,0,none⟩) (by simp)).trans (by simp[go_sem]);have c1:w1.frozen? ⟨w.heap.size,0,none⟩=false:=(hb1.frozen (p:=⟨w.heap.size,0,none⟩) (by simp)).trans (by simp[go_sem]))
 refine bodyPost_ret (v:=.iface 26 (.int .i64 E)) (by simp[results,Tryz.results105,go_sem,c0]) rfl ?_;exact⟨rfl,(((brf _ _).alloc (nlr _) _).trans (hb1.mono (by simp))).setCell (p:=⟨w.heap.size,0,none⟩) (nlr _) _⟩
theorem JiE(v:Value)(ps:List Pt)(s:List UInt8)(w:World)(hT:Lib.Utf8Tabs 2 3 w)(hr:opAt w v ps)(hwf:∀p∈ps,wfP p)(hs:s.length<1000000000)(hl:ps.length<10000000)(he:chkE ps (s.length:Int)=0) :
    Calls Tryz.prog 105 #[v,.string ⟨s.toArray⟩] w fun e w'=>e=.returned (errV (ordE ps s))/\Below w.heap.size w w':=by
 have cC:Hid (∀wx,Below w.heap.size w wx->Calls Tryz.prog 92 #[v,.int .i64 (s.length:Int)] wx fun e w'=>e=.returned (errV (chkE ps (s.length:Int)))/\Below wx.heap.size wx w'):=fun wx hb=>JcM v ps _ wx (Go.Proofs.Utf8Tabs_below hT hb) (JaK hr hb (nlr _)) hwf (by omega) hl;obtain⟨hfit,hleft⟩:=Jis he;unfold ordE;rw[if_pos he];have hV:errV (chkE ps (s.length:Int))=.nilIface:=by unfold errV;rw[if_pos he]
 rw[hV]at cC;have HF:=hdz hfit;have HR:=hdz hr;have HSL:=hdz hs;have HLP:=hdz hl;have HBO:=hdz (JsU ps s);obtain⟨BB,hBB⟩:∃BB,badO ps s=BB:=⟨_,rfl⟩;have HBB:=hdz hBB;rw[hBB];obtain⟨V,hV0⟩:∃V,errV (if BB=true then 10 else 0)=V:=⟨_,rfl⟩;have HV:=hdz hV0;rw[hV0];clear hV0;have hrow:∀x o n c,v=.slice (some ⟨x,o,none⟩) n c->ps≠[]->x<w.heap.size:=by
  intro x o n c e hne;obtain⟨p,c',rfl,_,_,h3⟩:=hr;obtain⟨b,o',e1,e2,_⟩:=h3 hne;simp only[Value.slice.injEq]at e;rw[e.1]at e1;simp only[Option.some.injEq,Addr.mk.injEq]at e1;rw[e1.1];exact e2
 have HROW:=hdz hrow;obtain⟨p,c,rfl,_⟩:=hr;clear hT hwf hV hfit hleft hrow he hBB;have cO:=fun (wx:World)=>JnD p ps.length c ⟨s.toArray⟩ wx;refine(callsIn_wide (n:=3)).1 ?_;refine callsIn_of_wp_marks Tryz.func105 rfl trivial ?_ rfl;simp only[Tryz.ntmps105,List.size_toArray,List.length_cons,List.length_nil,Nat.reduceAdd,Nat.reduceSub,Array.replicate_succ,Array.replicate_zero,List.push_toArray,List.append_toArray,List.nil_append,List.cons_append]
 gi_wp2_with (first
  | (refine⟨trivial,?_⟩;gi_at_call 92;refine(callsIn_wide.2 (cC.out _ ((brf _ _).alloc (nlr _) _))).mono ?_;rintro e w1 ⟨rfl,hb1⟩;have c0:w1.cell? ⟨w.heap.size,0,none⟩=some .nilIface:=(hb1.cell (p:=⟨w.heap.size,0,none⟩) (by simp)).trans (by simp[go_sem]);have c1:w1.frozen? ⟨w.heap.size,0,none⟩=false:=(hb1.frozen (p:=⟨w.heap.size,0,none⟩) (by simp)).trans (by simp[go_sem]))
  | (refine⟨trivial,?_⟩;gi_at_call 106;refine(callsIn_wide.2 (cO _)).mono ?_;rintro e w13 ⟨rfl,rfl⟩))
 have hb0:Below w.heap.size w w1:=((brf _ _).alloc (nlr _) _).trans (hb1.mono (by simp));have hlt1:w.heap.size<w1.heap.size:=blt w1 _ c0;obtain⟨sb,hsb⟩:∃sb,w1.heap.size=sb:=⟨_,rfl⟩;obtain⟨W4,hW4⟩:∃W4,W4=(w1.alloc (.cells #[.slice p ps.length c] 23)).alloc (.cells #[.string ⟨s.toArray⟩] 9):=⟨_,rfl⟩;have hb4:Below w.heap.size w W4:=by rw[hW4];exact(hb0.alloc hb0.size _).alloc (by simp;omega) _
 have hs4:W4.heap.size=sb+2:=by rw[hW4,←hsb];simp
 have k0:W4.cell? ⟨sb,0,none⟩=some (.slice p ps.length c):=by rw[hW4,←hsb];simp[go_sem]
 have k1:W4.cell? ⟨sb+1,0,none⟩=some (.string ⟨s.toArray⟩):=by rw[hW4,←hsb];simp[go_sem]
 have c0':W4.cell? ⟨w.heap.size,0,none⟩=some .nilIface:=by
  have hB:Below w1.heap.size w1 W4:=by rw[hW4];exact((brf _ _).alloc (nlr _) _).alloc (by simp) _
  exact(hB.cell (p:=⟨w.heap.size,0,none⟩) hlt1).trans c0
 have c1':W4.frozen? ⟨w.heap.size,0,none⟩=false:=by
  have hB:Below w1.heap.size w1 W4:=by rw[hW4];exact((brf _ _).alloc (nlr _) _).alloc (by simp) _
  exact(hB.frozen (p:=⟨w.heap.size,0,none⟩) hlt1).trans c1
 rw[←hW4,hsb];rw[hsb]at hlt1;clear hW4 cC cO c0 c1 hb0 hb1 hsb
 refine JgY (gf:=174) (lb:=#[.pointer (some ⟨sb+1,0,none⟩),.pointer (some ⟨sb,0,none⟩)]) rfl (enters_of Tryz.func174 (by kernel_rfl) rfl) (encs:=fun _ (x:Pt×List UInt8)=>#[JaO x.1,.string ⟨x.2.toArray⟩]) (fun _ _=>rfl)
  (It:=fun A B=>Below A.heap.size A B/\sb+4<=A.heap.size) (Kp:=fun A B=>A.heap.size<=B.heap.size/\∀x,(x=sb\/x=sb+1\/x<w.heap.size)->B.heap[x]?=A.heap[x]?) (Z:=fun _=>True) (S:=fun xs=>xs=pcs ps s) (Sp:=fun pre=>∃rest,pcs ps s=pre++rest)
  ?seq ?its (fun h k=>⟨Nat.le_trans h.1 k.1,fun x hx=>(k.2 x hx).trans (h.2 x hx)⟩) ?hkb
  (fun pre W=>Below w.heap.size w W/\sb+4<=W.heap.size/\W.cell? ⟨w.heap.size,0,none⟩=some .nilIface/\W.frozen? ⟨w.heap.size,0,none⟩=false/\(pre.any fun x=>Jbg x.2)=false)
  (fun k pre W=>k=.ret/\Below w.heap.size w W/\sb+4<=W.heap.size/\W.cell? ⟨w.heap.size,0,none⟩=some (.iface 26 (.int .i64 10))/\(pre.any fun x=>Jbg x.2)=true) (fun _ _ _=>trivial) (fun _ _ _ _=>trivial) ?ii ?ib ?ix ?ixb ?h0 ?round ?done ?stop
 case seq =>
  intro W hs1 hb1;rw[hs4]at hs1 hb1;have hb9:Below w.heap.size w W:=hb4.trans (hb1.mono (by omega));have:=JnC (.slice p ps.length c) ps s HSL.out HLP.out HF.out (fun x=>(x=sb\/x=sb+1\/x<w.heap.size)) sb W ((hb1.cell (p:=⟨sb,0,none⟩) (by show sb<_;omega)).trans k0) ((hb1.cell (p:=⟨sb+1,0,none⟩) (by show sb+1<_;omega)).trans k1) (JaK HR.out hb9 (nlr _)) (.inl rfl) (.inr (.inl rfl)) (fun b o n c' e hne=>.inr (.inr (HROW.out b o n c' e hne))) (by rintro x (rfl|rfl|hx)<;>omega) (fun _=>True);rw[hs1]at this;exact this
 case its=>exact fun A B h=>Same2.of_below h.1 (by rw[hs4];omega)
 case hkb =>
  intro A r;rw[hs4];exact⟨by simp,fun x hx=>World.putObj_heap_other (by omega)⟩
 case ii =>
  rintro pre A B ⟨h1,h2,h3,h4,h5⟩ ⟨hb,hA⟩;exact⟨h1.trans (hb.mono h1.size),Nat.le_trans h2 hb.size,(hb.cell (p:=⟨w.heap.size,0,none⟩) (by show w.heap.size<_;omega)).trans h3,(hb.frozen (p:=⟨w.heap.size,0,none⟩) (by show w.heap.size<_;omega)).trans h4,h5⟩
 case ib =>
  rintro pre A r ⟨h1,h2,h3,h4,h5⟩;rw[hs4];have hp:=Put1.putObj (sb+2+1) A (.loop r);exact⟨h1.trans (hp.below (by omega)),by rw[hp.size];exact h2,(hp.cell (by omega)).trans h3,(hp.frozen (by omega)).trans h4,h5⟩
 case ix =>
  rintro k pre A B ⟨h0,h1,h2,h3,h5⟩ ⟨hb,hA⟩;exact⟨h0,h1.trans (hb.mono h1.size),Nat.le_trans h2 hb.size,(hb.cell (p:=⟨w.heap.size,0,none⟩) (by show w.heap.size<_;omega)).trans h3,h5⟩
 case ixb =>
  rintro k pre A r ⟨h0,h1,h2,h3,h5⟩;rw[hs4];have hp:=Put1.putObj (sb+2+1) A (.loop r);exact⟨h0,h1.trans (hp.below (by omega)),by rw[hp.size];exact h2,(hp.cell (by omega)).trans h3,h5⟩
 case h0 =>
  rintro W hs hb _;rw[hs4]at hs hb;exact⟨hb4.trans (hb.mono (by omega)),by omega,(hb.cell (p:=⟨w.heap.size,0,none⟩) (by show w.heap.size<_;omega)).trans c0',(hb.frozen (p:=⟨w.heap.size,0,none⟩) (by show w.heap.size<_;omega)).trans c1',rfl⟩
 case round =>
  rintro l pre x W ⟨h1,h2,h3,h4,h5⟩ hlW hSp;rw[hs4]at hlW ⊢;obtain⟨q,T⟩:=x;have HP5:=hdz h5;have HB:=hdz h1;clear h5 hSp h1 k0 k1 c0' c1' hb4;unfold JaO
  gi_wp2
  refine⟨Same2.refl _ W,⟨nlr _,fun _ _=>trivial⟩,?_⟩;intro w2 hp _;have hs2:sb+4<=w2.heap.size:=by rw[hp.size];exact h2
  have y3:=(hp.cell (b:=w.heap.size) (o:=0) (by omega)).trans h3;have y4:=(hp.frozen (b:=w.heap.size) (o:=0) (by omega)).trans h4;have HB2:Hid (Below w.heap.size w w2):=HB.out.trans (hp.below (by omega));clear h3 h4 hp hlW
  cases T with
  | nil =>
   gi_wp2_with (refine⟨trivial,?_⟩)
   exact⟨Same2.refl _ _,⟨nlr _,fun _ _=>rfl⟩,HB2.out,hs2,y3,y4,by rw[List.any_append,HP5.out];rfl⟩
  | cons b T =>
   have cR:∀wx,Calls Tryz.prog 173 #[.int .u8 (((ByteArray.mk (b :: T).toArray)[0]'(by simp[ByteArray.size])).toNat:Int)] wx fun e w'=>e=.returned (.bool (JfU b))/\w'=wx:=fun wx=>Tryz.utf8_RuneStart (b.toNat:Int) wx (by omega) (by have:=b.toNat_lt;omega)
   by_cases hst:JfU b=true
   . rw [hst]at cR
     have HB5:Hid (((pre++[(q,b :: T)]).any fun x=>Jbg x.2)=false):=by
      show _=_;rw[List.any_append,HP5.out];simp[Jbg,hst]
     clear hst
     gi_wp2_with (refine⟨trivial,rfl,?_⟩;refine(CallsIn.inRound l (callsIn_wide.2 (cR _))).mono ?_;rintro e wx ⟨rfl,hwx⟩;obtain rfl:=hwx.symm)
     exact⟨Same2.refl _ _,⟨nlr _,fun _ _=>rfl⟩,HB2.out,hs2,y3,y4,HB5.out⟩
   . have hst:JfU b=false:=Bool.eq_false_iff.2 hst
     rw[hst]at cR;have HB5:Hid (((pre++[(q,b :: T)]).any fun x=>Jbg x.2)=true):=by
      show _=_;rw[List.any_append];simp[Jbg,hst]
     clear hst
     gi_wp2_with (refine⟨trivial,rfl,?_⟩;refine(CallsIn.inRound l (callsIn_wide.2 (cR _))).mono ?_;rintro e wx ⟨rfl,hwx⟩;obtain rfl:=hwx.symm)
     refine⟨(Same2.refl _ _).setCell (by show w.heap.size≠_;omega) (by show w.heap.size≠_;omega) _,⟨by simp,fun x hx=>?_⟩,rfl,HB2.out.setCell (p:=⟨w.heap.size,0,none⟩) (nlr _) _,by simpa using hs2,World.cell?_setCell_same _ _ _ y3,HB5.out⟩;exact Below.heap_setCell _ _ _ _ (by show x≠w.heap.size;omega)
 case done =>
  rintro xs W rfl ⟨h1,h2,h3,h4,h5⟩ hDef;rw[hs4]at hDef ⊢;have HB:=hdz h1;have HE:Hid (BB=false):=by
   show _=_;rw[←HBB.out,HBO.out];exact h5
  clear h1 h5 k0 k1 c0' c1' hb4
  gi_wp2
  have hDef':(W.setCell ⟨w.heap.size,0,none⟩ .nilIface).heap[sb+2]?=some (.deferred (some [])):=(Below.heap_setCell _ _ _ _ (by show sb+2≠w.heap.size;omega)).trans hDef;have hP:=Put1.putObj (sb+2) (W.setCell ⟨w.heap.size,0,none⟩ .nilIface) (.deferred none);have p0:=(hP.cell (b:=w.heap.size) (o:=0) (by omega)).trans (World.cell?_setCell_same _ _ .nilIface h3);refine⟨by simp,.inl ⟨_,_,rfl,run_takeDeferred hDef',?_⟩⟩;refine⟨.nilIface,by simp[results,Tryz.results105,go_sem,p0],?_,(HB.out.setCell (p:=⟨w.heap.size,0,none⟩) (nlr _) _).trans (hP.below (by omega))⟩;rw[←HV.out,HE.out];rfl
 case stop =>
  rintro k pre W ⟨rest,hsp⟩ ⟨rfl,h1,h2,h3,h5⟩ hDef;rw[hs4]at hDef ⊢;have HB:=hdz h1;have HE:Hid (BB=true):=by
   show _=_;rw[←HBB.out,HBO.out,hsp,List.any_append,h5];rfl
  clear h1 h5 k0 k1 c0' c1' hb4
  gi_wp2
  have hP:=Put1.putObj (sb+2) W (.deferred none);have p0:=(hP.cell (b:=w.heap.size) (o:=0) (by omega)).trans h3;refine⟨by simp,.inl ⟨_,_,rfl,run_takeDeferred hDef,?_⟩⟩;refine⟨.iface 26 (.int .i64 10),by simp[results,Tryz.results105,go_sem,p0],?_,HB.out.trans (hP.below (by omega))⟩;rw[←HV.out,HE.out];rfl
theorem Jgv(v:Value)(ps:List Pt)(s:List UInt8)(w:World)(hT:Lib.Utf8Tabs 2 3 w)(hr:opAt w v ps)(hwf:∀p∈ps,wfP p)(hs:s.length<1000000000)(hl:ps.length<10000000) :
    Calls Tryz.prog 105 #[v,.string ⟨s.toArray⟩] w fun e w'=>e=.returned (errV (ordE ps s))/\Below w.heap.size w w':=by
 by_cases he:chkE ps (s.length:Int)=0
 . exact JiE v ps s w hT hr hwf hs hl he
 . exact Jks v ps s w hT hr hwf hs hl he
end
end Go.Proofs.YtedgnlgjmnccgabGreatDoor
namespace Go.Proofs
open Go.Shelf
def Tryz.lays169_ren:Go.Shelf.Ren:=⟨fun | 169=>109 | n=>n,fun | 70=>182 | 9=>9 | 0=>0 | 72=>184 | 37=>158 | 127=>272 | 3=>3 | 5=>5 | n=>n,fun | n=>n⟩
theorem Tryz.lays169:Go.Proofs.Lays.n169 Tryz.prog Tryz.lays169_ren:={
 mixed:=by kernel_rfl
 f169:=Tryz.func109.trans (congrArg some (by kernel_rfl))
 t0:=Tryz.underlying0
 a0:=Tryz.isAgg0
 z0:=Tryz.sizeOf0
 v0:=Tryz.zeroValue0
 t3:=Tryz.underlying3
 a3:=Tryz.isAgg3
 z3:=Tryz.sizeOf3
 v3:=Tryz.zeroValue3
 t9:=Tryz.underlying9
 a9:=Tryz.isAgg9
 z9:=Tryz.sizeOf9
 v9:=Tryz.zeroValue9
 t37:=Tryz.underlying158
 a37:=Tryz.isAgg158
 z37:=Tryz.sizeOf158
 v37:=Tryz.zeroValue158
 t70:=Tryz.underlying182
 a70:=Tryz.isAgg182
 z70:=Tryz.sizeOf182
 v70:=Tryz.zeroValue182
 t72:=Tryz.underlying184
 a72:=Tryz.isAgg184
 z72:=Tryz.sizeOf184
 v72:=Tryz.zeroValue184
 t127:=Tryz.underlying272
 a127:=Tryz.isAgg272
 z127:=Tryz.sizeOf272
 v127:=Tryz.zeroValue272 }
theorem Tryz.Builder_Extra_169:Builder.Extra Tryz.prog Tryz.lays169_ren:={
 sizeBuilder:=by kernel_rfl
 liesBuilder:=by kernel_rfl
 t5:=Tryz.underlying5
 a5:=Tryz.isAgg5
 z5:=Tryz.sizeOf5
 v5:=Tryz.zeroValue5
 infoByte:=by kernel_rfl
 cellsByte:=by kernel_rfl
 sizeByte:=by kernel_rfl
 neB5:=by decide }
end Go.Proofs
namespace Go.Proofs.YtedgnlgjmnccgabGreatDoor
section
open Go.RowKit
theorem Jha:(Tryz.prog.info? 184).map (·.size)=some 2:=by kernel_rfl
theorem Jl2:liesAt Tryz.prog Tryz.prog.depth 184 (2 / Tryz.prog.cellsOf 184) 0 184 1=true:=by kernel_rfl
theorem Jiq(b:Nat)(w:World)(h0:w.cell? ⟨b,0,none⟩=some (.pointer none))(hsh:w.shape? b=some (184,2))(hfz:w.frozen? ⟨b,0,none⟩=false) :
    Calls Tryz.prog 175 #[.pointer (some ⟨b,0,none⟩)] w fun e w'=>e=.returned (.tuple #[])/\w'=w.setCell ⟨b,0,none⟩ (.pointer (some ⟨b,0,none⟩)):=by
 obtain⟨j,hj,hjs⟩:=Option.map_eq_some_iff.1 Jha;have h1:=fun w=>Lib.run_to_unsafe (P:=Tryz.prog) w ⟨b,0,none⟩ Tryz.underlying182 Tryz.underlying258 hj (by rw[hjs];decide) (e:=184) (cells:=2);have h3:=Lib.run_from_unsafe (P:=Tryz.prog) w ⟨b,0,none⟩ Tryz.underlying258 Tryz.underlying182 hj hsh Jl2;have h1':=h1 w hsh (Nat.zero_lt_succ 1);have hNE:=@run_callFunc_extern Tryz.prog 219 _ Extern.AbiNoEscape.same Tryz.func219 (by kernel_rfl) (by kernel_rfl) (by kernel_rfl) (by kernel_rfl);have hNR:=fun (x:Value) (w:World)=>Lib.run_noEscape (P:=Tryz.prog) w x;clear h1
 go_enter Tryz.func175,Tryz.ntmps175
 go_wp2;go_end0;exact⟨rfl,rfl⟩
theorem JiD(b:Nat)(w:World)(h0:w.cell? ⟨b,0,none⟩=some (.pointer (some ⟨b,0,none⟩))) :
    Calls Tryz.prog 175 #[.pointer (some ⟨b,0,none⟩)] w fun e w'=>e=.returned (.tuple #[])/\w'=w:=by
 obtain⟨j,hj,_⟩:=Option.map_eq_some_iff.1 Jha;have hne:=Lib.run_neq_ptr_same (P:=Tryz.prog) w ⟨b,0,none⟩ Tryz.underlying182 hj
 go_enter Tryz.func175,Tryz.ntmps175
 go_wp2;go_end0;exact⟨rfl,rfl⟩
theorem Jkp(B b:Nat)(bs:List Value)(w:World)(h:Lib.IsBuilder 184 5 B b bs w) :
    Calls Tryz.prog 175 #[.pointer (some ⟨b,0,none⟩)] w fun e w'=>e=.returned (.tuple #[])/\(Lib.BuilderAt 184 5 B b (.pointer (some ⟨b,0,none⟩)) bs w'/\Below B w w'/\Lib.OthersKept 5 (some b) w w'):=by
 rcases h with h|h
 . refine(Jiq b w h.cell0 h.shape h.frozen0).mono ?_
   rintro e w' ⟨rfl,rfl⟩;exact⟨rfl,h.used _,(brf B w).setCell (p:=⟨b,0,none⟩) h.1 _,(Lib.OthersKept.refl _ _ w).setCell ⟨b,0,none⟩ rfl _⟩
 . refine(JiD b w h.cell0).mono ?_
   rintro e w' ⟨rfl,rfl⟩;exact⟨rfl,h,brf B _,Lib.OthersKept.refl _ _ _⟩
theorem JdX(B b:Nat)(bs:List Value)(s:ByteArray)(w:World)(h:Lib.IsBuilder 184 5 B b bs w)(hlen:bs.length+s.size<=1000000000000)(hBw:B<=w.heap.size) :
    Calls Tryz.prog 108 #[.pointer (some ⟨b,0,none⟩),.string s] w fun e w'=>(∃v,e=.returned v)/\(Lib.IsBuilder 184 5 B b (bs++Lib.strCells s) w'/\Below B w w'/\Lib.OthersKept 5 (some b) w w'):=by
 obtain⟨i0,hi,hz0,hz1,hz2⟩:=info_parts Jik;have cC:=Jkp B b bs w h;clear h
 go_enter Tryz.func108,Tryz.ntmps108
 go_wp2_with (first | (go_at_call 175;refine cC.mono ?_;rintro e w1 ⟨rfl,⟨hB,v,hbk,hown,hne⟩,hb1,hk1⟩;have c0:w1.cell? ⟨b,0,none⟩=some (.pointer (some ⟨b,0,none⟩)):=(by rw[chp hbk];rfl);have c1:w1.cell? ⟨b,1,none⟩=some v:=(by rw[chp hbk];rfl)) | (at_builtin;refine Lib.wpList_append_own_string _ rfl _ _ 158 9 rfl B 5 i0 Tryz.underlying158 Tryz.underlying9 hi hz0 hz1 hz2 _ _ _ rfl hown s rfl (by unfold maxLen;omega) (by omega) (by have:=hb1.size;omega) ?_))
 intro v' w2 hown' hgrow _;have hlt:b<w1.heap.size:=blt w1 _ c0;have hb2:w2.heap[b]?=some (.cells #[.pointer (some ⟨b,0,none⟩),v] 184 (0,0)):=by
  rw[hgrow.block b hlt (fun e=>hne e.symm)];exact hbk
 have d0:w2.cell? ⟨b,0,none⟩=some (.pointer (some ⟨b,0,none⟩)):=by rw[chp hb2];rfl
 have d1:w2.cell? ⟨b,1,none⟩=some v:=by rw[chp hb2];rfl
 have f1:w2.frozen? ⟨b,1,none⟩=false:=Lib.frozen_of_heap hb2 1;obtain⟨ao,cap,rfl⟩:=Jae hown';have HP:Hid (Lib.IsBuilder 184 5 B b (bs++Lib.strCells s) (w2.setCell ⟨b,1,none⟩ (.slice ao (bs.length+s.size) cap))/\Below B w (w2.setCell ⟨b,1,none⟩ (.slice ao (bs.length+s.size) cap))/\Lib.OthersKept 5 (some b) w (w2.setCell ⟨b,1,none⟩ (.slice ao (bs.length+s.size) cap))):=by
  refine⟨.inr ?_,?_,(hk1.grown hgrow (Lib.ownsRowF_kind (World.ownsRowF_of hown))).setCell ⟨b,1,none⟩ rfl _⟩
  . exact Lib.BuilderAt.put (T:=184) (e:=5) hB hb2 (bs':=bs++Lib.strCells s) (by simpa[Lib.strCells_length] using hown') (by decide)
  . exact(hb1.grown hgrow (by have:=hb1.size;omega) (fun k hk=>(hown.lt k hk).1)).setCell (p:=⟨b,1,none⟩) hB _
 clear hown hown' hgrow hb2 hbk hb1 hk1 c0 c1;go_wp2
 go_ret2
 exact⟨⟨_,rfl⟩,HP.out⟩
theorem Jj6{α:Type}{P:Program}{g:Operand}{ps:Array Tmp}{assign body:Code}{Q:Exit->Act->World->Prop}{a:Act}{w:World}{n:Nat}
    {gf:Nat} {lb:Array Value} (hg:a.eval g=.func (.func gf) #[] lb) (eg:∀args w,(callFunc gf args).run P w=.ok (.enter gf args) w)
    {encs:List α->α->Array Value} (hps:∀pre x,(encs pre x).size=ps.size)
    {It Kp:World->World->Prop} {Z:World->Prop} {S Sp:List α->Prop}
    (hseq:∀W,W.heap.size=w.heap.size+2->Below w.heap.size w W->Jok P gf lb encs It Kp Z S Sp W)
    (hIt:∀A B,It A B->Same2 w.heap.size A B)
    (hKt:∀{A B C:World},Kp A B->Kp B C->Kp A C) (hKb:∀(A:World) (r:Loop),Kp A (A.putObj (w.heap.size+1) (.loop r)))
    (I:List α->World->Prop) (Ix:Code->List α->World->Prop)
    (hIz:∀pre A,I pre A->Z A) (hIxz:∀c pre A,Ix c pre A->Z A)
    (hI:∀pre A B,I pre A->It A B->I pre B) (hIb:∀pre A (r:Loop),I pre A->I pre (A.putObj (w.heap.size+1) (.loop r)))
    (hIx:∀c pre A B,Ix c pre A->It A B->Ix c pre B) (hIxb:∀c pre A (r:Loop),Ix c pre A->Ix c pre (A.putObj (w.heap.size+1) (.loop r)))
    (h0:∀W,W.heap.size=w.heap.size+2->Below w.heap.size w W->(∃r,W.heap[w.heap.size+1]?=some (.loop r))->W.heap[w.heap.size]?=some (.deferred (some []))->I [] W)
    (hround:∀(l:Nat) (pre:List α) (x:α) (W:World),I pre W->w.heap.size+2<=W.heap.size->Sp (pre++[x]) ->
      assign.wpIn (Fence.wide.inRound l) 0 P (Exit.then (fun a₁ w₁=>Same2 w.heap.size W w₁/\Kp W w₁/\∀w₂,Put1 (w.heap.size+1) w₁ w₂->(∃r,w₂.heap[w.heap.size+1]?=some (.loop r))->body.wpIn (Fence.wide.inRound l) 0 P (JnB w.heap.size Kp I Ix (pre++[x]) w₂) a₁ w₂) (fun _ _ _=>False))
       { tmps:=(ps.zip (encs pre x)).foldl (fun t (p,v)=>t.setIfInBounds p v) a.tmps,defers:=[] } W)
    (hdone:∀(xs:List α) (W:World),S xs->I xs W->W.heap[w.heap.size]?=some (.deferred (some []))->Q .normal { a with defers:={ target:=.collected w.heap.size,args:=#[] } :: a.defers } W)
    (hstop:∀(c:Code) (pre:List α) (W:World),Sp pre->Ix c pre W->W.heap[w.heap.size]?=some (.deferred (some []))->c.wpIn Fence.wide n P Q { a with defers:={ target:=.collected w.heap.size,args:=#[] } :: a.defers } W) :
    (Code.rangeFunc g ps assign body).wpIn Fence.wide n P Q a w:=by
 refine wpIn_rangeFunc ?_;intro fn hfn;obtain⟨rec,hrec⟩:∃rec:LoopState->Option Code->Loop,rec=fun st pe=>{ state:=st,pending:=pe,fn,tmps:=a.tmps,params:=ps,assign,body,defers:=w.heap.size }:=⟨_,rfl⟩;obtain⟨W1,hW1⟩:∃W1,(w.alloc (.deferred (some []))).alloc (.loop (rec .ready none))=W1:=⟨_,rfl⟩;have hL1:W1.heap[w.heap.size+1]?=some (.loop (rec .ready none)):=by
  rw[←hW1];have:=World.alloc_heap_new (w.alloc (.deferred (some []))) (.loop (rec .ready none));rwa[World.size_alloc]at this
 have hK1:W1.heap[w.heap.size]?=some (.deferred (some [])):=by
  rw[←hW1];exact(Below.heap_alloc _ _ _ (by simp)).trans (World.alloc_heap_new w _)
 have hs1:W1.heap.size=w.heap.size+2:=by rw[←hW1,World.size_alloc,World.size_alloc]
 have hb1:Below w.heap.size w W1:=by
  rw[←hW1];exact((brf _ w).alloc (nlr _) _).alloc (by simp) _
 have hI1:I [] W1:=h0 W1 hs1 hb1 ⟨_,hL1⟩ hK1
 refine ⟨w.heap.size+1,[{ target:=.collected w.heap.size,args:=#[] }],W1,{ target:=.fn (.func gf) lb,args:=#[.func (.yield (w.heap.size+1)) #[] #[]] },W1,gf,
  #[.func (.yield (w.heap.size+1)) #[] #[]]++lb,W1,?_,?_,?_,?_,fun h=>(by cases h),?_⟩
 . rw[←hW1,hrec];exact run_enterLoop_outer _ _ _ _ _
 . simp only[resolve,hg]
   simp[go_sem]
 . intro f' hf';trivial
 . simp[invoke,go_sem,eg]
 . refine CallsIn.more ((hseq W1 hs1 hb1 (w.heap.size+1)
     (fun pre W=>I pre W/\W.heap[w.heap.size+1]?=some (.loop (rec .ready none))/\W.heap[w.heap.size]?=some (.deferred (some [])))
     (fun pre W=>∃c,Ix c pre W/\W.heap[w.heap.size+1]?=some (.loop (rec .done (some c)))/\W.heap[w.heap.size]?=some (.deferred (some [])))
     (fun s A hs=>hIz s A hs.1) (fun s A hs=>(by obtain⟨c,hc,_⟩:=hs;exact hIxz c s A hc))
     (fun s A B hs hg'=>⟨hI s A B hs.1 hg',(hIt A B hg').b.trans hs.2.1,(hIt A B hg').a.trans hs.2.2⟩)
     (fun s A B hs hg'=>by
       obtain⟨c,hc,hl,hk⟩:=hs
       exact⟨c,hIx c s A B hc hg',(hIt A B hg').b.trans hl,(hIt A B hg').a.trans hk⟩)
     ?_ ⟨hI1,hL1,hK1⟩).mono ?_) (Nat.zero_le _)
   . -- one round
     rintro pre x W ⟨hi,hl,hk⟩ hSp;have hlt:w.heap.size+1<W.heap.size:=(alt hl);have hy:=run_yield (P:=P) (args:=encs pre x) hl (by rw[hrec];exact hps pre x);rw[hrec]at hy;refine⟨fn,_,assign,body,hy,roundIn_of_wpIn hfn (wpIn_mono (hround _ pre x W hi (by omega) hSp) ?_)⟩;clear hy;rintro ea a' Wa hq
     cases ea with
     | normal=>?_
     | ret=>exact hq.elim
     | exit id=>exact hq.elim
     | goto t=>exact hq.elim
     | panic c=>exact hq.elim
     | outgrown=>exact hq.elim
     obtain⟨h2a,hkpa,hbody⟩:=hq
     replace hl:=h2a.b.trans hl
     replace hk:=h2a.a.trans hk
     replace hlt:w.heap.size+1<Wa.heap.size:=(alt hl)
     refine⟨_,run_beginRound hl (by rw[hrec]),?_⟩;have hl2:(Wa.putObj (w.heap.size+1) (.loop { rec .ready none with state:=.busy })).heap[w.heap.size+1]?=some (.loop { rec .ready none with state:=.busy }):=World.putObj_heap_same hlt;have hk2:(Wa.putObj (w.heap.size+1) (.loop { rec .ready none with state:=.busy })).heap[w.heap.size]?=some (.deferred (some [])):=(World.putObj_heap_other (by omega)).trans hk;have hw2:Kp Wa (Wa.putObj (w.heap.size+1) (.loop { rec .ready none with state:=.busy })):=hKb _ _;refine wpIn_mono (hbody _ (Put1.putObj _ _ _) ⟨_,hl2⟩) ?_
     have fin:∀(jump:Option Code) (W3:World),Same2 w.heap.size (Wa.putObj (w.heap.size+1) (.loop { rec .ready none with state:=.busy })) W3 ->
         (Instr.endRound (w.heap.size+1) jump).run P W3=.ok (.bool jump.isNone) (W3.putObj (w.heap.size+1) (.loop (rec (if jump.isNone then .ready else .done) jump))) /\
         (W3.putObj (w.heap.size+1) (.loop (rec (if jump.isNone then .ready else .done) jump))).heap[w.heap.size+1]?=some (.loop (rec (if jump.isNone then .ready else .done) jump)) /\
         (W3.putObj (w.heap.size+1) (.loop (rec (if jump.isNone then .ready else .done) jump))).heap[w.heap.size]?=some (.deferred (some [])):=fun jump W3 hk3=>by
      have hl3:=hk3.b.trans hl2;have:=run_endRound (P:=P) jump hl3;rw[hrec]at this ⊢;exact⟨this,World.putObj_heap_same (alt hl3),(World.putObj_heap_other (by omega)).trans (hk3.a.trans hk2)⟩
     rintro e a3 W3 hp
     cases e with
     | normal =>
      obtain⟨hk3,hkp3,hi3⟩:=hp;obtain⟨hr,hl4,hk4⟩:=fin none W3 hk3;exact⟨_,_,hr,.inl ⟨rfl,⟨hIb _ _ _ hi3,hl4,hk4⟩,hKt hkpa (hKt (hKt hw2 hkp3) (hKb _ _))⟩⟩
     | ret =>
      obtain⟨hk3,hkp3,hi3⟩:=hp;obtain⟨hr,hl4,hk4⟩:=fin (some .ret) W3 hk3;exact⟨_,_,hr,.inr ⟨rfl,⟨.ret,hIxb _ _ _ _ hi3,hl4,hk4⟩,hKt hkpa (hKt (hKt hw2 hkp3) (hKb _ _))⟩⟩
     | exit id =>
      obtain⟨hk3,hkp3,hi3⟩:=hp;obtain⟨hr,hl4,hk4⟩:=fin (some (.exit id)) W3 hk3;exact⟨_,_,hr,.inr ⟨rfl,⟨.exit id,hIxb _ _ _ _ hi3,hl4,hk4⟩,hKt hkpa (hKt (hKt hw2 hkp3) (hKb _ _))⟩⟩
     | goto t =>
      obtain⟨hk3,hkp3,hi3⟩:=hp;obtain⟨hr,hl4,hk4⟩:=fin (some (.goto t)) W3 hk3;exact⟨_,_,hr,.inr ⟨rfl,⟨.goto t,hIxb _ _ _ _ hi3,hl4,hk4⟩,hKt hkpa (hKt (hKt hw2 hkp3) (hKb _ _))⟩⟩
     | panic ch=>exact hp.elim
     | outgrown=>exact hp.elim
   . -- behind the iterator
     rintro e W2 ⟨⟨v,rfl⟩,(⟨xs,hS,hi,hl,hk⟩|⟨pre,hSp,c,hi,hl,hk⟩)⟩
     . exact⟨none,_,by have:=run_endLoop (P:=P) hl (by rw[hrec];simp);rw[hrec]at this;exact this,hdone xs _ hS (hIb _ _ _ hi) ((World.putObj_heap_other (by omega)).trans hk)⟩
     . exact⟨some c,_,by have:=run_endLoop (P:=P) hl (by rw[hrec];simp);rw[hrec]at this;exact this,hstop c pre _ hSp (hIxb _ _ _ _ hi) ((World.putObj_heap_other (by omega)).trans hk)⟩
end
section
open Go.RowKit
attribute [local go_sem] Oper.semAt_some
variable {A B w w' : World}{e T b β : Nat}{r : Loop}{bs : List UInt8}{v1 v2 : Value}
theorem Jp4(B b:Nat)(l:List UInt8)(w:World)(h:Lib.IsBuilder 184 5 B b (Lib.byteCells l) w)(hBw:B<=w.heap.size) :
    Calls Tryz.prog 109 #[.pointer (some ⟨b,0,none⟩)] w fun e w'=>e=.returned (.string ⟨l.toArray⟩)/\(Below B w w'/\Lib.OthersKept 5 (some b) w w'):=by
 have c:Calls Tryz.prog 109 #[.pointer (some ⟨b,0,none⟩)] w fun e w'=>e=.returned (.string ⟨l.toArray⟩)/\(Lib.IsBuilderF 184 5 B b (Lib.byteCells l) w'/\Below B w w'/\Lib.OthersKept 5 (some b) w w'):=Any.Builder_String_any_k Tryz.lays169 Tryz.Builder_Extra_169 B b l w (.of h) hBw;exact c.mono fun e w' h=>⟨h.1,h.2.2⟩
def JcN (x:Pt×List UInt8):List UInt8:=(if 0<x.1.keep then x.2 else [])++x.1.put
def Jaa (ps:List Pt) (s:List UInt8):List UInt8:=(pcs ps s).flatMap JcN
theorem Jqu(ps:List Pt)(s:List UInt8)(h:Jki ps s):(((pcs ps s).map fun x=>x.2.length).sum:Nat)<=s.length:=by
 induction ps generalizing s with
 | nil=>simp[pcs]
 | cons p ps ih =>
  obtain⟨h1,h2,h3,h4⟩:=h;have:=ih _ h4;simp only[pcs,List.map_cons,List.sum_cons];rw[List.length_take];rw[List.length_drop]at this;omega
theorem JnA(ps:List Pt)(s:List UInt8):(pcs ps s).map (fun x=>x.1.put.length)=ps.map fun p=>p.put.length:=by
 induction ps generalizing s with
 | nil=>rfl
 | cons p ps ih=>simp[pcs,ih]
def Jal (ps:List Pt):Nat:=(ps.map fun p=>p.put.length).sum
theorem JnP(l:List (Pt×List UInt8)):(l.flatMap JcN).length<=(l.map fun x=>x.2.length).sum+(l.map fun x=>x.1.put.length).sum:=by
 induction l with
 | nil=>simp
 | cons x l ih =>
  simp only[List.flatMap_cons,List.length_append,List.map_cons,List.sum_cons];have:(JcN x).length<=x.2.length+x.1.put.length:=by
   unfold JcN;rw[List.length_append]
   split<;>simp
  omega
theorem JnO{ps:List Pt}{s:List UInt8}(h:Jki ps s){pre rest:List (Pt×List UInt8)}(e:pcs ps s=pre++rest):(pre.flatMap JcN).length<=s.length+Jal ps:=by
 have h1:=JnP pre;have h2:=Jqu ps s h;have h3:=congrArg List.sum (JnA ps s);rw[e]at h2 h3;rw[List.map_append,List.sum_append]at h2 h3;unfold Jal;omega
theorem Jm9{n N size k:Nat}{v:Value}{xs:List Value}(h:A.ownsRow N e size v k xs)(hn:A.heap[n]?=some (.loop r))(hp:Put1 n A B):B.ownsRow N e size v k xs:=by
 obtain⟨h0,hrow⟩:=h;refine⟨h0,?_⟩
 rcases hrow with hx|⟨g,cap,cur,rfl,hg,hgg,rest⟩
 . exact .inl hx
 . refine .inr ⟨g,cap,cur,rfl,hg,(hp.block g ?_).trans hgg,rest⟩
   rintro rfl;rw[hn]at hgg
   cases hgg
theorem Jt2{B:Nat}{p:Value}{bs:List Value}(h:Lib.BuilderAt T e B b p bs w)(hb:w'.heap[b]?=w.heap[b]?)(ho:∀v,w.ownsRow B e 1 v bs.length bs->w'.ownsRow B e 1 v bs.length bs):Lib.BuilderAt T e B b p bs w':=by
 obtain⟨h1,v,h2,h3,h4⟩:=h;exact⟨h1,v,hb.trans h2,ho v h3,h4⟩
theorem Jt1{B:Nat}{bs:List Value}(h:Lib.IsBuilder T e B b bs w)(hb:w'.heap[b]?=w.heap[b]?)(ho:∀v,w.ownsRow B e 1 v bs.length bs->w'.ownsRow B e 1 v bs.length bs):Lib.IsBuilder T e B b bs w' :=
 h.elim (fun h=>.inl (Jt2 h hb ho)) (fun h=>.inr (Jt2 h hb ho))
structure apI (w:World) (β:Nat) (v1 v2:Value) (r:Loop) (bs:List UInt8) (A:World):Prop where
 below:Below w.heap.size w A
 size:β+5<=A.heap.size
 bld:Lib.IsBuilder 184 5 β β (Lib.byteCells bs) A
 h1:A.heap[β+1]?=some (.cells #[v1] 23 (0,0))
 h2:A.heap[β+2]?=some (.cells #[v2] 9 (0,0))
 h3:A.heap[β+3]?=some (.deferred (some []))
 h4:A.heap[β+4]?=some (.loop r)
theorem apI.grow(h:apI w β v1 v2 r bs A)(hb:Below A.heap.size A B):apI w β v1 v2 r bs B:=by
 have hs:=h.size;exact⟨h.below.trans (hb.mono h.below.size),Nat.le_trans hs hb.size,Jt1 h.bld (hb.block β (by omega)) (fun v hv=>JaR hv hb),(hb.block (β+1) (by omega)).trans h.h1,(hb.block (β+2) (by omega)).trans h.h2,(hb.block (β+3) (by omega)).trans h.h3,(hb.block (β+4) (by omega)).trans h.h4⟩
theorem apI.put{r':Loop}(h:apI w β v1 v2 r bs A)(hw:w.heap.size<=β)(hp:Put1 (β+4) A B)(hl:B.heap[β+4]?=some (.loop r')):apI w β v1 v2 r' bs B :=
 ⟨h.below.trans (hp.below (by omega)),by rw[hp.size];exact h.size,Jt1 h.bld (hp.block β (by omega)) (fun v hv=>Jm9 hv h.h4 hp),(hp.block (β+1) (by omega)).trans h.h1,(hp.block (β+2) (by omega)).trans h.h2,(hp.block (β+3) (by omega)).trans h.h3,hl⟩
theorem apI.wrote{u:List UInt8}(h:apI w β v1 v2 r bs A)(hw:w.heap.size<=β)(h1:Lib.IsBuilder 184 5 β β (Lib.byteCells bs++Lib.strCells ⟨u.toArray⟩) B)(h2:Below β A B)(h3:Lib.OthersKept 5 (some β) A B):apI w β v1 v2 r (bs++u) B:=by
 refine⟨h.below.trans (h2.mono hw),Nat.le_trans h.size h2.size,?_,h3 _ _ h.h1 (by simp) (by intro c fz e;cases e),h3 _ _ h.h2 (by simp) (by intro c fz e;cases e),h3 _ _ h.h3 (by simp) (by intro c fz e;cases e),h3 _ _ h.h4 (by simp) (by intro c fz e;cases e)⟩;rw[Lib.byteCells_append];exact h1
theorem apI.kept{bs':List UInt8}(h:apI w β v1 v2 r bs A)(h':apI w β v1 v2 r bs' B)(hs:A.heap.size<=B.heap.size) :
    Same2 (β+3) A B/\A.heap.size<=B.heap.size/\∀(x:Nat),x=β+1\/x=β+1+1\/x<w.heap.size->B.heap[x]?=A.heap[x]?:=by
 refine⟨⟨h'.h3.trans h.h3.symm,h'.h4.trans h.h4.symm⟩,hs,?_⟩;rintro x (rfl|rfl|hx)
 . exact h'.h1.trans h.h1.symm
 . exact h'.h2.trans h.h2.symm
 . exact(h'.below.block x hx).trans (h.below.block x hx).symm
theorem JrC(v:Value)(ps:List Pt)(s:List UInt8)(w:World)(hT:Lib.Utf8Tabs 2 3 w)(hr:opAt w v ps)(hwf:∀p∈ps,wfP p)(hs:s.length<1000000000)(hl:ps.length<10000000)(he:ordE ps s≠0) :
    Calls Tryz.prog 29 #[v,.string ⟨s.toArray⟩] w fun e w'=>e=.returned (.tuple #[.string ⟨#[]⟩,errV (ordE ps s)])/\Below w.heap.size w w':=by
 have cC:Hid _:=Jgv v ps s w hT hr hwf hs hl;have hV:errV (ordE ps s)=.iface 26 (.int .i64 (ordE ps s)):=by unfold errV;rw[if_neg he]
 rw[hV]at cC ⊢;generalize ordE ps s=E at *;obtain⟨p,c,rfl,_⟩:=hr;clear hT hwf hV
 go_enter Tryz.func29,Tryz.ntmps29
 go_wp2_with (go_at_call 105;refine Calls.mono cC.out ?_;rintro e w1 ⟨rfl,hb1⟩)
 go_ret2
 exact⟨rfl,hb1⟩
theorem Jp6(v:Value)(ps:List Pt)(s:List UInt8)(w:World)(hT:Lib.Utf8Tabs 2 3 w)(hr:opAt w v ps)(hwf:∀p∈ps,wfP p)(hs:s.length<1000000000)(hl:ps.length<10000000)(hpu:Jal ps<100000000000)(he:chkE ps (s.length:Int)=0)(hbad:badO ps s=false) :
    Calls Tryz.prog 29 #[v,.string ⟨s.toArray⟩] w fun e w'=>e=.returned (.tuple #[.string ⟨(Jaa ps s).toArray⟩,.nilIface])/\Below w.heap.size w w':=by
 have cC:Hid _:=Jgv v ps s w hT hr hwf hs hl;obtain⟨hfit,hleft⟩:=Jis he;have hV:errV (ordE ps s)=.nilIface:=by unfold ordE;rw[if_pos he,hbad];rfl
 rw[hV]at cC;have HF:=hdz hfit;have HR:=hdz hr;have HSL:=hdz hs;have HLP:=hdz hl;have HPU:=hdz hpu;have hrow:∀x o n c,v=.slice (some ⟨x,o,none⟩) n c->ps≠[]->x<w.heap.size:=by
  intro x o n c e hne;obtain⟨p,c',rfl,_,_,h3⟩:=hr;obtain⟨b,o',e1,e2,_⟩:=h3 hne;simp only[Value.slice.injEq]at e;rw[e.1]at e1;simp only[Option.some.injEq,Addr.mk.injEq]at e1;rw[e1.1];exact e2
 have HROW:=hdz hrow;obtain⟨p,c,rfl,_⟩:=hr;obtain⟨S,hS⟩:∃S:ByteArray,(ByteArray.mk (Jaa ps s).toArray)=S:=⟨_,rfl⟩;have HS:=hdz hS;rw[hS];clear hT hwf hV hfit hleft hrow he hbad hS hpu;have cO:=fun (wx:World)=>JnD p ps.length c ⟨s.toArray⟩ wx;refine(callsIn_wide (n:=3)).1 ?_;refine callsIn_of_wp_marks Tryz.func29 rfl trivial ?_ rfl;simp only[Tryz.ntmps29,List.size_toArray,List.length_cons,List.length_nil,Nat.reduceAdd,Nat.reduceSub,Array.replicate_succ,Array.replicate_zero,List.push_toArray,List.append_toArray,List.nil_append,List.cons_append]
 gi_wp2_with (first
  | (refine⟨trivial,?_⟩;gi_at_call 105;refine(callsIn_wide.2 cC.out).mono ?_;rintro e w1 ⟨rfl,hb1⟩)
  | (refine⟨trivial,?_⟩;gi_at_call 106;refine(callsIn_wide.2 (cO _)).mono ?_;rintro e w13 ⟨rfl,rfl⟩))
 have hlt1:w.heap.size<=w1.heap.size:=hb1.size;obtain⟨β,hβ⟩:∃β,w1.heap.size=β:=⟨_,rfl⟩;obtain⟨W4,hW4⟩:∃W4,W4=((w1.alloc (.cells #[.pointer none,.slice none 0 0] 184)).alloc (.cells #[.slice p ps.length c] 23)).alloc (.cells #[.string ⟨s.toArray⟩] 9):=⟨_,rfl⟩;have hb4:Below w.heap.size w W4:=by rw[hW4];exact((hb1.alloc hb1.size _).alloc (by simp;omega) _).alloc (by simp;omega) _
 have hs4:W4.heap.size=β+3:=by rw[hW4,←hβ];simp
 have q0:W4.heap[β]?=some (.cells #[.pointer none,.slice none 0 0] 184 (0,0)):=by rw[hW4,←hβ];exact(heap_alloc_old _ _ (by rw[wsa,World.size_alloc];omega)).trans ((heap_alloc_old _ _ (by rw[wsa];omega)).trans (heap_alloc_new _ _))
 have q1:W4.heap[β+1]?=some (.cells #[.slice p ps.length c] 23 (0,0)):=by rw[hW4,←hβ];exact(heap_alloc_old _ _ (by simp)).trans (by have:=heap_alloc_new (w1.alloc (.cells #[.pointer none,.slice none 0 0] 184)) (.cells #[.slice p ps.length c] 23);rwa[World.size_alloc]at this)
 have q2:W4.heap[β+2]?=some (.cells #[.string ⟨s.toArray⟩] 9 (0,0)):=by rw[hW4,←hβ];have:=heap_alloc_new ((w1.alloc (.cells #[.pointer none,.slice none 0 0] 184)).alloc (.cells #[.slice p ps.length c] 23)) (.cells #[.string ⟨s.toArray⟩] 9);rwa[World.size_alloc,World.size_alloc]at this
 rw[←hW4,hβ];rw[hβ]at hlt1;clear hW4 cC cO hb1 hβ
 refine Jj6 (gf:=174) (lb:=#[.pointer (some ⟨β+1+1,0,none⟩),.pointer (some ⟨β+1,0,none⟩)]) rfl (enters_of Tryz.func174 (by kernel_rfl) rfl) (encs:=fun _ (x:Pt×List UInt8)=>#[JaO x.1,.string ⟨x.2.toArray⟩]) (fun _ _=>rfl)
  (It:=fun A B=>Below A.heap.size A B/\β+5<=A.heap.size) (Kp:=fun A B=>A.heap.size<=B.heap.size/\∀x,(x=β+1\/x=β+1+1\/x<w.heap.size)->B.heap[x]?=A.heap[x]?) (Z:=fun _=>True) (S:=fun xs=>xs=pcs ps s) (Sp:=fun pre=>∃rest,pcs ps s=pre++rest)
  ?seq ?its (fun h k=>⟨Nat.le_trans h.1 k.1,fun x hx=>(k.2 x hx).trans (h.2 x hx)⟩) ?hkb
  (fun pre W=>∃r,apI w β (.slice p ps.length c) (.string ⟨s.toArray⟩) r (pre.flatMap JcN) W)
  (fun _ _ _=>False) (fun _ _ _=>trivial) (fun _ _ _ h=>h.elim) ?ii ?ib (fun _ _ _ _ h _=>h) (fun _ _ _ _ h=>h) ?h0 ?round ?done (fun _ _ _ _ h=>h.elim)
 case seq =>
  intro W hs1 hb1;rw[hs4]at hs1 hb1;have hb9:Below w.heap.size w W:=hb4.trans (hb1.mono (by omega));have:=JnC (.slice p ps.length c) ps s HSL.out HLP.out HF.out (fun x=>(x=β+1\/x=β+1+1\/x<w.heap.size)) (β+1) W (chp ((hb1.block (β+1) (by omega)).trans q1) 0) (chp ((hb1.block (β+2) (by omega)).trans q2) 0) (JaK HR.out hb9 (nlr _)) (.inl rfl) (.inr (.inl rfl)) (fun b o n c' e hne=>.inr (.inr (HROW.out b o n c' e hne))) (by rintro x (rfl|rfl|hx)<;>omega) (fun _=>True);rw[hs1]at this;exact this
 case its=>exact fun A B h=>Same2.of_below h.1 (by rw[hs4];omega)
 case hkb =>
  intro A r;rw[hs4];exact⟨by simp,fun x hx=>World.putObj_heap_other (by omega)⟩
 case ii=>exact fun pre A B h hb=>by obtain⟨r,h⟩:=h;exact⟨r,h.grow hb.1⟩
 case ib =>
  rintro pre A r ⟨r0,h⟩;rw[hs4];exact⟨r,h.put hlt1 (Put1.putObj _ _ _) (World.putObj_heap_same (by have:=h.size;omega))⟩
 case h0 =>
  rintro W hs hb ⟨r,hr⟩ hd;rw[hs4]at hs hb hr hd;exact⟨r,hb4.trans (hb.mono (by omega)),by omega,.inl ⟨nlr _,.slice none 0 0,(hb.block β (by omega)).trans q0,World.ownsRow_nil _ _ _ _,by simp[Value.ownBlock]⟩,(hb.block (β+1) (by omega)).trans q1,(hb.block (β+2) (by omega)).trans q2,hd,hr⟩
 case round =>
  rintro l pre ⟨q,T⟩ W ⟨r0,hI⟩ hlW ⟨rest,hSp⟩;rw[hs4]at hlW ⊢;have hml:=JnO HF.out hSp;have hpp:=HPU.out;have hss:=HSL.out;have HML:Hid ((pre.flatMap JcN).length+T.length+q.put.length<=1000000000000):=by
   show _<=_;have h1:=Jqu ps s HF.out;have h2:=congrArg List.sum (JnA ps s);have h3:=JnP pre;rw[hSp]at h1 h2;simp only[List.map_append,List.sum_append,List.map_cons,List.map_nil,List.sum_cons,List.sum_nil]at h1 h2;unfold Jal at hpp;omega
  have HI:=hdz hI;have HNX:Hid ((pre++[(q,T)]).flatMap JcN=pre.flatMap JcN++JcN (q,T)):=by show _=_;simp
  have HWB:Hid (¬β=W.heap.size):=by show ¬_;omega
  have cK:=Jch q;unfold JaO at cK ⊢;clear hI hSp q0 q1 q2 hb4 hml hpp hss
  gi_wp2
  refine⟨(Same2.refl _ W).alloc (by omega) _,⟨by simp,fun x hx=>heap_alloc_old _ _ (by omega)⟩,?_⟩;intro w2 hp ⟨r,hr⟩;have hI1:=HI.out.grow (B:=W.alloc (.cells #[.int .i64 q.keep,.int .i64 q.drop,.string ⟨q.put.toArray⟩] 50)) ((brf _ _).alloc (nlr _) _);have HI2:=hdz (hI1.put hlt1 hp hr);have hbx:w2.heap[W.heap.size]?=some (.cells #[.int .i64 q.keep,.int .i64 q.drop,.string ⟨q.put.toArray⟩] 50 (0,0)):=(hp.block W.heap.size (by omega)).trans (heap_alloc_new _ _);have HBX:=hdz hbx;have x0:=ce hbx 0 rfl;have x1:=ce hbx 1 rfl;have x2:=ce hbx 2 rfl;clear hp hr hbx hI1
  by_cases hk:0<q.keep
  . have hkd:decide (0<q.keep)=true:=decide_eq_true hk
    rw[hkd]at cK;have HMK:Hid (JcN (q,T)=T++q.put):=by show _=_;unfold JcN;rw[if_pos hk]
    clear hk hkd
    gi_wp2_with (first
     | (refine⟨trivial,rfl,?_⟩;gi_at_call 107;refine(CallsIn.inRound l (callsIn_wide.2 (cK _))).mono ?_;rintro e w3 ⟨rfl,hb3⟩;have hI3:=HI2.out.grow hb3;have hL3:(Lib.byteCells (pre.flatMap JcN)).length+(ByteArray.mk T.toArray).size<=1000000000000:=(by have:=HML.out;rw[Lib.byteCells_length];show _+T.toArray.size<=_;simp only[List.size_toArray];omega);have hB3:β<=w3.heap.size:=(by have:=hI3.size;omega);have hx3:=(hb3.block W.heap.size (blt w2 _ x0)).trans HBX.out)
     | (refine⟨trivial,rfl,?_⟩;gi_at_call 108;refine(CallsIn.inRound l (callsIn_wide.2 (JdX β β _ _ _ hI4.bld hL4 hB4))).mono ?_;rintro e w5 ⟨⟨v5,rfl⟩,hw5,hb5,hk5⟩;have hI5:=hI4.wrote hlt1 hw5 hb5 hk5)
     | (refine⟨trivial,rfl,?_⟩;gi_at_call 108;refine(CallsIn.inRound l (callsIn_wide.2 (JdX β β _ _ _ hI3.bld hL3 hB3))).mono ?_;rintro e w4 ⟨⟨v4,rfl⟩,hw4,hb4,hk4⟩;have hI4:=hI3.wrote hlt1 hw4 hb4 hk4;have hx4:=hk4 _ _ hx3 (fun e=>HWB.out (osi e).symm) (by intro c fz e;cases e);have hy4:=ce hx4 2 rfl;have hL4:(Lib.byteCells (pre.flatMap JcN++T)).length+(ByteArray.mk q.put.toArray).size<=1000000000000:=(by have:=HML.out;rw[Lib.byteCells_length,List.length_append];show _+q.put.toArray.size<=_;simp only[List.size_toArray];omega);have hB4:β<=w4.heap.size:=(by have:=hI4.size;omega)))
    have hK:=HI2.out.kept hI5 (Nat.le_trans hb3.size (Nat.le_trans hb4.size hb5.size));refine⟨hK.1,hK.2,r,?_⟩;rw[HNX.out,HMK.out,←List.append_assoc];exact hI5
  . have hkd:decide (0<q.keep)=false:=decide_eq_false hk
    rw[hkd]at cK;have HMK:Hid (JcN (q,T)=q.put):=by show _=_;unfold JcN;rw[if_neg hk,List.nil_append]
    clear hk hkd
    gi_wp2_with (first
     | (refine⟨trivial,rfl,?_⟩;gi_at_call 107;refine(CallsIn.inRound l (callsIn_wide.2 (cK _))).mono ?_;rintro e w3 ⟨rfl,hb3⟩;have hI3:=HI2.out.grow hb3;have hL3:(Lib.byteCells (pre.flatMap JcN)).length+(ByteArray.mk q.put.toArray).size<=1000000000000:=(by have:=HML.out;rw[Lib.byteCells_length];show _+q.put.toArray.size<=_;simp only[List.size_toArray];omega);have hB3:β<=w3.heap.size:=(by have:=hI3.size;omega);have y3:w3.cell? ⟨W.heap.size,2,none⟩=some (.string ⟨q.put.toArray⟩):=chp ((hb3.block W.heap.size (blt w2 _ x0)).trans HBX.out) 2)
     | (refine⟨trivial,rfl,?_⟩;gi_at_call 108;refine(CallsIn.inRound l (callsIn_wide.2 (JdX β β _ _ _ hI3.bld hL3 hB3))).mono ?_;rintro e w4 ⟨⟨v4,rfl⟩,hw4,hb4,hk4⟩;have hI4:=hI3.wrote hlt1 hw4 hb4 hk4)
     | (refine⟨trivial,?_⟩))
    have hK:=HI2.out.kept hI4 (Nat.le_trans hb3.size hb4.size);refine⟨hK.1,hK.2,r,?_⟩;rw[HNX.out,HMK.out];exact hI4
 case done =>
  rintro xs W rfl ⟨r,hI⟩ hDef;rw[hs4]at hDef ⊢;have HI:=hdz hI;have cS:=Jp4 β β (Jaa ps s) W HI.out.bld (by have:=HI.out.size;omega);rw[HS.out]at cS;clear hI q0 q1 q2 hb4
  gi_wp2_with (refine⟨trivial,?_⟩;gi_at_call 109;refine(callsIn_wide.2 cS).mono ?_;rintro e w6 ⟨rfl,hb6,hk6⟩)
  have hDef6:=hk6 _ _ hDef (fun e=>by have:=osi e;omega) (by intro c fz e;cases e);have hP:=Put1.putObj (β+3) w6 (.deferred none);refine⟨by simp,.inl ⟨_,_,rfl,run_takeDeferred hDef6,?_⟩⟩;exact⟨.tuple #[.string S,.nilIface],by simp[results,Tryz.results29,go_sem],rfl,(HI.out.below.trans (hb6.mono hlt1)).trans (hP.below (by omega))⟩
theorem Jmo(v:Value)(ps:List Pt)(s:List UInt8)(w:World)(hT:Lib.Utf8Tabs 2 3 w)(hr:opAt w v ps)(hwf:∀p∈ps,wfP p)(hs:s.length<1000000000)(hl:ps.length<10000000)(hpu:Jal ps<100000000000) :
    Calls Tryz.prog 29 #[v,.string ⟨s.toArray⟩] w fun e w'=>e=.returned (.tuple #[.string ⟨(if ordE ps s=0 then Jaa ps s else []).toArray⟩,errV (ordE ps s)])/\Below w.heap.size w w':=by
 by_cases he:ordE ps s=0
 . rw [if_pos he,he]
   have hc:chkE ps (s.length:Int)=0/\badO ps s=false:=by
    unfold ordE at he
    split at he
    . rename_i h
      refine⟨h,?_⟩
      cases hb:badO ps s with
      | false=>rfl
      | true=>rw[hb]at he;simp at he
    . rename_i h;exact absurd he h
   exact Jp6 v ps s w hT hr hwf hs hl hpu hc.1 hc.2
 . rw[if_neg he]
   exact JrC v ps s w hT hr hwf hs hl he
end
section
open Go.RowKit
attribute [local go_sem] Oper.semAt_some
variable {A B w : World}{a β : Nat}{r : Loop}{fv v1 v2 : Value}{st : NSt}
theorem add_bd{M:Nat}(a:Nat)(s:NSt)(p:Pt)(w:World)(h:gath M w a s){T:Int}{n:Nat}(hB:Bd s T n)(hp:Jbc p)(hT:T+wtP p<1000000000)(hn:n<10000000) :
    Calls Tryz.prog 265 #[JaO p,.pointer (some ⟨a+1,0,none⟩),.pointer (some ⟨a+2,0,none⟩),.pointer (some ⟨a+3,0,none⟩),.pointer (some ⟨a,0,none⟩)] w fun e w'=>(∃v,e=.returned v)/\gath M w' a (addP s p)/\BelowG M a w w':=by
 have h1:=hB.put;have h2:=hB.d0;have h3:=hB.dT;have h4:=hB.len;obtain⟨p1,p2⟩:=hp;unfold wtP at hT;exact Joj a s p w h (by omega) h2 (by omega) p2 p1 (by omega) (fun q hq=>by have:=hB.keep q hq;omega) (by omega)
theorem Jsy{n:Nat}{s:NSt}(h:gath (a+4) A a s)(hn:A.heap[n]?=some (.loop r))(ha:a+3<n)(hp:Put1 n A B):gath (a+4) B a s:=by
 have hM:=h.le;have hT:=h.top;obtain⟨⟨p,c,h1,h2⟩,h3,⟨p',c',h4,h5⟩,h6,h7,h8,h9⟩:=h;exact⟨⟨p,c,(hp.cell (by omega)).trans h1,Jm9 h2 hn hp⟩,(hp.frozen (by omega)).trans h3,⟨p',c',(hp.cell (by omega)).trans h4,Jm9 h5 hn hp⟩,(hp.frozen (by omega)).trans h6,(hp.cell (by omega)).trans h7,(hp.frozen (by omega)).trans h8,(hp.cell (by omega)).trans h9,hM,by rw[hp.size];exact hT⟩
structure ivI (w:World) (a β:Nat) (fv v1 v2:Value) (r:Loop) (st:NSt) (A:World):Prop where
 below:Below w.heap.size w A
 size:β+5<=A.heap.size
 g:gath (a+4) A a st
 h0:A.heap[β]?=some (.cells #[fv] 342 (0,0))
 h1:A.heap[β+1]?=some (.cells #[v1] 23 (0,0))
 h2:A.heap[β+2]?=some (.cells #[v2] 9 (0,0))
 h3:A.heap[β+3]?=some (.deferred (some []))
 h4:A.heap[β+4]?=some (.loop r)
theorem ivI.grow(h:ivI w a β fv v1 v2 r st A)(hb:Below A.heap.size A B):ivI w a β fv v1 v2 r st B:=by
 have hs:=h.size;exact⟨h.below.trans (hb.mono h.below.size),Nat.le_trans hs hb.size,Jbx h.g hb,(hb.block β (by omega)).trans h.h0,(hb.block (β+1) (by omega)).trans h.h1,(hb.block (β+2) (by omega)).trans h.h2,(hb.block (β+3) (by omega)).trans h.h3,(hb.block (β+4) (by omega)).trans h.h4⟩
theorem ivI.put{r':Loop}(h:ivI w a β fv v1 v2 r st A)(hw:w.heap.size<=β)(ha:a+4<=β)(hp:Put1 (β+4) A B)(hl:B.heap[β+4]?=some (.loop r')):ivI w a β fv v1 v2 r' st B :=
 ⟨h.below.trans (hp.below (by omega)),by rw[hp.size];exact h.size,Jsy h.g h.h4 (by omega) hp,(hp.block β (by omega)).trans h.h0,(hp.block (β+1) (by omega)).trans h.h1,(hp.block (β+2) (by omega)).trans h.h2,(hp.block (β+3) (by omega)).trans h.h3,hl⟩
theorem ivI.kept{st':NSt}(h:ivI w a β fv v1 v2 r st A)(h':ivI w a β fv v1 v2 r st' B)(hs:A.heap.size<=B.heap.size) :
    Same2 (β+3) A B/\A.heap.size<=B.heap.size/\∀(x:Nat),x=β+1\/x=β+1+1\/x<w.heap.size->B.heap[x]?=A.heap[x]?:=by
 refine⟨⟨h'.h3.trans h.h3.symm,h'.h4.trans h.h4.symm⟩,hs,?_⟩;rintro x (rfl|rfl|hx)
 . exact h'.h1.trans h.h1.symm
 . exact h'.h2.trans h.h2.symm
 . exact(h'.below.block x hx).trans (h.below.block x hx).symm
end
section
open Go.RowKit
attribute [local go_sem] Oper.semAt_some
variable {g B o c : Nat}{w w' : World}{v : Value}{ps : List Pt}{p : Pt}
structure ButO (g:Nat) (w w':World):Prop where
 os:w'.os=w.os
 tape:w'.tape=w.tape
 output:w'.output=w.output
 size:w.heap.size<=w'.heap.size
 block:∀k,k<w.heap.size->k≠g->w'.heap[k]?=w.heap[k]?
theorem ButO.of(h:Below w.heap.size w w'):ButO g w w':=⟨h.os,h.tape,h.output,h.size,fun k hk _=>h.block k hk⟩
theorem ButO.refl(g:Nat)(w:World):ButO g w w:=.of (.refl _ _)
theorem ButO.trans{g:Nat}{a b c:World}(h:ButO g a b)(k:ButO g b c):ButO g a c :=
 ⟨k.os.trans h.os,k.tape.trans h.tape,k.output.trans h.output,Nat.le_trans h.size k.size,fun i hi hg=>(k.block i (Nat.lt_of_lt_of_le hi h.size) hg).trans (h.block i hi hg)⟩
theorem ButO.below(h:ButO g w w')(hg:B<=g)(hB:B<=w.heap.size):Below B w w':=⟨h.os,h.tape,h.output,h.size,fun k hk=>h.block k (by omega) (by omega)⟩
theorem ButO.set{a:World}(h:ButO g a w)(o:Nat)(u:Value):ButO g a (w.setCell ⟨g,o,none⟩ u) :=
 h.trans ⟨rfl,rfl,rfl,by simp[World.setCell],fun k _ hk=>Below.heap_setCell _ _ _ _ (by show k≠g;exact hk)⟩
theorem ButO.drew{g:Nat}{a w:World}(h:ButO g a w):ButO g a w.drew:=h.trans ⟨rfl,rfl,rfl,nlr _,fun _ _ _=>rfl⟩
def winP (w:World) (g:Nat) (v:Value) (ps:List Pt):Prop :=
 ∃ p c,v=.slice p ps.length c/\ps.length<=c/\c<=maxLen/\(ps≠[]->∃o,p=some ⟨g,o,none⟩/\g<w.heap.size/\(∀j,w.frozen? ⟨g,j,none⟩=false)/\∀i q,ps[i]?=some q ->
  w.cell? ⟨g,o+i*3,none⟩=some (.int .i64 q.keep)/\w.cell? ⟨g,o+i*3+1,none⟩=some (.int .i64 q.drop)/\w.cell? ⟨g,o+i*3+2,none⟩=some (.string ⟨q.put.toArray⟩))
theorem Jcj(h:winP w g v ps)(hs:w.heap.size<=w'.heap.size)(hb:g<w.heap.size->w'.heap[g]?=w.heap[g]?):winP w' g v ps:=by
 obtain⟨p,c,rfl,h1,h2,h3⟩:=h;refine⟨p,c,rfl,h1,h2,fun hne=>?_⟩;obtain⟨o,e1,e2,e4,e3⟩:=h3 hne;have hg:=hb e2;refine⟨o,e1,by omega,fun j=>(World.frozen?_of_block (w:=w) (a:=⟨g,j,none⟩) hg).trans (e4 j),fun i q hi=>?_⟩;obtain⟨f1,f2,f3⟩:=e3 i q hi;exact⟨(World.cell?_of_block (w:=w) (a:=⟨g,o+i*3,none⟩) hg).trans f1,(World.cell?_of_block (w:=w) (a:=⟨g,o+i*3+1,none⟩) hg).trans f2,(World.cell?_of_block (w:=w) (a:=⟨g,o+i*3+2,none⟩) hg).trans f3⟩
theorem Jg5(h:winP w g v ps)(hb:Below w.heap.size w w'):winP w' g v ps:=Jcj h hb.size fun hg=>hb.block g hg
theorem Jnv{k:Nat}(h:winP w g v ps)(hb:ButO k w w')(hne:g≠k):winP w' g v ps:=Jcj h hb.size fun hg=>hb.block g hg hne
theorem Jnu(h:w.ownsRow B 50 3 v ps.length (JaD ps)):∃g,(g=B\/(B<=g/\g<w.heap.size))/\winP w g v ps:=by
 have h':=h
 rcases h.2 with ⟨rfl,h2⟩|⟨g,cap,cur,rfl,h2,h3,h4,h5,h6,h7⟩
 . obtain rfl:ps=[]:=List.eq_nil_of_length_eq_zero h2
   exact⟨B,.inl rfl,none,0,rfl,nlr _,Nat.zero_le _,fun h=>absurd rfl h⟩
 . have hlt:=(alt h3)
   refine⟨g,.inr ⟨h2,hlt⟩,_,cap,rfl,h4,h5,fun _=>⟨0,rfl,hlt,fun j=>h'.frozenAt j,fun i q hi=>?_⟩⟩;have hlt:=(llt hi);have hc:=Jfz ps i q hi;refine⟨?_,?_,?_⟩
   . rw[Nat.zero_add,h'.cellAt _ (by omega)];exact hc 0 (by omega)
   . rw[Nat.zero_add,h'.cellAt _ (by omega)];exact hc 1 (by omega)
   . rw[Nat.zero_add,h'.cellAt _ (by omega)];exact hc 2 (by omega)
theorem Jck(h:winP w g v (p :: ps)):∃o c,v=.slice (some ⟨g,o,none⟩) (ps.length+1) c/\ps.length+1<=c/\c<=maxLen/\g<w.heap.size/\(∀j,w.frozen? ⟨g,j,none⟩=false) /\
    w.cell? ⟨g,o,none⟩=some (.int .i64 p.keep)/\w.cell? ⟨g,o+1,none⟩=some (.int .i64 p.drop)/\w.cell? ⟨g,o+2,none⟩=some (.string ⟨p.put.toArray⟩):=by
 obtain⟨q,c,rfl,h1,h2,h3⟩:=h;obtain⟨o,rfl,e2,e4,e3⟩:=h3 (by simp);obtain⟨f1,f2,f3⟩:=e3 0 p rfl;simp only[Nat.zero_mul,Nat.add_zero]at f1 f2 f3;exact⟨o,c,rfl,h1,h2,e2,e4,f1,f2,f3⟩
theorem Jp9(h:winP w g (.slice (some ⟨g,o,none⟩) (ps.length+1) c) (p :: ps))(hs:w.heap.size<=w'.heap.size)(hf:∀j,w'.frozen? ⟨g,j,none⟩=w.frozen? ⟨g,j,none⟩)(hc:∀j,o+3<=j->w'.cell? ⟨g,j,none⟩=w.cell? ⟨g,j,none⟩) :
    winP w' g (.slice (some ⟨g,o+3,none⟩) ps.length (c - 1)) ps:=by
 obtain⟨q,c',e,h1,h2,h3⟩:=h;obtain⟨o',rfl,e2,e4,e3⟩:=h3 (by simp);simp only[Value.slice.injEq,Option.some.injEq,Addr.mk.injEq,true_and,and_true]at e;obtain⟨e5,_,e6⟩:=e;subst e5 e6;simp only[List.length_cons]at h1;refine⟨_,c - 1,rfl,by omega,by omega,fun hne=>⟨o+3,rfl,by omega,fun j=>(hf j).trans (e4 j),fun i q hi=>?_⟩⟩;obtain⟨f1,f2,f3⟩:=e3 (i+1) q (by simpa using hi);rw[show o+(i+1)*3=o+3+i*3 by omega]at f1 f2 f3;exact⟨(hc _ (by omega)).trans f1,(hc _ (by omega)).trans f2,(hc _ (by omega)).trans f3⟩
theorem Jg4{p':Pt}(h:winP w g (.slice (some ⟨g,o,none⟩) (ps.length+1) c) (p :: ps))(hs:w.heap.size<=w'.heap.size)(hf:∀j,w'.frozen? ⟨g,j,none⟩=w.frozen? ⟨g,j,none⟩)(hc:∀j,o+3<=j->w'.cell? ⟨g,j,none⟩=w.cell? ⟨g,j,none⟩)
    (c0:w'.cell? ⟨g,o,none⟩=some (.int .i64 p'.keep)) (c1:w'.cell? ⟨g,o+1,none⟩=some (.int .i64 p'.drop)) (c2:w'.cell? ⟨g,o+2,none⟩=some (.string ⟨p'.put.toArray⟩)) :
    winP w' g (.slice (some ⟨g,o,none⟩) (ps.length+1) c) (p' :: ps):=by
 obtain⟨q,c',e,h1,h2,h3⟩:=h;obtain⟨o',rfl,e2,e4,e3⟩:=h3 (by simp);simp only[Value.slice.injEq,Option.some.injEq,Addr.mk.injEq,true_and,and_true]at e;obtain⟨e5,_,e6⟩:=e;subst e5 e6;refine⟨_,c,rfl,h1,h2,fun _=>⟨o,rfl,by omega,fun j=>(hf j).trans (e4 j),fun i q hi=>?_⟩⟩
 cases i with
 | zero =>
  obtain rfl:p'=q:=by simpa using hi
  simp only[Nat.zero_mul,Nat.add_zero];exact⟨c0,c1,c2⟩
 | succ i =>
  obtain⟨f1,f2,f3⟩:=e3 (i+1) q (by simpa using hi);exact⟨(hc _ (by omega)).trans f1,(hc _ (by omega)).trans f2,(hc _ (by omega)).trans f3⟩
theorem frozen_of_heap{w:World}{b:Nat}{xs:Array Value}{t:TypeId}(h:w.heap[b]?=some (.cells xs t (0,0)))(j:Nat):w.frozen? ⟨b,j,none⟩=false:=by
 simp[World.frozen?,h]
theorem Jbt{w w1:World}{R P:Array Value}{T S:TypeId}(hb:Below ((w.alloc (.cells R T)).alloc (.cells P S)).heap.size ((w.alloc (.cells R T)).alloc (.cells P S)) w1) :
    w1.heap[w.heap.size]?=some (.cells R T (0,0))/\w1.heap[w.heap.size+1]?=some (.cells P S (0,0))/\Below w.heap.size w w1:=by
 refine⟨(hb.block _ (by simp only[World.size_alloc];omega)).trans ((heap_alloc_old _ _ (by rw[wsa];omega)).trans (heap_alloc_new _ _)),(hb.block _ (by simp only[World.size_alloc];omega)).trans (by have:=heap_alloc_new (w.alloc (.cells R T)) (.cells P S);rwa[World.size_alloc]at this),?_⟩;exact(((brf _ w).alloc (nlr _) _).alloc (by rw[wsa];omega) _).trans (hb.mono (by simp only[World.size_alloc];omega))
theorem Jh1(h:winP w g (.slice (some ⟨g,o,none⟩) (ps.length+1) c) (p :: ps))(hb:Below w.heap.size w w') :
    winP w' g (.slice (some ⟨g,o+3,none⟩) ps.length (c - 1)) ps/\(c=1->winP w' g (.slice (some ⟨g,o,none⟩) ps.length 0) ps):=by
 have hg:g<w.heap.size:=by obtain⟨_,_,_,_,_,hg,_⟩:=Jck h;exact hg
 refine⟨Jp9 h hb.size (fun j=>hb.frozen (p:=⟨g,j,none⟩) hg) fun j _=>hb.cell (p:=⟨g,j,none⟩) hg,fun hc=>?_⟩;obtain⟨_,_,e,h1,_⟩:=h;simp only[Value.slice.injEq,List.length_cons]at e h1;obtain rfl:ps=[]:=List.eq_nil_of_length_eq_zero (by omega);exact⟨_,0,rfl,nlr _,Nat.zero_le _,fun h=>absurd rfl h⟩
theorem cut_all(g:Nat)(v:Value)(p:Pt)(ps:List Pt)(n:Nat)(w:World)(h:winP w g v (p :: ps))(hp:0<=p.keep/\0<=p.drop)(hn:Jad p=n)(hb:n<1000000000) :
    Calls Tryz.prog 268 #[v,.int .i64 n] w fun e w'=>∃v',e=.returned (.tuple #[JaO p,v'])/\winP w' g v' ps/\ButO g w w':=by
 have H:=hdz h;obtain⟨o,c,rfl,h1,h2,h3,h4,c0,c1,c2⟩:=Jck h;have cL:Hid (∀wx,Calls Tryz.prog 267 #[JaO p] wx fun e w'=>e=.returned (.int .i64 n)/\Below wx.heap.size wx w'):=fun wx=>by
  have:=Jd6 p wx hp (by unfold Jad at hn;omega);rw[show p.keep+p.drop+(p.put.length:Int)=n from hn]at this;exact this
 obtain⟨K,D,U⟩:=p;simp only at c0 c1 c2;have c0':w.cell? ⟨g,o+0,none⟩=some (.int .i64 K):=c0;have h4':=h4 o;have hi1:(1:Int)<=(ps.length:Int)+1:=by omega
 unfold JaO at cL;clear h hn hp h4
 go_enter Tryz.func268,Tryz.ntmps268
 go_wp2_with (go_at_call 267;refine(cL.out _).mono ?_;rintro e w1 ⟨rfl,hb1⟩;obtain⟨b1,b2,b3⟩:=Jbt hb1;have HB:=hdz b3;have r0:=ce b1 0 rfl;have r1:=ce b1 1 rfl;have r2:=ce b1 2 rfl;have p0:=ce b2 0 rfl;have p1:=ce b2 1 rfl;have p2:=ce b2 2 rfl;have rF:=fz b1 0;have rF1:=fz b1 1;have rF2:=fz b1 2;clear b1 b2 b3 hb1)
 have s0:(w1.setCell ⟨w.heap.size,0,none⟩ (.int .i64 K)).cell? ⟨w.heap.size,0,none⟩=some (.int .i64 K):=World.cell?_setCell_same _ _ _ r0;have s1:((w1.setCell ⟨w.heap.size,0,none⟩ (.int .i64 K)).setCell ⟨w.heap.size,1,none⟩ (.int .i64 D)).cell? ⟨w.heap.size,1,none⟩=some (.int .i64 D):=by
  have:(w1.setCell ⟨w.heap.size,0,none⟩ (.int .i64 K)).cell? ⟨w.heap.size,1,none⟩=some (.int .i64 0):=by simp[go_sem,r1]
  exact World.cell?_setCell_same _ _ _ this
 have s2:(((w1.setCell ⟨w.heap.size,0,none⟩ (.int .i64 K)).setCell ⟨w.heap.size,1,none⟩ (.int .i64 D)).setCell ⟨w.heap.size,2,none⟩ (.string ⟨U.toArray⟩)).cell? ⟨w.heap.size,2,none⟩=some (.string ⟨U.toArray⟩):=by
  have:((w1.setCell ⟨w.heap.size,0,none⟩ (.int .i64 K)).setCell ⟨w.heap.size,1,none⟩ (.int .i64 D)).cell? ⟨w.heap.size,2,none⟩=some (.string ⟨#[]⟩):=by simp[go_sem,r2]
  exact World.cell?_setCell_same _ _ _ this
 go_region
 all_goals go_wp2
 . have hc1:c=1:=by assumption
   subst hc1;refine bodyPost_ret (v:=.tuple #[.agg #[.int .i64 K,.int .i64 D,.string ⟨U.toArray⟩],.slice (some ⟨g,o,none⟩) ps.length 0]) (by simp[results,Tryz.results268,go_sem,s0,s1,s2]) rfl ?_;have hbw:=((((HB.out.setCell (p:=⟨w.heap.size,0,none⟩) (nlr _) (.int .i64 K)).setCell (p:=⟨w.heap.size,1,none⟩) (nlr _) (.int .i64 D)).setCell (p:=⟨w.heap.size,2,none⟩) (nlr _) (.string ⟨U.toArray⟩)).drew);exact⟨_,rfl,(Jh1 H.out hbw).2 rfl,.of hbw⟩
 . refine bodyPost_ret (v:=.tuple #[.agg #[.int .i64 K,.int .i64 D,.string ⟨U.toArray⟩],.slice (some ⟨g,o+3,none⟩) ps.length (c - 1)]) (by simp[results,Tryz.results268,go_sem,s0,s1,s2]) rfl ?_
   have hbw:=((((HB.out.setCell (p:=⟨w.heap.size,0,none⟩) (nlr _) (.int .i64 K)).setCell (p:=⟨w.heap.size,1,none⟩) (nlr _) (.int .i64 D)).setCell (p:=⟨w.heap.size,2,none⟩) (nlr _) (.string ⟨U.toArray⟩)).drew);exact⟨_,rfl,(Jh1 H.out hbw).1,.of hbw⟩
end
section
open Go.RowKit
attribute [local go_sem] Oper.semAt_some
variable {w : World}{b : Nat}
theorem Jbn{o o':Nat}{x:Value}(h:o≠o'):(w.setCell ⟨b,o,none⟩ x).cell? ⟨b,o',none⟩=w.cell? ⟨b,o',none⟩:=World.cell?_setCell_other _ _ _ _ (by intro e;simp only[Addr.mk.injEq]at e;omega)
theorem Jeq{y0 y1 y2:Value}(r0:w.cell? ⟨b,0,none⟩=some y0)(r1:w.cell? ⟨b,1,none⟩=some y1)(r2:w.cell? ⟨b,2,none⟩=some y2)(x0 x1 x2:Value) :
    (w.setCell ⟨b,0,none⟩ x0).cell? ⟨b,0,none⟩=some x0/\((w.setCell ⟨b,0,none⟩ x0).setCell ⟨b,1,none⟩ x1).cell? ⟨b,1,none⟩=some x1/\(((w.setCell ⟨b,0,none⟩ x0).setCell ⟨b,1,none⟩ x1).setCell ⟨b,2,none⟩ x2).cell? ⟨b,2,none⟩=some x2 /\
    (((w.setCell ⟨b,0,none⟩ x0).setCell ⟨b,1,none⟩ x1).setCell ⟨b,2,none⟩ x2).heap.size=w.heap.size/\∀k,k≠b->(((w.setCell ⟨b,0,none⟩ x0).setCell ⟨b,1,none⟩ x1).setCell ⟨b,2,none⟩ x2).heap[k]?=w.heap[k]?:=by
 have h1:(w.setCell ⟨b,0,none⟩ x0).cell? ⟨b,1,none⟩=some y1:=by rw[Jbn (by omega)];exact r1
 have h2:((w.setCell ⟨b,0,none⟩ x0).setCell ⟨b,1,none⟩ x1).cell? ⟨b,2,none⟩=some y2:=by rw[Jbn (by omega),Jbn (by omega)];exact r2
 refine⟨World.cell?_setCell_same _ _ _ r0,World.cell?_setCell_same _ _ _ h1,World.cell?_setCell_same _ _ _ h2,by simp,fun k hk=>?_⟩;rw[Below.heap_setCell _ _ _ _ (by show k≠b;exact hk),Below.heap_setCell _ _ _ _ (by show k≠b;exact hk),Below.heap_setCell _ _ _ _ (by show k≠b;exact hk)]
theorem ButO.trans'{g:Nat}{A Z:World}(h:ButO g w A)(hs:Z.heap.size=A.heap.size)(hk:∀k,k<w.heap.size->Z.heap[k]?=A.heap[k]?)(ho:Z.os=A.os/\Z.tape=A.tape/\Z.output=A.output):ButO g w Z :=
 ⟨ho.1.trans h.os,ho.2.1.trans h.tape,ho.2.2.trans h.output,by rw[hs];exact h.size,fun k hk1 hk2=>(hk k hk1).trans (h.block k hk1 hk2)⟩
theorem JsE(g:Nat)(v:Value)(K:Int)(ps:List Pt)(n:Nat)(w:World)(h:winP w g v (⟨K,0,[]⟩ :: ps))(h0:0<n)(hn:(n:Int)<K)(hb:K<1000000000) :
    Calls Tryz.prog 268 #[v,.int .i64 n] w fun e w'=>∃v',e=.returned (.tuple #[JaO ⟨n,0,[]⟩,v'])/\winP w' g v' (⟨K - n,0,[]⟩ :: ps)/\ButO g w w':=by
 have H:=hdz h;obtain⟨o,c,rfl,h1,h2,h3,h4,c0,c1,c2⟩:=Jck h;have cL:Hid (∀wx,Calls Tryz.prog 267 #[JaO ⟨K,0,[]⟩] wx fun e w'=>e=.returned (.int .i64 K)/\Below wx.heap.size wx w'):=fun wx=>by
  have:=Jd6 ⟨K,0,[]⟩ wx ⟨by simp<;>omega,by simp<;>omega⟩ (by simp<;>omega);simpa using this
 have cK:=Jch ⟨K,0,[]⟩;have cD:=Jd7 ⟨K,0,[]⟩;have hkd:decide (0<(⟨K,0,[]⟩:Pt).keep)=true:=decide_eq_true (show 0<K by omega);rw[hkd]at cK;have hne:¬K=(n:Int):=by omega
 have hw1: -9223372036854775808<=K - (n:Int):=by omega
 have hw2:K - (n:Int)<9223372036854775808:=by omega
 simp only at c0 c1 c2;have H4:=hdz h4;have hgw:¬g=w.heap.size:=by omega
 have hwg:¬w.heap.size=g:=by omega
 have C0:=hdz c0;have C1:=hdz c1;have C2:=hdz c2;have c0':w.cell? ⟨g,o+0,none⟩=some (.int .i64 K):=c0;have H3:=hdz h3;unfold JaO at cL cK cD;clear h hb h4
 go_enter Tryz.func268,Tryz.ntmps268
 go_wp2_with (first
  | (go_at_call 267;refine(cL.out _).mono ?_;rintro e w1 ⟨rfl,hb1⟩;obtain⟨b1,b2,b3⟩:=Jbt hb1;have HR1:=hdz b1;have HP1:=hdz b2;have HB1:=hdz b3;have p0:=ce b2 0 rfl;have p1:=ce b2 1 rfl;have p2:=ce b2 2 rfl;clear b1 b2 b3 hb1)
  | (go_at_call 107;refine(cK _).mono ?_;rintro e w2 ⟨rfl,hb2⟩;have HR2:Hid (w2.heap[w.heap.size]?=some (.cells #[.int .i64 0,.int .i64 0,.string ⟨#[]⟩] 50 (0,0))):=(hb2.block _ (Jav HR1.out)).trans HR1.out;have HP2:Hid (w2.heap[w.heap.size+1]?=some (.cells #[.int .i64 K,.int .i64 0,.string ⟨[].toArray⟩] 50 (0,0))):=(hb2.block _ (Jav HP1.out)).trans HP1.out;have HB2:=hdz (HB1.out.trans (hb2.mono HB1.out.size));have r0:=ce HR2.out 0 rfl;have r1:=ce HR2.out 1 rfl;have r2:=ce HR2.out 2 rfl;have rF:=fz HR2.out 0;have rF1:=fz HR2.out 1;have rF2:=fz HR2.out 2;have g0:w2.cell? ⟨g,o,none⟩=some (.int .i64 K):=(HB2.out.cell H3.out).trans C0.out;have g1:w2.cell? ⟨g,o+1,none⟩=some (.int .i64 0):=(HB2.out.cell H3.out).trans C1.out;have g2:w2.cell? ⟨g,o+2,none⟩=some (.string ⟨[].toArray⟩):=(HB2.out.cell H3.out).trans C2.out;have gF:w2.frozen? ⟨g,o,none⟩=false:=(HB2.out.frozen H3.out).trans (H4.out o);have gF1:w2.frozen? ⟨g,o+1,none⟩=false:=(HB2.out.frozen H3.out).trans (H4.out _);have gF2:w2.frozen? ⟨g,o+2,none⟩=false:=(HB2.out.frozen H3.out).trans (H4.out _);clear hb2))
 obtain⟨A,hA⟩:∃A,w2.setCell ⟨g,o+0,none⟩ (.int .i64 (K - n))=A:=⟨_,rfl⟩;have hA':w2.setCell ⟨g,o,none⟩ (.int .i64 (K - n))=A:=hA;rw[hA'];have hkeep:A.heap[w.heap.size]?=w2.heap[w.heap.size]?:=by rw[←hA];exact Below.heap_setCell _ _ _ _ (by show w.heap.size≠g;omega)
 have e0:A.cell? ⟨w.heap.size,0,none⟩=some (.int .i64 0):=(World.cell?_of_block (w:=w2) (a:=⟨w.heap.size,0,none⟩) hkeep).trans r0;have e1:A.cell? ⟨w.heap.size,1,none⟩=some (.int .i64 0):=(World.cell?_of_block (w:=w2) (a:=⟨w.heap.size,1,none⟩) hkeep).trans r1;have e2:A.cell? ⟨w.heap.size,2,none⟩=some (.string ⟨#[]⟩):=(World.cell?_of_block (w:=w2) (a:=⟨w.heap.size,2,none⟩) hkeep).trans r2;obtain⟨s0,s1,s2,hs,hk⟩:=Jeq e0 e1 e2 (.int .i64 n) (.int .i64 0) (.string ⟨#[]⟩);refine bodyPost_ret (v:=.tuple #[.agg #[(.int .i64 n),(.int .i64 0),(.string ⟨#[]⟩)],.slice (some ⟨g,o,none⟩) (ps.length+1) c]) (by simp[results,Tryz.results268,go_sem,s0,s1,s2]) rfl ?_
 have hfirst:winP A g (.slice (some ⟨g,o,none⟩) (ps.length+1) c) (⟨K - n,0,[]⟩ :: ps):=by
  rw[←hA]
  exact Jg4 H.out (by rw[World.size_setCell];exact HB2.out.size) (fun j=>by rw[World.frozen?_setCell];exact HB2.out.frozen H3.out) (fun j hj=>by rw[Jbn (by omega)];exact HB2.out.cell H3.out)
   (World.cell?_setCell_same _ _ _ g0) (by rw[Jbn (by omega)];exact g1) (by rw[Jbn (by omega)];exact g2)
 have hbut:ButO g w A:=by rw[←hA];exact(ButO.of HB2.out).set _ _
 generalize hZ:((A.setCell ⟨w.heap.size,0,none⟩ (.int .i64 n)).setCell ⟨w.heap.size,1,none⟩ (.int .i64 0)).setCell ⟨w.heap.size,2,none⟩ (.string ⟨#[]⟩)=Z at *;exact⟨_,rfl,Jcj hfirst (Nat.le_of_eq hs.symm) fun _=>hk g (by omega),hbut.trans' hs (fun k hk'=>hk k (by omega)) (by rw[←hZ];exact⟨rfl,rfl,rfl⟩)⟩
theorem JsF(g:Nat)(v:Value)(K:Int)(ps:List Pt)(n:Nat)(w:World)(h:winP w g v (⟨0,K,[]⟩ :: ps))(h0:0<n)(hn:(n:Int)<K)(hb:K<1000000000) :
    Calls Tryz.prog 268 #[v,.int .i64 n] w fun e w'=>∃v',e=.returned (.tuple #[JaO ⟨0,n,[]⟩,v'])/\winP w' g v' (⟨0,K - n,[]⟩ :: ps)/\ButO g w w':=by
 have H:=hdz h;obtain⟨o,c,rfl,h1,h2,h3,h4,c0,c1,c2⟩:=Jck h;have cL:Hid (∀wx,Calls Tryz.prog 267 #[JaO ⟨0,K,[]⟩] wx fun e w'=>e=.returned (.int .i64 K)/\Below wx.heap.size wx w'):=fun wx=>by
  have:=Jd6 ⟨0,K,[]⟩ wx ⟨by simp<;>omega,by simp<;>omega⟩ (by simp<;>omega);simpa using this
 have cK:=Jch ⟨0,K,[]⟩;have cD:=Jd7 ⟨0,K,[]⟩;have hkd:decide (0<(⟨0,K,[]⟩:Pt).keep)=false:=rfl;have hdd:decide (0<(⟨0,K,[]⟩:Pt).drop)=true:=decide_eq_true (show 0<K by omega);rw[hkd]at cK;rw[hdd]at cD;have hne:¬K=(n:Int):=by omega
 have hw1: -9223372036854775808<=K - (n:Int):=by omega
 have hw2:K - (n:Int)<9223372036854775808:=by omega
 simp only at c0 c1 c2;have H4:=hdz h4;have hgw:¬g=w.heap.size:=by omega
 have hwg:¬w.heap.size=g:=by omega
 have C0:=hdz c0;have C1:=hdz c1;have C2:=hdz c2;have c0':w.cell? ⟨g,o+0,none⟩=some (.int .i64 0):=c0;have H3:=hdz h3;unfold JaO at cL cK cD;clear h hb h4
 go_enter Tryz.func268,Tryz.ntmps268
 go_wp2_with (first
  | (go_at_call 267;refine(cL.out _).mono ?_;rintro e w1 ⟨rfl,hb1⟩;obtain⟨b1,b2,b3⟩:=Jbt hb1;have HR1:=hdz b1;have HP1:=hdz b2;have HB1:=hdz b3;have p0:=ce b2 0 rfl;have p1:=ce b2 1 rfl;have p2:=ce b2 2 rfl;clear b1 b2 b3 hb1)
  | (go_at_call 107;refine(cK _).mono ?_;rintro e w2 ⟨rfl,hb2⟩;have HR2:Hid (w2.heap[w.heap.size]?=some (.cells #[.int .i64 0,.int .i64 0,.string ⟨#[]⟩] 50 (0,0))):=(hb2.block _ (Jav HR1.out)).trans HR1.out;have HP2:Hid (w2.heap[w.heap.size+1]?=some (.cells #[.int .i64 0,.int .i64 K,.string ⟨[].toArray⟩] 50 (0,0))):=(hb2.block _ (Jav HP1.out)).trans HP1.out;have HB2:=hdz (HB1.out.trans (hb2.mono HB1.out.size));have p0:=ce HP2.out 0 rfl;have p1:=ce HP2.out 1 rfl;have p2:=ce HP2.out 2 rfl;clear hb2)
  | (go_at_call 211;refine(cD _).mono ?_;rintro e w3 ⟨rfl,hb3⟩;have HR3:Hid (w3.heap[w.heap.size]?=some (.cells #[.int .i64 0,.int .i64 0,.string ⟨#[]⟩] 50 (0,0))):=(hb3.block _ (Jav HR2.out)).trans HR2.out;have HP3:Hid (w3.heap[w.heap.size+1]?=some (.cells #[.int .i64 0,.int .i64 K,.string ⟨[].toArray⟩] 50 (0,0))):=(hb3.block _ (Jav HP2.out)).trans HP2.out;have HB3:=hdz (HB2.out.trans (hb3.mono HB2.out.size));have r0:=ce HR3.out 0 rfl;have r1:=ce HR3.out 1 rfl;have r2:=ce HR3.out 2 rfl;have rF:=fz HR3.out 0;have rF1:=fz HR3.out 1;have rF2:=fz HR3.out 2;have g0:w3.cell? ⟨g,o,none⟩=some (.int .i64 0):=(HB3.out.cell H3.out).trans C0.out;have g1:w3.cell? ⟨g,o+1,none⟩=some (.int .i64 K):=(HB3.out.cell H3.out).trans C1.out;have g2:w3.cell? ⟨g,o+2,none⟩=some (.string ⟨[].toArray⟩):=(HB3.out.cell H3.out).trans C2.out;have gF:w3.frozen? ⟨g,o,none⟩=false:=(HB3.out.frozen H3.out).trans (H4.out o);have gF1:w3.frozen? ⟨g,o+1,none⟩=false:=(HB3.out.frozen H3.out).trans (H4.out _);have gF2:w3.frozen? ⟨g,o+2,none⟩=false:=(HB3.out.frozen H3.out).trans (H4.out _);clear hb3))
 obtain⟨A,hA⟩:∃A,w3.setCell ⟨g,o+1,none⟩ (.int .i64 (K - n))=A:=⟨_,rfl⟩;have hA':=hA;rw[hA'];have hkeep:A.heap[w.heap.size]?=w3.heap[w.heap.size]?:=by rw[←hA];exact Below.heap_setCell _ _ _ _ (by show w.heap.size≠g;omega)
 have e0:A.cell? ⟨w.heap.size,0,none⟩=some (.int .i64 0):=(World.cell?_of_block (w:=w3) (a:=⟨w.heap.size,0,none⟩) hkeep).trans r0;have e1:A.cell? ⟨w.heap.size,1,none⟩=some (.int .i64 0):=(World.cell?_of_block (w:=w3) (a:=⟨w.heap.size,1,none⟩) hkeep).trans r1;have e2:A.cell? ⟨w.heap.size,2,none⟩=some (.string ⟨#[]⟩):=(World.cell?_of_block (w:=w3) (a:=⟨w.heap.size,2,none⟩) hkeep).trans r2;obtain⟨s0,s1,s2,hs,hk⟩:=Jeq e0 e1 e2 (.int .i64 0) (.int .i64 n) (.string ⟨#[]⟩);refine bodyPost_ret (v:=.tuple #[.agg #[(.int .i64 0),(.int .i64 n),(.string ⟨#[]⟩)],.slice (some ⟨g,o,none⟩) (ps.length+1) c]) (by simp[results,Tryz.results268,go_sem,s0,s1,s2]) rfl ?_
 have hfirst:winP A g (.slice (some ⟨g,o,none⟩) (ps.length+1) c) (⟨0,K - n,[]⟩ :: ps):=by
  rw[←hA]
  exact Jg4 H.out (by rw[World.size_setCell];exact HB3.out.size) (fun j=>by rw[World.frozen?_setCell];exact HB3.out.frozen H3.out) (fun j hj=>by rw[Jbn (by omega)];exact HB3.out.cell H3.out)
   (by rw[Jbn (by omega)];exact g0) (World.cell?_setCell_same _ _ _ g1) (by rw[Jbn (by omega)];exact g2)
 have hbut:ButO g w A:=by rw[←hA];exact(ButO.of HB3.out).set _ _
 generalize hZ:((A.setCell ⟨w.heap.size,0,none⟩ (.int .i64 0)).setCell ⟨w.heap.size,1,none⟩ (.int .i64 n)).setCell ⟨w.heap.size,2,none⟩ (.string ⟨#[]⟩)=Z at *;exact⟨_,rfl,Jcj hfirst (Nat.le_of_eq hs.symm) fun _=>hk g (by omega),hbut.trans' hs (fun k hk'=>hk k (by omega)) (by rw[←hZ];exact⟨rfl,rfl,rfl⟩)⟩
theorem cut_put(g:Nat)(v:Value)(U:List UInt8)(ps:List Pt)(n:Nat)(w:World)(h:winP w g v (⟨0,0,U⟩ :: ps))(h0:0<n)(hn:n<U.length)(hb:U.length<1000000000) :
    Calls Tryz.prog 268 #[v,.int .i64 n] w fun e w'=>∃v',e=.returned (.tuple #[JaO ⟨0,0,U.take n⟩,v'])/\winP w' g v' (⟨0,0,U.drop n⟩ :: ps)/\ButO g w w':=by
 have H:=hdz h;obtain⟨o,c,rfl,h1,h2,h3,h4,c0,c1,c2⟩:=Jck h;have cL:Hid (∀wx,Calls Tryz.prog 267 #[JaO ⟨0,0,U⟩] wx fun e w'=>e=.returned (.int .i64 (U.length:Int))/\Below wx.heap.size wx w'):=fun wx=>by
  have:=Jd6 ⟨0,0,U⟩ wx ⟨by simp<;>omega,by simp<;>omega⟩ (by simp<;>omega);simpa using this
 have cK:=Jch ⟨0,0,U⟩;have cD:=Jd7 ⟨0,0,U⟩;have hkd:decide (0<(⟨0,0,U⟩:Pt).keep)=false:=rfl;have hdd:decide (0<(⟨0,0,U⟩:Pt).drop)=false:=rfl;rw[hkd]at cK;rw[hdd]at cD;have hne:¬(U.length:Int)=(n:Int):=by omega
 have hz:(ByteArray.mk U.toArray).size=U.length:=by simp[ByteArray.size]
 have hle:n<=U.length:=by omega
 simp only at c0 c1 c2;have H4:=hdz h4;have hgw:¬g=w.heap.size:=by omega
 have hwg:¬w.heap.size=g:=by omega
 have C0:=hdz c0;have C1:=hdz c1;have C2:=hdz c2;have c0':w.cell? ⟨g,o+0,none⟩=some (.int .i64 0):=c0;have H3:=hdz h3;unfold JaO at cL cK cD;clear h hb h4
 go_enter Tryz.func268,Tryz.ntmps268
 go_wp2_with (first
  | (go_at_call 267;refine(cL.out _).mono ?_;rintro e w1 ⟨rfl,hb1⟩;obtain⟨b1,b2,b3⟩:=Jbt hb1;have HR1:=hdz b1;have HP1:=hdz b2;have HB1:=hdz b3;have p0:=ce b2 0 rfl;have p1:=ce b2 1 rfl;have p2:=ce b2 2 rfl;clear b1 b2 b3 hb1)
  | (go_at_call 107;refine(cK _).mono ?_;rintro e w2 ⟨rfl,hb2⟩;have HR2:Hid (w2.heap[w.heap.size]?=some (.cells #[.int .i64 0,.int .i64 0,.string ⟨#[]⟩] 50 (0,0))):=(hb2.block _ (Jav HR1.out)).trans HR1.out;have HP2:Hid (w2.heap[w.heap.size+1]?=some (.cells #[.int .i64 0,.int .i64 0,.string ⟨U.toArray⟩] 50 (0,0))):=(hb2.block _ (Jav HP1.out)).trans HP1.out;have HB2:=hdz (HB1.out.trans (hb2.mono HB1.out.size));have p0:=ce HP2.out 0 rfl;have p1:=ce HP2.out 1 rfl;have p2:=ce HP2.out 2 rfl;clear hb2)
  | (go_at_call 211;refine(cD _).mono ?_;rintro e w3 ⟨rfl,hb3⟩;have HR3:Hid (w3.heap[w.heap.size]?=some (.cells #[.int .i64 0,.int .i64 0,.string ⟨#[]⟩] 50 (0,0))):=(hb3.block _ (Jav HR2.out)).trans HR2.out;have HP3:Hid (w3.heap[w.heap.size+1]?=some (.cells #[.int .i64 0,.int .i64 0,.string ⟨U.toArray⟩] 50 (0,0))):=(hb3.block _ (Jav HP2.out)).trans HP2.out;have HB3:=hdz (HB2.out.trans (hb3.mono HB2.out.size));have r0:=ce HR3.out 0 rfl;have r1:=ce HR3.out 1 rfl;have r2:=ce HR3.out 2 rfl;have rF:=fz HR3.out 0;have rF1:=fz HR3.out 1;have rF2:=fz HR3.out 2;have g0:w3.cell? ⟨g,o,none⟩=some (.int .i64 0):=(HB3.out.cell H3.out).trans C0.out;have g1:w3.cell? ⟨g,o+1,none⟩=some (.int .i64 0):=(HB3.out.cell H3.out).trans C1.out;have g2:w3.cell? ⟨g,o+2,none⟩=some (.string ⟨U.toArray⟩):=(HB3.out.cell H3.out).trans C2.out;have gF:w3.frozen? ⟨g,o,none⟩=false:=(HB3.out.frozen H3.out).trans (H4.out o);have gF1:w3.frozen? ⟨g,o+1,none⟩=false:=(HB3.out.frozen H3.out).trans (H4.out _);have gF2:w3.frozen? ⟨g,o+2,none⟩=false:=(HB3.out.frozen H3.out).trans (H4.out _);have p0:=ce HP3.out 0 rfl;have p1:=ce HP3.out 1 rfl;have p2:=ce HP3.out 2 rfl;clear hb3))
 obtain⟨A,hA⟩:∃A,w3.setCell ⟨g,o+2,none⟩ (.string ((ByteArray.mk U.toArray).extract n U.length))=A:=⟨_,rfl⟩;have hA':=hA;rw[hA'];have hkeep:A.heap[w.heap.size]?=w3.heap[w.heap.size]?:=by rw[←hA];exact Below.heap_setCell _ _ _ _ (by show w.heap.size≠g;omega)
 have e0:A.cell? ⟨w.heap.size,0,none⟩=some (.int .i64 0):=(World.cell?_of_block (w:=w3) (a:=⟨w.heap.size,0,none⟩) hkeep).trans r0;have e1:A.cell? ⟨w.heap.size,1,none⟩=some (.int .i64 0):=(World.cell?_of_block (w:=w3) (a:=⟨w.heap.size,1,none⟩) hkeep).trans r1;have e2:A.cell? ⟨w.heap.size,2,none⟩=some (.string ⟨#[]⟩):=(World.cell?_of_block (w:=w3) (a:=⟨w.heap.size,2,none⟩) hkeep).trans r2;obtain⟨s0,s1,s2,hs,hk⟩:=Jeq e0 e1 e2 (.int .i64 0) (.int .i64 0) (.string ((ByteArray.mk U.toArray).extract 0 n));refine bodyPost_ret (v:=.tuple #[.agg #[(.int .i64 0),(.int .i64 0),(.string ((ByteArray.mk U.toArray).extract 0 n))],.slice (some ⟨g,o,none⟩) (ps.length+1) c]) (by simp[results,Tryz.results268,go_sem,s0,s1,s2]) rfl ?_
 have hfirst:winP A g (.slice (some ⟨g,o,none⟩) (ps.length+1) c) (⟨0,0,U.drop n⟩ :: ps):=by
  rw[←hA]
  exact Jg4 H.out (by rw[World.size_setCell];exact HB3.out.size) (fun j=>by rw[World.frozen?_setCell];exact HB3.out.frozen H3.out) (fun j hj=>by rw[Jbn (by omega)];exact HB3.out.cell H3.out)
   (by rw[Jbn (by omega)];exact g0) (by rw[Jbn (by omega)];exact g1) ((World.cell?_setCell_same _ _ _ g2).trans (by rw[Jod]))
 have hbut:ButO g w A:=by rw[←hA];exact(ButO.of HB3.out).set _ _
 generalize hZ:((A.setCell ⟨w.heap.size,0,none⟩ (.int .i64 0)).setCell ⟨w.heap.size,1,none⟩ (.int .i64 0)).setCell ⟨w.heap.size,2,none⟩ (.string ((ByteArray.mk U.toArray).extract 0 n))=Z at *;exact⟨_,by rw[Joe];rfl,Jcj hfirst (Nat.le_of_eq hs.symm) fun _=>hk g (by omega),hbut.trans' hs (fun k hk'=>hk k (by omega)) (by rw[←hZ];exact⟨rfl,rfl,rfl⟩)⟩
end
end Go.Proofs.YtedgnlgjmnccgabGreatDoor
