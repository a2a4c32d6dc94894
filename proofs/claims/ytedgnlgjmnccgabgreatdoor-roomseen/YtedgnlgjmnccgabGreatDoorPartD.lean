/-
  A part of the texts that the proof uses.
-/
import Derived.Test.YtedgnlgjmnccgabGreatDoorPartC
import Derived.Test.YtedgnlgjmnccgabGreatDoorPartB
import Derived.Deep.LoopGhost
set_option maxRecDepth 100000
set_option maxHeartbeats 40000000
set_option linter.unusedVariables false
namespace Go.Proofs.YtedgnlgjmnccgabGreatDoor
section
open Go.RowKit
attribute [local go_sem] Oper.semAt_some
variable {w : World}{b : Nat}
theorem Jbs{o o':Nat}{x:Value}(h:o≠o'):(w.setCell ⟨b,o,none⟩ x).cell? ⟨b,o',none⟩=w.cell? ⟨b,o',none⟩:=World.cell?_setCell_other _ _ _ _ (by intro e;simp only[Addr.mk.injEq]at e;omega)
theorem JbR{y0 y1 y2:Value}(r0:w.cell? ⟨b,0,none⟩=some y0)(r1:w.cell? ⟨b,1,none⟩=some y1)(r2:w.cell? ⟨b,2,none⟩=some y2)(x0 x1 x2:Value) :
    (w.setCell ⟨b,0,none⟩ x0).cell? ⟨b,0,none⟩=some x0/\((w.setCell ⟨b,0,none⟩ x0).setCell ⟨b,1,none⟩ x1).cell? ⟨b,1,none⟩=some x1/\(((w.setCell ⟨b,0,none⟩ x0).setCell ⟨b,1,none⟩ x1).setCell ⟨b,2,none⟩ x2).cell? ⟨b,2,none⟩=some x2 /\
    (((w.setCell ⟨b,0,none⟩ x0).setCell ⟨b,1,none⟩ x1).setCell ⟨b,2,none⟩ x2).heap.size=w.heap.size/\∀k,k≠b->(((w.setCell ⟨b,0,none⟩ x0).setCell ⟨b,1,none⟩ x1).setCell ⟨b,2,none⟩ x2).heap[k]?=w.heap[k]?:=by
 have h1:(w.setCell ⟨b,0,none⟩ x0).cell? ⟨b,1,none⟩=some y1:=by rw[Jbs (by omega)];exact r1
 have h2:((w.setCell ⟨b,0,none⟩ x0).setCell ⟨b,1,none⟩ x1).cell? ⟨b,2,none⟩=some y2:=by rw[Jbs (by omega),Jbs (by omega)];exact r2
 refine⟨World.cell?_setCell_same _ _ _ r0,World.cell?_setCell_same _ _ _ h1,World.cell?_setCell_same _ _ _ h2,by simp,fun k hk=>?_⟩;rw[Below.heap_setCell _ _ _ _ (by show k≠b;exact hk),Below.heap_setCell _ _ _ _ (by show k≠b;exact hk),Below.heap_setCell _ _ _ _ (by show k≠b;exact hk)]
theorem ButO.trans'{g:Nat}{A Z:World}(h:ButO g w A)(hs:Z.heap.size=A.heap.size)(hk:∀k,k<w.heap.size->Z.heap[k]?=A.heap[k]?)(ho:Z.os=A.os/\Z.tape=A.tape/\Z.output=A.output):ButO g w Z :=
 ⟨ho.1.trans h.os,ho.2.1.trans h.tape,ho.2.2.trans h.output,by rw[hs];exact h.size,fun k hk1 hk2=>(hk k hk1).trans (h.block k hk1 hk2)⟩
theorem Jro(g:Nat)(v:Value)(K:Int)(ps:List Pt)(n:Nat)(w:World)(h:winP w g v (⟨K,0,[]⟩ :: ps))(h0:0<n)(hn:(n:Int)<K)(hb:K<1000000000) :
    Calls Tryz.prog 268 #[v,.int .i64 n] w fun e w'=>∃v',e=.returned (.tuple #[Jay ⟨n,0,[]⟩,v'])/\winP w' g v' (⟨K - n,0,[]⟩ :: ps)/\ButO g w w':=by
 have H:Hid (winP w g v (⟨K,0,[]⟩ :: ps)):=h;obtain⟨o,c,rfl,h1,h2,h3,h4,c0,c1,c2⟩:=JaT h;have cL:Hid (∀wx,Calls Tryz.prog 267 #[Jay ⟨K,0,[]⟩] wx fun e w'=>e=.returned (.int .i64 K)/\Below wx.heap.size wx w'):=fun wx=>by
  have:=JbW ⟨K,0,[]⟩ wx ⟨by simp<;>omega,by simp<;>omega⟩ (by simp<;>omega);simpa using this
 have cK:=JbX ⟨K,0,[]⟩;have cD:=JcA ⟨K,0,[]⟩;have hkd:decide (0<(⟨K,0,[]⟩:Pt).keep)=true:=decide_eq_true (show 0<K by omega);rw[hkd]at cK;have hne:¬K=(n:Int):=by omega
 have hw1: -9223372036854775808<=K - (n:Int):=by omega
 have hw2:K - (n:Int)<9223372036854775808:=by omega
 simp only at c0 c1 c2;have H4:Hid (∀j,w.frozen? ⟨g,j,none⟩=false):=h4;have hgw:¬g=w.heap.size:=by omega
 have hwg:¬w.heap.size=g:=by omega
 have C0:Hid (w.cell? ⟨g,o,none⟩=some (.int .i64 K)):=c0;have C1:Hid (w.cell? ⟨g,o+1,none⟩=some (.int .i64 0)):=c1;have C2:Hid (w.cell? ⟨g,o+2,none⟩=some (.string ⟨[].toArray⟩)):=c2;have c0':w.cell? ⟨g,o+0,none⟩=some (.int .i64 K):=c0;have H3:Hid (g<w.heap.size):=h3;unfold Jay at cL cK cD;clear h hb h4
 go_enter Tryz.func268,Tryz.ntmps268
 go_wp2_with (first
  | (go_at_call 267;refine(cL.out _).mono ?_;rintro e w1 ⟨rfl,hb1⟩;obtain⟨b1,b2,b3⟩:=JaL hb1;have HR1:Hid (w1.heap[w.heap.size]?=some (.cells #[.int .i64 0,.int .i64 0,.string ⟨#[]⟩] 50 (0,0))):=b1;have HP1:Hid (w1.heap[w.heap.size+1]?=some (.cells #[.int .i64 K,.int .i64 0,.string ⟨[].toArray⟩] 50 (0,0))):=b2;have HB1:=hdz b3;have p0:w1.cell? ⟨w.heap.size+1,0,none⟩=some (.int .i64 K):=chp b2 0;have p1:w1.cell? ⟨w.heap.size+1,1,none⟩=some (.int .i64 0):=chp b2 1;have p2:w1.cell? ⟨w.heap.size+1,2,none⟩=some (.string ⟨[].toArray⟩):=chp b2 2;clear b1 b2 b3 hb1)
  | (go_at_call 107;refine(cK _).mono ?_;rintro e w2 ⟨rfl,hb2⟩;have HR2:Hid (w2.heap[w.heap.size]?=some (.cells #[.int .i64 0,.int .i64 0,.string ⟨#[]⟩] 50 (0,0))):=(hb2.block _ (Jah HR1.out)).trans HR1.out;have HP2:Hid (w2.heap[w.heap.size+1]?=some (.cells #[.int .i64 K,.int .i64 0,.string ⟨[].toArray⟩] 50 (0,0))):=(hb2.block _ (Jah HP1.out)).trans HP1.out;have HB2:=hdz (HB1.out.trans (hb2.mono HB1.out.size));have r0:w2.cell? ⟨w.heap.size,0,none⟩=some (.int .i64 0):=chp HR2.out 0;have r1:w2.cell? ⟨w.heap.size,1,none⟩=some (.int .i64 0):=chp HR2.out 1;have r2:w2.cell? ⟨w.heap.size,2,none⟩=some (.string ⟨#[]⟩):=chp HR2.out 2;have rF:w2.frozen? ⟨w.heap.size,0,none⟩=false:=frozen_of_heap HR2.out 0;have rF1:w2.frozen? ⟨w.heap.size,1,none⟩=false:=frozen_of_heap HR2.out 1;have rF2:w2.frozen? ⟨w.heap.size,2,none⟩=false:=frozen_of_heap HR2.out 2;have g0:w2.cell? ⟨g,o,none⟩=some (.int .i64 K):=(HB2.out.cell H3.out).trans C0.out;have g1:w2.cell? ⟨g,o+1,none⟩=some (.int .i64 0):=(HB2.out.cell H3.out).trans C1.out;have g2:w2.cell? ⟨g,o+2,none⟩=some (.string ⟨[].toArray⟩):=(HB2.out.cell H3.out).trans C2.out;have gF:w2.frozen? ⟨g,o,none⟩=false:=(HB2.out.frozen H3.out).trans (H4.out o);have gF1:w2.frozen? ⟨g,o+1,none⟩=false:=(HB2.out.frozen H3.out).trans (H4.out _);have gF2:w2.frozen? ⟨g,o+2,none⟩=false:=(HB2.out.frozen H3.out).trans (H4.out _);clear hb2)
  | fail)
 obtain⟨A,hA⟩:∃A,w2.setCell ⟨g,o+0,none⟩ (.int .i64 (K - n))=A:=⟨_,rfl⟩;have hA':w2.setCell ⟨g,o,none⟩ (.int .i64 (K - n))=A:=hA;rw[hA'];have hkeep:A.heap[w.heap.size]?=w2.heap[w.heap.size]?:=by rw[←hA];exact Below.heap_setCell _ _ _ _ (by show w.heap.size≠g;omega)
 have e0:A.cell? ⟨w.heap.size,0,none⟩=some (.int .i64 0):=(World.cell?_of_block (w:=w2) (a:=⟨w.heap.size,0,none⟩) hkeep).trans r0;have e1:A.cell? ⟨w.heap.size,1,none⟩=some (.int .i64 0):=(World.cell?_of_block (w:=w2) (a:=⟨w.heap.size,1,none⟩) hkeep).trans r1;have e2:A.cell? ⟨w.heap.size,2,none⟩=some (.string ⟨#[]⟩):=(World.cell?_of_block (w:=w2) (a:=⟨w.heap.size,2,none⟩) hkeep).trans r2;obtain⟨s0,s1,s2,hs,hk⟩:=JbR e0 e1 e2 (.int .i64 n) (.int .i64 0) (.string ⟨#[]⟩);refine bodyPost_ret (v:=.tuple #[.agg #[(.int .i64 n),(.int .i64 0),(.string ⟨#[]⟩)],.slice (some ⟨g,o,none⟩) (ps.length+1) c]) (by simp[results,Tryz.results268,go_sem,s0,s1,s2]) rfl ?_
 have hfirst:winP A g (.slice (some ⟨g,o,none⟩) (ps.length+1) c) (⟨K - n,0,[]⟩ :: ps):=by
  rw[←hA]
  exact JfR H.out (by rw[World.size_setCell];exact HB2.out.size) (fun j=>by rw[World.frozen?_setCell];exact HB2.out.frozen H3.out) (fun j hj=>by rw[Jbs (by omega)];exact HB2.out.cell H3.out)
   (World.cell?_setCell_same _ _ _ g0) (by rw[Jbs (by omega)];exact g1) (by rw[Jbs (by omega)];exact g2)
 have hbut:ButO g w A:=by rw[←hA];exact(ButO.of HB2.out).set _ _
 generalize hZ:((A.setCell ⟨w.heap.size,0,none⟩ (.int .i64 n)).setCell ⟨w.heap.size,1,none⟩ (.int .i64 0)).setCell ⟨w.heap.size,2,none⟩ (.string ⟨#[]⟩)=Z at *;exact⟨_,rfl,Jbd hfirst (Nat.le_of_eq hs.symm) fun _=>hk g (by omega),hbut.trans' hs (fun k hk'=>hk k (by omega)) (by rw[←hZ];exact⟨rfl,rfl,rfl⟩)⟩
theorem Jrp(g:Nat)(v:Value)(K:Int)(ps:List Pt)(n:Nat)(w:World)(h:winP w g v (⟨0,K,[]⟩ :: ps))(h0:0<n)(hn:(n:Int)<K)(hb:K<1000000000) :
    Calls Tryz.prog 268 #[v,.int .i64 n] w fun e w'=>∃v',e=.returned (.tuple #[Jay ⟨0,n,[]⟩,v'])/\winP w' g v' (⟨0,K - n,[]⟩ :: ps)/\ButO g w w':=by
 have H:Hid (winP w g v (⟨0,K,[]⟩ :: ps)):=h;obtain⟨o,c,rfl,h1,h2,h3,h4,c0,c1,c2⟩:=JaT h;have cL:Hid (∀wx,Calls Tryz.prog 267 #[Jay ⟨0,K,[]⟩] wx fun e w'=>e=.returned (.int .i64 K)/\Below wx.heap.size wx w'):=fun wx=>by
  have:=JbW ⟨0,K,[]⟩ wx ⟨by simp<;>omega,by simp<;>omega⟩ (by simp<;>omega);simpa using this
 have cK:=JbX ⟨0,K,[]⟩;have cD:=JcA ⟨0,K,[]⟩;have hkd:decide (0<(⟨0,K,[]⟩:Pt).keep)=false:=rfl;have hdd:decide (0<(⟨0,K,[]⟩:Pt).drop)=true:=decide_eq_true (show 0<K by omega);rw[hkd]at cK;rw[hdd]at cD;have hne:¬K=(n:Int):=by omega
 have hw1: -9223372036854775808<=K - (n:Int):=by omega
 have hw2:K - (n:Int)<9223372036854775808:=by omega
 simp only at c0 c1 c2;have H4:Hid (∀j,w.frozen? ⟨g,j,none⟩=false):=h4;have hgw:¬g=w.heap.size:=by omega
 have hwg:¬w.heap.size=g:=by omega
 have C0:Hid (w.cell? ⟨g,o,none⟩=some (.int .i64 0)):=c0;have C1:Hid (w.cell? ⟨g,o+1,none⟩=some (.int .i64 K)):=c1;have C2:Hid (w.cell? ⟨g,o+2,none⟩=some (.string ⟨[].toArray⟩)):=c2;have c0':w.cell? ⟨g,o+0,none⟩=some (.int .i64 0):=c0;have H3:Hid (g<w.heap.size):=h3;unfold Jay at cL cK cD;clear h hb h4
 go_enter Tryz.func268,Tryz.ntmps268
 go_wp2_with (first
  | (go_at_call 267;refine(cL.out _).mono ?_;rintro e w1 ⟨rfl,hb1⟩;obtain⟨b1,b2,b3⟩:=JaL hb1;have HR1:Hid (w1.heap[w.heap.size]?=some (.cells #[.int .i64 0,.int .i64 0,.string ⟨#[]⟩] 50 (0,0))):=b1;have HP1:Hid (w1.heap[w.heap.size+1]?=some (.cells #[.int .i64 0,.int .i64 K,.string ⟨[].toArray⟩] 50 (0,0))):=b2;have HB1:=hdz b3;have p0:w1.cell? ⟨w.heap.size+1,0,none⟩=some (.int .i64 0):=chp b2 0;have p1:w1.cell? ⟨w.heap.size+1,1,none⟩=some (.int .i64 K):=chp b2 1;have p2:w1.cell? ⟨w.heap.size+1,2,none⟩=some (.string ⟨[].toArray⟩):=chp b2 2;clear b1 b2 b3 hb1)
  | (go_at_call 107;refine(cK _).mono ?_;rintro e w2 ⟨rfl,hb2⟩;have HR2:Hid (w2.heap[w.heap.size]?=some (.cells #[.int .i64 0,.int .i64 0,.string ⟨#[]⟩] 50 (0,0))):=(hb2.block _ (Jah HR1.out)).trans HR1.out;have HP2:Hid (w2.heap[w.heap.size+1]?=some (.cells #[.int .i64 0,.int .i64 K,.string ⟨[].toArray⟩] 50 (0,0))):=(hb2.block _ (Jah HP1.out)).trans HP1.out;have HB2:=hdz (HB1.out.trans (hb2.mono HB1.out.size));have p0:w2.cell? ⟨w.heap.size+1,0,none⟩=some (.int .i64 0):=chp HP2.out 0;have p1:w2.cell? ⟨w.heap.size+1,1,none⟩=some (.int .i64 K):=chp HP2.out 1;have p2:w2.cell? ⟨w.heap.size+1,2,none⟩=some (.string ⟨[].toArray⟩):=chp HP2.out 2;clear hb2)
  | (go_at_call 211;refine(cD _).mono ?_;rintro e w3 ⟨rfl,hb3⟩;have HR3:Hid (w3.heap[w.heap.size]?=some (.cells #[.int .i64 0,.int .i64 0,.string ⟨#[]⟩] 50 (0,0))):=(hb3.block _ (Jah HR2.out)).trans HR2.out;have HP3:Hid (w3.heap[w.heap.size+1]?=some (.cells #[.int .i64 0,.int .i64 K,.string ⟨[].toArray⟩] 50 (0,0))):=(hb3.block _ (Jah HP2.out)).trans HP2.out;have HB3:=hdz (HB2.out.trans (hb3.mono HB2.out.size));have r0:w3.cell? ⟨w.heap.size,0,none⟩=some (.int .i64 0):=chp HR3.out 0;have r1:w3.cell? ⟨w.heap.size,1,none⟩=some (.int .i64 0):=chp HR3.out 1;have r2:w3.cell? ⟨w.heap.size,2,none⟩=some (.string ⟨#[]⟩):=chp HR3.out 2;have rF:w3.frozen? ⟨w.heap.size,0,none⟩=false:=frozen_of_heap HR3.out 0;have rF1:w3.frozen? ⟨w.heap.size,1,none⟩=false:=frozen_of_heap HR3.out 1;have rF2:w3.frozen? ⟨w.heap.size,2,none⟩=false:=frozen_of_heap HR3.out 2;have g0:w3.cell? ⟨g,o,none⟩=some (.int .i64 0):=(HB3.out.cell H3.out).trans C0.out;have g1:w3.cell? ⟨g,o+1,none⟩=some (.int .i64 K):=(HB3.out.cell H3.out).trans C1.out;have g2:w3.cell? ⟨g,o+2,none⟩=some (.string ⟨[].toArray⟩):=(HB3.out.cell H3.out).trans C2.out;have gF:w3.frozen? ⟨g,o,none⟩=false:=(HB3.out.frozen H3.out).trans (H4.out o);have gF1:w3.frozen? ⟨g,o+1,none⟩=false:=(HB3.out.frozen H3.out).trans (H4.out _);have gF2:w3.frozen? ⟨g,o+2,none⟩=false:=(HB3.out.frozen H3.out).trans (H4.out _);clear hb3)
  | fail)
 obtain⟨A,hA⟩:∃A,w3.setCell ⟨g,o+1,none⟩ (.int .i64 (K - n))=A:=⟨_,rfl⟩;have hA':=hA;rw[hA'];have hkeep:A.heap[w.heap.size]?=w3.heap[w.heap.size]?:=by rw[←hA];exact Below.heap_setCell _ _ _ _ (by show w.heap.size≠g;omega)
 have e0:A.cell? ⟨w.heap.size,0,none⟩=some (.int .i64 0):=(World.cell?_of_block (w:=w3) (a:=⟨w.heap.size,0,none⟩) hkeep).trans r0;have e1:A.cell? ⟨w.heap.size,1,none⟩=some (.int .i64 0):=(World.cell?_of_block (w:=w3) (a:=⟨w.heap.size,1,none⟩) hkeep).trans r1;have e2:A.cell? ⟨w.heap.size,2,none⟩=some (.string ⟨#[]⟩):=(World.cell?_of_block (w:=w3) (a:=⟨w.heap.size,2,none⟩) hkeep).trans r2;obtain⟨s0,s1,s2,hs,hk⟩:=JbR e0 e1 e2 (.int .i64 0) (.int .i64 n) (.string ⟨#[]⟩);refine bodyPost_ret (v:=.tuple #[.agg #[(.int .i64 0),(.int .i64 n),(.string ⟨#[]⟩)],.slice (some ⟨g,o,none⟩) (ps.length+1) c]) (by simp[results,Tryz.results268,go_sem,s0,s1,s2]) rfl ?_
 have hfirst:winP A g (.slice (some ⟨g,o,none⟩) (ps.length+1) c) (⟨0,K - n,[]⟩ :: ps):=by
  rw[←hA]
  exact JfR H.out (by rw[World.size_setCell];exact HB3.out.size) (fun j=>by rw[World.frozen?_setCell];exact HB3.out.frozen H3.out) (fun j hj=>by rw[Jbs (by omega)];exact HB3.out.cell H3.out)
   (by rw[Jbs (by omega)];exact g0) (World.cell?_setCell_same _ _ _ g1) (by rw[Jbs (by omega)];exact g2)
 have hbut:ButO g w A:=by rw[←hA];exact(ButO.of HB3.out).set _ _
 generalize hZ:((A.setCell ⟨w.heap.size,0,none⟩ (.int .i64 0)).setCell ⟨w.heap.size,1,none⟩ (.int .i64 n)).setCell ⟨w.heap.size,2,none⟩ (.string ⟨#[]⟩)=Z at *;exact⟨_,rfl,Jbd hfirst (Nat.le_of_eq hs.symm) fun _=>hk g (by omega),hbut.trans' hs (fun k hk'=>hk k (by omega)) (by rw[←hZ];exact⟨rfl,rfl,rfl⟩)⟩
theorem cut_put(g:Nat)(v:Value)(U:List UInt8)(ps:List Pt)(n:Nat)(w:World)(h:winP w g v (⟨0,0,U⟩ :: ps))(h0:0<n)(hn:n<U.length)(hb:U.length<1000000000) :
    Calls Tryz.prog 268 #[v,.int .i64 n] w fun e w'=>∃v',e=.returned (.tuple #[Jay ⟨0,0,U.take n⟩,v'])/\winP w' g v' (⟨0,0,U.drop n⟩ :: ps)/\ButO g w w':=by
 have H:Hid (winP w g v (⟨0,0,U⟩ :: ps)):=h;obtain⟨o,c,rfl,h1,h2,h3,h4,c0,c1,c2⟩:=JaT h;have cL:Hid (∀wx,Calls Tryz.prog 267 #[Jay ⟨0,0,U⟩] wx fun e w'=>e=.returned (.int .i64 (U.length:Int))/\Below wx.heap.size wx w'):=fun wx=>by
  have:=JbW ⟨0,0,U⟩ wx ⟨by simp<;>omega,by simp<;>omega⟩ (by simp<;>omega);simpa using this
 have cK:=JbX ⟨0,0,U⟩;have cD:=JcA ⟨0,0,U⟩;have hkd:decide (0<(⟨0,0,U⟩:Pt).keep)=false:=rfl;have hdd:decide (0<(⟨0,0,U⟩:Pt).drop)=false:=rfl;rw[hkd]at cK;rw[hdd]at cD;have hne:¬(U.length:Int)=(n:Int):=by omega
 have hz:(ByteArray.mk U.toArray).size=U.length:=by simp[ByteArray.size]
 have hle:n<=U.length:=by omega
 simp only at c0 c1 c2;have H4:Hid (∀j,w.frozen? ⟨g,j,none⟩=false):=h4;have hgw:¬g=w.heap.size:=by omega
 have hwg:¬w.heap.size=g:=by omega
 have C0:Hid (w.cell? ⟨g,o,none⟩=some (.int .i64 0)):=c0;have C1:Hid (w.cell? ⟨g,o+1,none⟩=some (.int .i64 0)):=c1;have C2:Hid (w.cell? ⟨g,o+2,none⟩=some (.string ⟨U.toArray⟩)):=c2;have c0':w.cell? ⟨g,o+0,none⟩=some (.int .i64 0):=c0;have H3:Hid (g<w.heap.size):=h3;unfold Jay at cL cK cD;clear h hb h4
 go_enter Tryz.func268,Tryz.ntmps268
 go_wp2_with (first
  | (go_at_call 267;refine(cL.out _).mono ?_;rintro e w1 ⟨rfl,hb1⟩;obtain⟨b1,b2,b3⟩:=JaL hb1;have HR1:Hid (w1.heap[w.heap.size]?=some (.cells #[.int .i64 0,.int .i64 0,.string ⟨#[]⟩] 50 (0,0))):=b1;have HP1:Hid (w1.heap[w.heap.size+1]?=some (.cells #[.int .i64 0,.int .i64 0,.string ⟨U.toArray⟩] 50 (0,0))):=b2;have HB1:=hdz b3;have p0:w1.cell? ⟨w.heap.size+1,0,none⟩=some (.int .i64 0):=chp b2 0;have p1:w1.cell? ⟨w.heap.size+1,1,none⟩=some (.int .i64 0):=chp b2 1;have p2:w1.cell? ⟨w.heap.size+1,2,none⟩=some (.string ⟨U.toArray⟩):=chp b2 2;clear b1 b2 b3 hb1)
  | (go_at_call 107;refine(cK _).mono ?_;rintro e w2 ⟨rfl,hb2⟩;have HR2:Hid (w2.heap[w.heap.size]?=some (.cells #[.int .i64 0,.int .i64 0,.string ⟨#[]⟩] 50 (0,0))):=(hb2.block _ (Jah HR1.out)).trans HR1.out;have HP2:Hid (w2.heap[w.heap.size+1]?=some (.cells #[.int .i64 0,.int .i64 0,.string ⟨U.toArray⟩] 50 (0,0))):=(hb2.block _ (Jah HP1.out)).trans HP1.out;have HB2:=hdz (HB1.out.trans (hb2.mono HB1.out.size));have p0:w2.cell? ⟨w.heap.size+1,0,none⟩=some (.int .i64 0):=chp HP2.out 0;have p1:w2.cell? ⟨w.heap.size+1,1,none⟩=some (.int .i64 0):=chp HP2.out 1;have p2:w2.cell? ⟨w.heap.size+1,2,none⟩=some (.string ⟨U.toArray⟩):=chp HP2.out 2;clear hb2)
  | (go_at_call 211;refine(cD _).mono ?_;rintro e w3 ⟨rfl,hb3⟩;have HR3:Hid (w3.heap[w.heap.size]?=some (.cells #[.int .i64 0,.int .i64 0,.string ⟨#[]⟩] 50 (0,0))):=(hb3.block _ (Jah HR2.out)).trans HR2.out;have HP3:Hid (w3.heap[w.heap.size+1]?=some (.cells #[.int .i64 0,.int .i64 0,.string ⟨U.toArray⟩] 50 (0,0))):=(hb3.block _ (Jah HP2.out)).trans HP2.out;have HB3:=hdz (HB2.out.trans (hb3.mono HB2.out.size));have r0:w3.cell? ⟨w.heap.size,0,none⟩=some (.int .i64 0):=chp HR3.out 0;have r1:w3.cell? ⟨w.heap.size,1,none⟩=some (.int .i64 0):=chp HR3.out 1;have r2:w3.cell? ⟨w.heap.size,2,none⟩=some (.string ⟨#[]⟩):=chp HR3.out 2;have rF:w3.frozen? ⟨w.heap.size,0,none⟩=false:=frozen_of_heap HR3.out 0;have rF1:w3.frozen? ⟨w.heap.size,1,none⟩=false:=frozen_of_heap HR3.out 1;have rF2:w3.frozen? ⟨w.heap.size,2,none⟩=false:=frozen_of_heap HR3.out 2;have g0:w3.cell? ⟨g,o,none⟩=some (.int .i64 0):=(HB3.out.cell H3.out).trans C0.out;have g1:w3.cell? ⟨g,o+1,none⟩=some (.int .i64 0):=(HB3.out.cell H3.out).trans C1.out;have g2:w3.cell? ⟨g,o+2,none⟩=some (.string ⟨U.toArray⟩):=(HB3.out.cell H3.out).trans C2.out;have gF:w3.frozen? ⟨g,o,none⟩=false:=(HB3.out.frozen H3.out).trans (H4.out o);have gF1:w3.frozen? ⟨g,o+1,none⟩=false:=(HB3.out.frozen H3.out).trans (H4.out _);have gF2:w3.frozen? ⟨g,o+2,none⟩=false:=(HB3.out.frozen H3.out).trans (H4.out _);have p0:w3.cell? ⟨w.heap.size+1,0,none⟩=some (.int .i64 0):=chp HP3.out 0;have p1:w3.cell? ⟨w.heap.size+1,1,none⟩=some (.int .i64 0):=chp HP3.out 1;have p2:w3.cell? ⟨w.heap.size+1,2,none⟩=some (.string ⟨U.toArray⟩):=chp HP3.out 2;clear hb3)
  | fail)
 obtain⟨A,hA⟩:∃A,w3.setCell ⟨g,o+2,none⟩ (.string ((ByteArray.mk U.toArray).extract n U.length))=A:=⟨_,rfl⟩;have hA':=hA;rw[hA'];have hkeep:A.heap[w.heap.size]?=w3.heap[w.heap.size]?:=by rw[←hA];exact Below.heap_setCell _ _ _ _ (by show w.heap.size≠g;omega)
 have e0:A.cell? ⟨w.heap.size,0,none⟩=some (.int .i64 0):=(World.cell?_of_block (w:=w3) (a:=⟨w.heap.size,0,none⟩) hkeep).trans r0;have e1:A.cell? ⟨w.heap.size,1,none⟩=some (.int .i64 0):=(World.cell?_of_block (w:=w3) (a:=⟨w.heap.size,1,none⟩) hkeep).trans r1;have e2:A.cell? ⟨w.heap.size,2,none⟩=some (.string ⟨#[]⟩):=(World.cell?_of_block (w:=w3) (a:=⟨w.heap.size,2,none⟩) hkeep).trans r2;obtain⟨s0,s1,s2,hs,hk⟩:=JbR e0 e1 e2 (.int .i64 0) (.int .i64 0) (.string ((ByteArray.mk U.toArray).extract 0 n));refine bodyPost_ret (v:=.tuple #[.agg #[(.int .i64 0),(.int .i64 0),(.string ((ByteArray.mk U.toArray).extract 0 n))],.slice (some ⟨g,o,none⟩) (ps.length+1) c]) (by simp[results,Tryz.results268,go_sem,s0,s1,s2]) rfl ?_
 have hfirst:winP A g (.slice (some ⟨g,o,none⟩) (ps.length+1) c) (⟨0,0,U.drop n⟩ :: ps):=by
  rw[←hA]
  exact JfR H.out (by rw[World.size_setCell];exact HB3.out.size) (fun j=>by rw[World.frozen?_setCell];exact HB3.out.frozen H3.out) (fun j hj=>by rw[Jbs (by omega)];exact HB3.out.cell H3.out)
   (by rw[Jbs (by omega)];exact g0) (by rw[Jbs (by omega)];exact g1) ((World.cell?_setCell_same _ _ _ g2).trans (by rw[JmV]))
 have hbut:ButO g w A:=by rw[←hA];exact(ButO.of HB3.out).set _ _
 generalize hZ:((A.setCell ⟨w.heap.size,0,none⟩ (.int .i64 0)).setCell ⟨w.heap.size,1,none⟩ (.int .i64 0)).setCell ⟨w.heap.size,2,none⟩ (.string ((ByteArray.mk U.toArray).extract 0 n))=Z at *;exact⟨_,by rw[JmW];rfl,Jbd hfirst (Nat.le_of_eq hs.symm) fun _=>hk g (by omega),hbut.trans' hs (fun k hk'=>hk k (by omega)) (by rw[←hZ];exact⟨rfl,rfl,rfl⟩)⟩
end
section
open Go.RowKit
attribute [local go_sem] Oper.semAt_some
theorem Jgm(g:Nat)(v:Value)(p:Pt)(ps:List Pt)(n:Nat)(w:World)(h:winP w g v (p :: ps))(hp:oneP p)(h0:0<n)(hn:(n:Int)<=Jac p)(hb:Jac p<1000000000) :
    Calls Tryz.prog 268 #[v,.int .i64 n] w fun e w'=>∃v',e=.returned (.tuple #[Jay (cutP p n).1,v'])/\winP w' g v' ((cutP p n).2++ps)/\ButO g w w':=by
 by_cases e:Jac p=n
 . have hc:cutP p n=(p,[]):=by unfold cutP;rw[if_pos e]
   rw[hc];exact cut_all g v p ps n w h (by rcases hp with ⟨h1,h2,h3⟩|⟨h1,h2,h3⟩|⟨h1,h2,h3⟩<;>exact⟨by omega,by omega⟩) e (by omega)
 . obtain ⟨K,D,U⟩:=p
   have hl:Jac ⟨K,D,U⟩=K+D+U.length:=rfl;rw[hl]at e hn hb;have he:¬Jac ⟨K,D,U⟩=n:=e
   rcases hp with ⟨h1,h2,h3⟩|⟨h1,h2,h3⟩|⟨h1,h2,h3⟩
   . replace h1:0<K:=h1
     obtain rfl:D=0:=h2;obtain rfl:U=[]:=h3;simp only[List.length_nil,Int.add_zero,Int.natCast_zero]at e hn hb;have hc:cutP ⟨K,0,[]⟩ n=(⟨n,0,[]⟩,[⟨K - n,0,[]⟩]):=by unfold cutP;rw[if_neg he,if_pos h1]
     rw[hc];exact Jro g v K ps n w h h0 (by omega) (by omega)
   . obtain rfl:K=0:=h1
     replace h2:0<D:=h2
     obtain rfl:U=[]:=h3;simp only[List.length_nil,Int.add_zero,Int.zero_add,Int.natCast_zero]at e hn hb;have hc:cutP ⟨0,D,[]⟩ n=(⟨0,n,[]⟩,[⟨0,D - n,[]⟩]):=by unfold cutP;rw[if_neg he,if_neg (by show ¬(0:Int)<0;omega),if_pos h2]
     rw[hc];exact Jrp g v D ps n w h h0 (by omega) (by omega)
   . obtain rfl:K=0:=h1
     obtain rfl:D=0:=h2;simp only[Int.zero_add]at e hn hb;have hc:cutP ⟨0,0,U⟩ n=(⟨0,0,U.take n⟩,[⟨0,0,U.drop n⟩]):=by unfold cutP;rw[if_neg he,if_neg (by show ¬(0:Int)<0;omega),if_neg (by show ¬(0:Int)<0;omega)];rfl
     rw[hc];exact cut_put g v U ps n w h h0 (by omega) (by omega)
def addV (a:Nat):Value:=.func (.func 265) #[] #[.pointer (some ⟨a+1,0,none⟩),.pointer (some ⟨a+2,0,none⟩),.pointer (some ⟨a+3,0,none⟩),.pointer (some ⟨a,0,none⟩)]
def Jcw (M a:Nat) (s:NSt) (l:List Pt) (w:World) (e:Ending) (w':World):Prop:=(∃v,e=.returned v)/\gath M w' a (l.foldl addP s)/\BelowG M a w w'
theorem Jdw{M a:Nat}{s:NSt}{p:Pt}{w wx w':World}{v:Value}(hb:Below w.heap.size w wx)(ha:a<=w.heap.size)(hg:gath M w' a (addP s p))(hb':BelowG M a wx w'):Jcw M a s [p] w (.returned v) w' :=
 ⟨⟨v,rfl⟩,hg,(BelowG.of hb ha).trans hb'⟩
theorem Jqn(M a β:Nat)(s:NSt)(K D K2 D2:Int)(U U2:List UInt8)(w:World)(HG:Hid (gath M w a s))(hlt:a+3<w.heap.size)(HX:Hid (w.heap[β]?=some (.cells #[addV a] 342 (0,0))))(c1:Hid (∀wx,Calls Tryz.prog 225 #[.agg #[.int .i64 K2,.int .i64 D2,.string ⟨U2.toArray⟩]] wx fun e w'=>e=.returned (.bool true)/\Below wx.heap.size wx w'))(cA:Hid (∀wx,Below w.heap.size w wx->Calls Tryz.prog 265 #[.agg #[.int .i64 (U2.length:Int),.int .i64 0,.string ⟨#[]⟩],.pointer (some ⟨a+1,0,none⟩),.pointer (some ⟨a+2,0,none⟩),.pointer (some ⟨a+3,0,none⟩),.pointer (some ⟨a,0,none⟩)] wx fun e w'=>(∃v,e=.returned v)/\gath M w' a (addP s ⟨(U2.length:Int),0,[]⟩)/\BelowG M a wx w')) :
    Calls Tryz.prog 228 #[.agg #[.int .i64 K,.int .i64 D,.string ⟨U.toArray⟩],.agg #[.int .i64 K2,.int .i64 D2,.string ⟨U2.toArray⟩],.pointer (some ⟨β,0,none⟩)] w (Jcw M a s [⟨(U2.length:Int),0,[]⟩] w):=by
 have hz:(ByteArray.mk U2.toArray).size=U2.length:=by simp[ByteArray.size]
 go_enter Tryz.func228,Tryz.ntmps228
 go_wp2_with (first
  | (have _:=HB1;go_at_call 265;refine(cA.out _ HB1.out).mono ?_;rintro e w9 ⟨⟨v9,rfl⟩,hg9,hb9⟩)
  | (go_at_call 225;refine(c1.out _).mono ?_;rintro e w1 ⟨rfl,hb1⟩;obtain⟨b1,b2,b3⟩:=JaL hb1;have HR1:Hid (w1.heap[w.heap.size]?=some (.cells #[.int .i64 K,.int .i64 D,.string ⟨U.toArray⟩] 50 (0,0))):=b1;have HP1:Hid (w1.heap[w.heap.size+1]?=some (.cells #[.int .i64 K2,.int .i64 D2,.string ⟨U2.toArray⟩] 50 (0,0))):=b2;have HB1:=hdz b3;have o0:w1.cell? ⟨w.heap.size,0,none⟩=some (.int .i64 K):=chp HR1.out 0;have o1:w1.cell? ⟨w.heap.size,1,none⟩=some (.int .i64 D):=chp HR1.out 1;have o2:w1.cell? ⟨w.heap.size,2,none⟩=some (.string ⟨U.toArray⟩):=chp HR1.out 2;have p0:w1.cell? ⟨w.heap.size+1,0,none⟩=some (.int .i64 K2):=chp HP1.out 0;have p1:w1.cell? ⟨w.heap.size+1,1,none⟩=some (.int .i64 D2):=chp HP1.out 1;have p2:w1.cell? ⟨w.heap.size+1,2,none⟩=some (.string ⟨U2.toArray⟩):=chp HP1.out 2;have yf:w1.cell? ⟨β,0,none⟩=some (addV a):=chp ((HB1.out.block β (Jah HX.out)).trans HX.out) 0;unfold addV at yf;clear b1 b2 b3 hb1)
  | fail)
 go_end0;exact Jdw HB1.out (by omega) hg9 hb9
theorem Jqm(M a β:Nat)(s:NSt)(K D K2 D2:Int)(U U2:List UInt8)(w:World)(HG:Hid (gath M w a s))(hlt:a+3<w.heap.size)(HX:Hid (w.heap[β]?=some (.cells #[addV a] 342 (0,0))))(c1:Hid (∀wx,Calls Tryz.prog 225 #[.agg #[.int .i64 K2,.int .i64 D2,.string ⟨U2.toArray⟩]] wx fun e w'=>e=.returned (.bool false)/\Below wx.heap.size wx w'))(c2:Hid (∀wx,Calls Tryz.prog 225 #[.agg #[.int .i64 K,.int .i64 D,.string ⟨U.toArray⟩]] wx fun e w'=>e=.returned (.bool true)/\Below wx.heap.size wx w'))(cA:Hid (∀wx,Below w.heap.size w wx->Calls Tryz.prog 265 #[.agg #[.int .i64 K,.int .i64 D,.string ⟨U.toArray⟩],.pointer (some ⟨a+1,0,none⟩),.pointer (some ⟨a+2,0,none⟩),.pointer (some ⟨a+3,0,none⟩),.pointer (some ⟨a,0,none⟩)] wx fun e w'=>(∃v,e=.returned v)/\gath M w' a (addP s ⟨K,D,U⟩)/\BelowG M a wx w')) :
    Calls Tryz.prog 228 #[.agg #[.int .i64 K,.int .i64 D,.string ⟨U.toArray⟩],.agg #[.int .i64 K2,.int .i64 D2,.string ⟨U2.toArray⟩],.pointer (some ⟨β,0,none⟩)] w (Jcw M a s [⟨K,D,U⟩] w):=by
 have hz:(ByteArray.mk U2.toArray).size=U2.length:=by simp[ByteArray.size]
 go_enter Tryz.func228,Tryz.ntmps228
 go_wp2_with (first
  | (have _:=HB2;go_at_call 265;refine(cA.out _ HB2.out).mono ?_;rintro e w9 ⟨⟨v9,rfl⟩,hg9,hb9⟩)
  | (have _:=HB1;go_at_call 225;refine(c2.out _).mono ?_;rintro e w2 ⟨rfl,hb2⟩;have HR2:Hid (w2.heap[w.heap.size]?=some (.cells #[.int .i64 K,.int .i64 D,.string ⟨U.toArray⟩] 50 (0,0))):=(hb2.block _ (Jah HR1.out)).trans HR1.out;have HP2:Hid (w2.heap[w.heap.size+1]?=some (.cells #[.int .i64 K2,.int .i64 D2,.string ⟨U2.toArray⟩] 50 (0,0))):=(hb2.block _ (Jah HP1.out)).trans HP1.out;have HB2:=hdz (HB1.out.trans (hb2.mono HB1.out.size));have o0:w2.cell? ⟨w.heap.size,0,none⟩=some (.int .i64 K):=chp HR2.out 0;have o1:w2.cell? ⟨w.heap.size,1,none⟩=some (.int .i64 D):=chp HR2.out 1;have o2:w2.cell? ⟨w.heap.size,2,none⟩=some (.string ⟨U.toArray⟩):=chp HR2.out 2;have p0:w2.cell? ⟨w.heap.size+1,0,none⟩=some (.int .i64 K2):=chp HP2.out 0;have p1:w2.cell? ⟨w.heap.size+1,1,none⟩=some (.int .i64 D2):=chp HP2.out 1;have p2:w2.cell? ⟨w.heap.size+1,2,none⟩=some (.string ⟨U2.toArray⟩):=chp HP2.out 2;have yf:w2.cell? ⟨β,0,none⟩=some (addV a):=chp ((HB2.out.block β (Jah HX.out)).trans HX.out) 0;unfold addV at yf;clear hb2)
  | (go_at_call 225;refine(c1.out _).mono ?_;rintro e w1 ⟨rfl,hb1⟩;obtain⟨b1,b2,b3⟩:=JaL hb1;have HR1:Hid (w1.heap[w.heap.size]?=some (.cells #[.int .i64 K,.int .i64 D,.string ⟨U.toArray⟩] 50 (0,0))):=b1;have HP1:Hid (w1.heap[w.heap.size+1]?=some (.cells #[.int .i64 K2,.int .i64 D2,.string ⟨U2.toArray⟩] 50 (0,0))):=b2;have HB1:=hdz b3;have o0:w1.cell? ⟨w.heap.size,0,none⟩=some (.int .i64 K):=chp HR1.out 0;have o1:w1.cell? ⟨w.heap.size,1,none⟩=some (.int .i64 D):=chp HR1.out 1;have o2:w1.cell? ⟨w.heap.size,2,none⟩=some (.string ⟨U.toArray⟩):=chp HR1.out 2;have p0:w1.cell? ⟨w.heap.size+1,0,none⟩=some (.int .i64 K2):=chp HP1.out 0;have p1:w1.cell? ⟨w.heap.size+1,1,none⟩=some (.int .i64 D2):=chp HP1.out 1;have p2:w1.cell? ⟨w.heap.size+1,2,none⟩=some (.string ⟨U2.toArray⟩):=chp HP1.out 2;clear b1 b2 b3 hb1)
  | fail)
 go_end0;exact Jdw HB2.out (by omega) hg9 hb9
theorem Jnf(M a β:Nat)(s:NSt)(K D K2 D2:Int)(U U2:List UInt8)(w:World)(HG:Hid (gath M w a s))(hlt:a+3<w.heap.size)(HX:Hid (w.heap[β]?=some (.cells #[addV a] 342 (0,0))))(c1:Hid (∀wx,Calls Tryz.prog 225 #[.agg #[.int .i64 K2,.int .i64 D2,.string ⟨U2.toArray⟩]] wx fun e w'=>e=.returned (.bool false)/\Below wx.heap.size wx w'))(c2:Hid (∀wx,Calls Tryz.prog 225 #[.agg #[.int .i64 K,.int .i64 D,.string ⟨U.toArray⟩]] wx fun e w'=>e=.returned (.bool false)/\Below wx.heap.size wx w'))(c3:Hid (∀wx,Calls Tryz.prog 107 #[.agg #[.int .i64 K2,.int .i64 D2,.string ⟨U2.toArray⟩]] wx fun e w'=>e=.returned (.bool true)/\Below wx.heap.size wx w'))(cA:Hid (∀wx,Below w.heap.size w wx->Calls Tryz.prog 265 #[.agg #[.int .i64 K,.int .i64 D,.string ⟨U.toArray⟩],.pointer (some ⟨a+1,0,none⟩),.pointer (some ⟨a+2,0,none⟩),.pointer (some ⟨a+3,0,none⟩),.pointer (some ⟨a,0,none⟩)] wx fun e w'=>(∃v,e=.returned v)/\gath M w' a (addP s ⟨K,D,U⟩)/\BelowG M a wx w')) :
    Calls Tryz.prog 228 #[.agg #[.int .i64 K,.int .i64 D,.string ⟨U.toArray⟩],.agg #[.int .i64 K2,.int .i64 D2,.string ⟨U2.toArray⟩],.pointer (some ⟨β,0,none⟩)] w (Jcw M a s [⟨K,D,U⟩] w):=by
 have hz:(ByteArray.mk U2.toArray).size=U2.length:=by simp[ByteArray.size]
 go_enter Tryz.func228,Tryz.ntmps228
 go_wp2_with (first
  | (have _:=HB3;go_at_call 265;refine(cA.out _ HB3.out).mono ?_;rintro e w9 ⟨⟨v9,rfl⟩,hg9,hb9⟩)
  | (have _:=HB2;go_at_call 107;refine(c3.out _).mono ?_;rintro e w3 ⟨rfl,hb3⟩;have HR3:Hid (w3.heap[w.heap.size]?=some (.cells #[.int .i64 K,.int .i64 D,.string ⟨U.toArray⟩] 50 (0,0))):=(hb3.block _ (Jah HR2.out)).trans HR2.out;have HP3:Hid (w3.heap[w.heap.size+1]?=some (.cells #[.int .i64 K2,.int .i64 D2,.string ⟨U2.toArray⟩] 50 (0,0))):=(hb3.block _ (Jah HP2.out)).trans HP2.out;have HB3:=hdz (HB2.out.trans (hb3.mono HB2.out.size));have o0:w3.cell? ⟨w.heap.size,0,none⟩=some (.int .i64 K):=chp HR3.out 0;have o1:w3.cell? ⟨w.heap.size,1,none⟩=some (.int .i64 D):=chp HR3.out 1;have o2:w3.cell? ⟨w.heap.size,2,none⟩=some (.string ⟨U.toArray⟩):=chp HR3.out 2;have p0:w3.cell? ⟨w.heap.size+1,0,none⟩=some (.int .i64 K2):=chp HP3.out 0;have p1:w3.cell? ⟨w.heap.size+1,1,none⟩=some (.int .i64 D2):=chp HP3.out 1;have p2:w3.cell? ⟨w.heap.size+1,2,none⟩=some (.string ⟨U2.toArray⟩):=chp HP3.out 2;have yf:w3.cell? ⟨β,0,none⟩=some (addV a):=chp ((HB3.out.block β (Jah HX.out)).trans HX.out) 0;unfold addV at yf;clear hb3)
  | (have _:=HB1;go_at_call 225;refine(c2.out _).mono ?_;rintro e w2 ⟨rfl,hb2⟩;have HR2:Hid (w2.heap[w.heap.size]?=some (.cells #[.int .i64 K,.int .i64 D,.string ⟨U.toArray⟩] 50 (0,0))):=(hb2.block _ (Jah HR1.out)).trans HR1.out;have HP2:Hid (w2.heap[w.heap.size+1]?=some (.cells #[.int .i64 K2,.int .i64 D2,.string ⟨U2.toArray⟩] 50 (0,0))):=(hb2.block _ (Jah HP1.out)).trans HP1.out;have HB2:=hdz (HB1.out.trans (hb2.mono HB1.out.size));have o0:w2.cell? ⟨w.heap.size,0,none⟩=some (.int .i64 K):=chp HR2.out 0;have o1:w2.cell? ⟨w.heap.size,1,none⟩=some (.int .i64 D):=chp HR2.out 1;have o2:w2.cell? ⟨w.heap.size,2,none⟩=some (.string ⟨U.toArray⟩):=chp HR2.out 2;have p0:w2.cell? ⟨w.heap.size+1,0,none⟩=some (.int .i64 K2):=chp HP2.out 0;have p1:w2.cell? ⟨w.heap.size+1,1,none⟩=some (.int .i64 D2):=chp HP2.out 1;have p2:w2.cell? ⟨w.heap.size+1,2,none⟩=some (.string ⟨U2.toArray⟩):=chp HP2.out 2;clear hb2)
  | (go_at_call 225;refine(c1.out _).mono ?_;rintro e w1 ⟨rfl,hb1⟩;obtain⟨b1,b2,b3⟩:=JaL hb1;have HR1:Hid (w1.heap[w.heap.size]?=some (.cells #[.int .i64 K,.int .i64 D,.string ⟨U.toArray⟩] 50 (0,0))):=b1;have HP1:Hid (w1.heap[w.heap.size+1]?=some (.cells #[.int .i64 K2,.int .i64 D2,.string ⟨U2.toArray⟩] 50 (0,0))):=b2;have HB1:=hdz b3;have o0:w1.cell? ⟨w.heap.size,0,none⟩=some (.int .i64 K):=chp HR1.out 0;have o1:w1.cell? ⟨w.heap.size,1,none⟩=some (.int .i64 D):=chp HR1.out 1;have o2:w1.cell? ⟨w.heap.size,2,none⟩=some (.string ⟨U.toArray⟩):=chp HR1.out 2;have p0:w1.cell? ⟨w.heap.size+1,0,none⟩=some (.int .i64 K2):=chp HP1.out 0;have p1:w1.cell? ⟨w.heap.size+1,1,none⟩=some (.int .i64 D2):=chp HP1.out 1;have p2:w1.cell? ⟨w.heap.size+1,2,none⟩=some (.string ⟨U2.toArray⟩):=chp HP1.out 2;clear b1 b2 b3 hb1)
  | fail)
 go_end0;exact Jdw HB3.out (by omega) hg9 hb9
theorem Jos(M a β:Nat)(s:NSt)(K D K2 D2:Int)(U U2:List UInt8)(w:World)(HG:Hid (gath M w a s))(hlt:a+3<w.heap.size)(HX:Hid (w.heap[β]?=some (.cells #[addV a] 342 (0,0))))(c1:Hid (∀wx,Calls Tryz.prog 225 #[.agg #[.int .i64 K2,.int .i64 D2,.string ⟨U2.toArray⟩]] wx fun e w'=>e=.returned (.bool false)/\Below wx.heap.size wx w'))(c2:Hid (∀wx,Calls Tryz.prog 225 #[.agg #[.int .i64 K,.int .i64 D,.string ⟨U.toArray⟩]] wx fun e w'=>e=.returned (.bool false)/\Below wx.heap.size wx w'))(c3:Hid (∀wx,Calls Tryz.prog 107 #[.agg #[.int .i64 K2,.int .i64 D2,.string ⟨U2.toArray⟩]] wx fun e w'=>e=.returned (.bool false)/\Below wx.heap.size wx w')) :
    Calls Tryz.prog 228 #[.agg #[.int .i64 K,.int .i64 D,.string ⟨U.toArray⟩],.agg #[.int .i64 K2,.int .i64 D2,.string ⟨U2.toArray⟩],.pointer (some ⟨β,0,none⟩)] w (Jcw M a s [] w):=by
 have hz:(ByteArray.mk U2.toArray).size=U2.length:=by simp[ByteArray.size]
 go_enter Tryz.func228,Tryz.ntmps228
 go_wp2_with (first
  | (have _:=HB2;go_at_call 107;refine(c3.out _).mono ?_;rintro e w3 ⟨rfl,hb3⟩;have HR3:Hid (w3.heap[w.heap.size]?=some (.cells #[.int .i64 K,.int .i64 D,.string ⟨U.toArray⟩] 50 (0,0))):=(hb3.block _ (Jah HR2.out)).trans HR2.out;have HP3:Hid (w3.heap[w.heap.size+1]?=some (.cells #[.int .i64 K2,.int .i64 D2,.string ⟨U2.toArray⟩] 50 (0,0))):=(hb3.block _ (Jah HP2.out)).trans HP2.out;have HB3:=hdz (HB2.out.trans (hb3.mono HB2.out.size));have o0:w3.cell? ⟨w.heap.size,0,none⟩=some (.int .i64 K):=chp HR3.out 0;have o1:w3.cell? ⟨w.heap.size,1,none⟩=some (.int .i64 D):=chp HR3.out 1;have o2:w3.cell? ⟨w.heap.size,2,none⟩=some (.string ⟨U.toArray⟩):=chp HR3.out 2;have p0:w3.cell? ⟨w.heap.size+1,0,none⟩=some (.int .i64 K2):=chp HP3.out 0;have p1:w3.cell? ⟨w.heap.size+1,1,none⟩=some (.int .i64 D2):=chp HP3.out 1;have p2:w3.cell? ⟨w.heap.size+1,2,none⟩=some (.string ⟨U2.toArray⟩):=chp HP3.out 2;clear hb3)
  | (have _:=HB1;go_at_call 225;refine(c2.out _).mono ?_;rintro e w2 ⟨rfl,hb2⟩;have HR2:Hid (w2.heap[w.heap.size]?=some (.cells #[.int .i64 K,.int .i64 D,.string ⟨U.toArray⟩] 50 (0,0))):=(hb2.block _ (Jah HR1.out)).trans HR1.out;have HP2:Hid (w2.heap[w.heap.size+1]?=some (.cells #[.int .i64 K2,.int .i64 D2,.string ⟨U2.toArray⟩] 50 (0,0))):=(hb2.block _ (Jah HP1.out)).trans HP1.out;have HB2:=hdz (HB1.out.trans (hb2.mono HB1.out.size));have o0:w2.cell? ⟨w.heap.size,0,none⟩=some (.int .i64 K):=chp HR2.out 0;have o1:w2.cell? ⟨w.heap.size,1,none⟩=some (.int .i64 D):=chp HR2.out 1;have o2:w2.cell? ⟨w.heap.size,2,none⟩=some (.string ⟨U.toArray⟩):=chp HR2.out 2;have p0:w2.cell? ⟨w.heap.size+1,0,none⟩=some (.int .i64 K2):=chp HP2.out 0;have p1:w2.cell? ⟨w.heap.size+1,1,none⟩=some (.int .i64 D2):=chp HP2.out 1;have p2:w2.cell? ⟨w.heap.size+1,2,none⟩=some (.string ⟨U2.toArray⟩):=chp HP2.out 2;clear hb2)
  | (go_at_call 225;refine(c1.out _).mono ?_;rintro e w1 ⟨rfl,hb1⟩;obtain⟨b1,b2,b3⟩:=JaL hb1;have HR1:Hid (w1.heap[w.heap.size]?=some (.cells #[.int .i64 K,.int .i64 D,.string ⟨U.toArray⟩] 50 (0,0))):=b1;have HP1:Hid (w1.heap[w.heap.size+1]?=some (.cells #[.int .i64 K2,.int .i64 D2,.string ⟨U2.toArray⟩] 50 (0,0))):=b2;have HB1:=hdz b3;have o0:w1.cell? ⟨w.heap.size,0,none⟩=some (.int .i64 K):=chp HR1.out 0;have o1:w1.cell? ⟨w.heap.size,1,none⟩=some (.int .i64 D):=chp HR1.out 1;have o2:w1.cell? ⟨w.heap.size,2,none⟩=some (.string ⟨U.toArray⟩):=chp HR1.out 2;have p0:w1.cell? ⟨w.heap.size+1,0,none⟩=some (.int .i64 K2):=chp HP1.out 0;have p1:w1.cell? ⟨w.heap.size+1,1,none⟩=some (.int .i64 D2):=chp HP1.out 1;have p2:w1.cell? ⟨w.heap.size+1,2,none⟩=some (.string ⟨U2.toArray⟩):=chp HP1.out 2;clear b1 b2 b3 hb1)
  | fail)
 go_end0;exact⟨⟨_,rfl⟩,Jbw HG.out HB3.out,BelowG.of HB3.out (by omega)⟩
theorem JpJ(M a β:Nat)(s:NSt)(K D K2 D2:Int)(U U2:List UInt8)(w:World)(HG:Hid (gath M w a s))(hlt:a+3<w.heap.size)(HX:Hid (w.heap[β]?=some (.cells #[addV a] 342 (0,0))))(c1:Hid (∀wx,Calls Tryz.prog 211 #[.agg #[.int .i64 K,.int .i64 D,.string ⟨U.toArray⟩]] wx fun e w'=>e=.returned (.bool true)/\Below wx.heap.size wx w'))(cA:Hid (∀wx,Below w.heap.size w wx->Calls Tryz.prog 265 #[.agg #[.int .i64 K,.int .i64 D,.string ⟨U.toArray⟩],.pointer (some ⟨a+1,0,none⟩),.pointer (some ⟨a+2,0,none⟩),.pointer (some ⟨a+3,0,none⟩),.pointer (some ⟨a,0,none⟩)] wx fun e w'=>(∃v,e=.returned v)/\gath M w' a (addP s ⟨K,D,U⟩)/\BelowG M a wx w')) :
    Calls Tryz.prog 226 #[.agg #[.int .i64 K,.int .i64 D,.string ⟨U.toArray⟩],.agg #[.int .i64 K2,.int .i64 D2,.string ⟨U2.toArray⟩],.pointer (some ⟨β,0,none⟩)] w (Jcw M a s [⟨K,D,U⟩] w):=by
 have hz:(ByteArray.mk U2.toArray).size=U2.length:=by simp[ByteArray.size]
 go_enter Tryz.func226,Tryz.ntmps226
 go_wp2_with (first
  | (have _:=HB1;go_at_call 265;refine(cA.out _ HB1.out).mono ?_;rintro e w9 ⟨⟨v9,rfl⟩,hg9,hb9⟩)
  | (go_at_call 211;refine(c1.out _).mono ?_;rintro e w1 ⟨rfl,hb1⟩;obtain⟨b1,b2,b3⟩:=JaL hb1;have HR1:Hid (w1.heap[w.heap.size]?=some (.cells #[.int .i64 K,.int .i64 D,.string ⟨U.toArray⟩] 50 (0,0))):=b1;have HP1:Hid (w1.heap[w.heap.size+1]?=some (.cells #[.int .i64 K2,.int .i64 D2,.string ⟨U2.toArray⟩] 50 (0,0))):=b2;have HB1:=hdz b3;have o0:w1.cell? ⟨w.heap.size,0,none⟩=some (.int .i64 K):=chp HR1.out 0;have o1:w1.cell? ⟨w.heap.size,1,none⟩=some (.int .i64 D):=chp HR1.out 1;have o2:w1.cell? ⟨w.heap.size,2,none⟩=some (.string ⟨U.toArray⟩):=chp HR1.out 2;have p0:w1.cell? ⟨w.heap.size+1,0,none⟩=some (.int .i64 K2):=chp HP1.out 0;have p1:w1.cell? ⟨w.heap.size+1,1,none⟩=some (.int .i64 D2):=chp HP1.out 1;have p2:w1.cell? ⟨w.heap.size+1,2,none⟩=some (.string ⟨U2.toArray⟩):=chp HP1.out 2;have yf:w1.cell? ⟨β,0,none⟩=some (addV a):=chp ((HB1.out.block β (Jah HX.out)).trans HX.out) 0;unfold addV at yf;clear b1 b2 b3 hb1)
  | fail)
 go_end0;exact Jdw HB1.out (by omega) hg9 hb9
theorem JpI(M a β:Nat)(s:NSt)(K D K2 D2:Int)(U U2:List UInt8)(w:World)(HG:Hid (gath M w a s))(hlt:a+3<w.heap.size)(HX:Hid (w.heap[β]?=some (.cells #[addV a] 342 (0,0))))(c1:Hid (∀wx,Calls Tryz.prog 211 #[.agg #[.int .i64 K,.int .i64 D,.string ⟨U.toArray⟩]] wx fun e w'=>e=.returned (.bool false)/\Below wx.heap.size wx w'))(c2:Hid (∀wx,Calls Tryz.prog 107 #[.agg #[.int .i64 K2,.int .i64 D2,.string ⟨U2.toArray⟩]] wx fun e w'=>e=.returned (.bool true)/\Below wx.heap.size wx w'))(cA:Hid (∀wx,Below w.heap.size w wx->Calls Tryz.prog 265 #[.agg #[.int .i64 K,.int .i64 D,.string ⟨U.toArray⟩],.pointer (some ⟨a+1,0,none⟩),.pointer (some ⟨a+2,0,none⟩),.pointer (some ⟨a+3,0,none⟩),.pointer (some ⟨a,0,none⟩)] wx fun e w'=>(∃v,e=.returned v)/\gath M w' a (addP s ⟨K,D,U⟩)/\BelowG M a wx w')) :
    Calls Tryz.prog 226 #[.agg #[.int .i64 K,.int .i64 D,.string ⟨U.toArray⟩],.agg #[.int .i64 K2,.int .i64 D2,.string ⟨U2.toArray⟩],.pointer (some ⟨β,0,none⟩)] w (Jcw M a s [⟨K,D,U⟩] w):=by
 have hz:(ByteArray.mk U2.toArray).size=U2.length:=by simp[ByteArray.size]
 go_enter Tryz.func226,Tryz.ntmps226
 go_wp2_with (first
  | (have _:=HB2;go_at_call 265;refine(cA.out _ HB2.out).mono ?_;rintro e w9 ⟨⟨v9,rfl⟩,hg9,hb9⟩)
  | (have _:=HB1;go_at_call 107;refine(c2.out _).mono ?_;rintro e w2 ⟨rfl,hb2⟩;have HR2:Hid (w2.heap[w.heap.size]?=some (.cells #[.int .i64 K,.int .i64 D,.string ⟨U.toArray⟩] 50 (0,0))):=(hb2.block _ (Jah HR1.out)).trans HR1.out;have HP2:Hid (w2.heap[w.heap.size+1]?=some (.cells #[.int .i64 K2,.int .i64 D2,.string ⟨U2.toArray⟩] 50 (0,0))):=(hb2.block _ (Jah HP1.out)).trans HP1.out;have HB2:=hdz (HB1.out.trans (hb2.mono HB1.out.size));have o0:w2.cell? ⟨w.heap.size,0,none⟩=some (.int .i64 K):=chp HR2.out 0;have o1:w2.cell? ⟨w.heap.size,1,none⟩=some (.int .i64 D):=chp HR2.out 1;have o2:w2.cell? ⟨w.heap.size,2,none⟩=some (.string ⟨U.toArray⟩):=chp HR2.out 2;have p0:w2.cell? ⟨w.heap.size+1,0,none⟩=some (.int .i64 K2):=chp HP2.out 0;have p1:w2.cell? ⟨w.heap.size+1,1,none⟩=some (.int .i64 D2):=chp HP2.out 1;have p2:w2.cell? ⟨w.heap.size+1,2,none⟩=some (.string ⟨U2.toArray⟩):=chp HP2.out 2;have yf:w2.cell? ⟨β,0,none⟩=some (addV a):=chp ((HB2.out.block β (Jah HX.out)).trans HX.out) 0;unfold addV at yf;clear hb2)
  | (go_at_call 211;refine(c1.out _).mono ?_;rintro e w1 ⟨rfl,hb1⟩;obtain⟨b1,b2,b3⟩:=JaL hb1;have HR1:Hid (w1.heap[w.heap.size]?=some (.cells #[.int .i64 K,.int .i64 D,.string ⟨U.toArray⟩] 50 (0,0))):=b1;have HP1:Hid (w1.heap[w.heap.size+1]?=some (.cells #[.int .i64 K2,.int .i64 D2,.string ⟨U2.toArray⟩] 50 (0,0))):=b2;have HB1:=hdz b3;have o0:w1.cell? ⟨w.heap.size,0,none⟩=some (.int .i64 K):=chp HR1.out 0;have o1:w1.cell? ⟨w.heap.size,1,none⟩=some (.int .i64 D):=chp HR1.out 1;have o2:w1.cell? ⟨w.heap.size,2,none⟩=some (.string ⟨U.toArray⟩):=chp HR1.out 2;have p0:w1.cell? ⟨w.heap.size+1,0,none⟩=some (.int .i64 K2):=chp HP1.out 0;have p1:w1.cell? ⟨w.heap.size+1,1,none⟩=some (.int .i64 D2):=chp HP1.out 1;have p2:w1.cell? ⟨w.heap.size+1,2,none⟩=some (.string ⟨U2.toArray⟩):=chp HP1.out 2;clear b1 b2 b3 hb1)
  | fail)
 go_end0;exact Jdw HB2.out (by omega) hg9 hb9
theorem Jrr(M a β:Nat)(s:NSt)(K D K2 D2:Int)(U U2:List UInt8)(w:World)(HG:Hid (gath M w a s))(hlt:a+3<w.heap.size)(HX:Hid (w.heap[β]?=some (.cells #[addV a] 342 (0,0))))(c1:Hid (∀wx,Calls Tryz.prog 211 #[.agg #[.int .i64 K,.int .i64 D,.string ⟨U.toArray⟩]] wx fun e w'=>e=.returned (.bool false)/\Below wx.heap.size wx w'))(c2:Hid (∀wx,Calls Tryz.prog 107 #[.agg #[.int .i64 K2,.int .i64 D2,.string ⟨U2.toArray⟩]] wx fun e w'=>e=.returned (.bool false)/\Below wx.heap.size wx w'))(c3:Hid (∀wx,Calls Tryz.prog 225 #[.agg #[.int .i64 K2,.int .i64 D2,.string ⟨U2.toArray⟩]] wx fun e w'=>e=.returned (.bool true)/\Below wx.heap.size wx w'))(cA:Hid (∀wx,Below w.heap.size w wx->Calls Tryz.prog 265 #[.agg #[.int .i64 K2,.int .i64 D2,.string ⟨U2.toArray⟩],.pointer (some ⟨a+1,0,none⟩),.pointer (some ⟨a+2,0,none⟩),.pointer (some ⟨a+3,0,none⟩),.pointer (some ⟨a,0,none⟩)] wx fun e w'=>(∃v,e=.returned v)/\gath M w' a (addP s ⟨K2,D2,U2⟩)/\BelowG M a wx w')) :
    Calls Tryz.prog 226 #[.agg #[.int .i64 K,.int .i64 D,.string ⟨U.toArray⟩],.agg #[.int .i64 K2,.int .i64 D2,.string ⟨U2.toArray⟩],.pointer (some ⟨β,0,none⟩)] w (Jcw M a s [⟨K2,D2,U2⟩] w):=by
 have hz:(ByteArray.mk U2.toArray).size=U2.length:=by simp[ByteArray.size]
 go_enter Tryz.func226,Tryz.ntmps226
 go_wp2_with (first
  | (have _:=HB3;go_at_call 265;refine(cA.out _ HB3.out).mono ?_;rintro e w9 ⟨⟨v9,rfl⟩,hg9,hb9⟩)
  | (have _:=HB2;go_at_call 225;refine(c3.out _).mono ?_;rintro e w3 ⟨rfl,hb3⟩;have HR3:Hid (w3.heap[w.heap.size]?=some (.cells #[.int .i64 K,.int .i64 D,.string ⟨U.toArray⟩] 50 (0,0))):=(hb3.block _ (Jah HR2.out)).trans HR2.out;have HP3:Hid (w3.heap[w.heap.size+1]?=some (.cells #[.int .i64 K2,.int .i64 D2,.string ⟨U2.toArray⟩] 50 (0,0))):=(hb3.block _ (Jah HP2.out)).trans HP2.out;have HB3:=hdz (HB2.out.trans (hb3.mono HB2.out.size));have o0:w3.cell? ⟨w.heap.size,0,none⟩=some (.int .i64 K):=chp HR3.out 0;have o1:w3.cell? ⟨w.heap.size,1,none⟩=some (.int .i64 D):=chp HR3.out 1;have o2:w3.cell? ⟨w.heap.size,2,none⟩=some (.string ⟨U.toArray⟩):=chp HR3.out 2;have p0:w3.cell? ⟨w.heap.size+1,0,none⟩=some (.int .i64 K2):=chp HP3.out 0;have p1:w3.cell? ⟨w.heap.size+1,1,none⟩=some (.int .i64 D2):=chp HP3.out 1;have p2:w3.cell? ⟨w.heap.size+1,2,none⟩=some (.string ⟨U2.toArray⟩):=chp HP3.out 2;have yf:w3.cell? ⟨β,0,none⟩=some (addV a):=chp ((HB3.out.block β (Jah HX.out)).trans HX.out) 0;unfold addV at yf;clear hb3)
  | (have _:=HB1;go_at_call 107;refine(c2.out _).mono ?_;rintro e w2 ⟨rfl,hb2⟩;have HR2:Hid (w2.heap[w.heap.size]?=some (.cells #[.int .i64 K,.int .i64 D,.string ⟨U.toArray⟩] 50 (0,0))):=(hb2.block _ (Jah HR1.out)).trans HR1.out;have HP2:Hid (w2.heap[w.heap.size+1]?=some (.cells #[.int .i64 K2,.int .i64 D2,.string ⟨U2.toArray⟩] 50 (0,0))):=(hb2.block _ (Jah HP1.out)).trans HP1.out;have HB2:=hdz (HB1.out.trans (hb2.mono HB1.out.size));have o0:w2.cell? ⟨w.heap.size,0,none⟩=some (.int .i64 K):=chp HR2.out 0;have o1:w2.cell? ⟨w.heap.size,1,none⟩=some (.int .i64 D):=chp HR2.out 1;have o2:w2.cell? ⟨w.heap.size,2,none⟩=some (.string ⟨U.toArray⟩):=chp HR2.out 2;have p0:w2.cell? ⟨w.heap.size+1,0,none⟩=some (.int .i64 K2):=chp HP2.out 0;have p1:w2.cell? ⟨w.heap.size+1,1,none⟩=some (.int .i64 D2):=chp HP2.out 1;have p2:w2.cell? ⟨w.heap.size+1,2,none⟩=some (.string ⟨U2.toArray⟩):=chp HP2.out 2;clear hb2)
  | (go_at_call 211;refine(c1.out _).mono ?_;rintro e w1 ⟨rfl,hb1⟩;obtain⟨b1,b2,b3⟩:=JaL hb1;have HR1:Hid (w1.heap[w.heap.size]?=some (.cells #[.int .i64 K,.int .i64 D,.string ⟨U.toArray⟩] 50 (0,0))):=b1;have HP1:Hid (w1.heap[w.heap.size+1]?=some (.cells #[.int .i64 K2,.int .i64 D2,.string ⟨U2.toArray⟩] 50 (0,0))):=b2;have HB1:=hdz b3;have o0:w1.cell? ⟨w.heap.size,0,none⟩=some (.int .i64 K):=chp HR1.out 0;have o1:w1.cell? ⟨w.heap.size,1,none⟩=some (.int .i64 D):=chp HR1.out 1;have o2:w1.cell? ⟨w.heap.size,2,none⟩=some (.string ⟨U.toArray⟩):=chp HR1.out 2;have p0:w1.cell? ⟨w.heap.size+1,0,none⟩=some (.int .i64 K2):=chp HP1.out 0;have p1:w1.cell? ⟨w.heap.size+1,1,none⟩=some (.int .i64 D2):=chp HP1.out 1;have p2:w1.cell? ⟨w.heap.size+1,2,none⟩=some (.string ⟨U2.toArray⟩):=chp HP1.out 2;clear b1 b2 b3 hb1)
  | fail)
 go_end0;exact Jdw HB3.out (by omega) hg9 hb9
theorem Jrq(M a β:Nat)(s:NSt)(K D K2 D2:Int)(U U2:List UInt8)(w:World)(HG:Hid (gath M w a s))(hlt:a+3<w.heap.size)(HX:Hid (w.heap[β]?=some (.cells #[addV a] 342 (0,0))))(c1:Hid (∀wx,Calls Tryz.prog 211 #[.agg #[.int .i64 K,.int .i64 D,.string ⟨U.toArray⟩]] wx fun e w'=>e=.returned (.bool false)/\Below wx.heap.size wx w'))(c2:Hid (∀wx,Calls Tryz.prog 107 #[.agg #[.int .i64 K2,.int .i64 D2,.string ⟨U2.toArray⟩]] wx fun e w'=>e=.returned (.bool false)/\Below wx.heap.size wx w'))(c3:Hid (∀wx,Calls Tryz.prog 225 #[.agg #[.int .i64 K2,.int .i64 D2,.string ⟨U2.toArray⟩]] wx fun e w'=>e=.returned (.bool false)/\Below wx.heap.size wx w'))(c4:Hid (∀wx,Calls Tryz.prog 107 #[.agg #[.int .i64 K,.int .i64 D,.string ⟨U.toArray⟩]] wx fun e w'=>e=.returned (.bool true)/\Below wx.heap.size wx w'))(cA:Hid (∀wx,Below w.heap.size w wx->Calls Tryz.prog 265 #[.agg #[.int .i64 K2,.int .i64 D2,.string ⟨U2.toArray⟩],.pointer (some ⟨a+1,0,none⟩),.pointer (some ⟨a+2,0,none⟩),.pointer (some ⟨a+3,0,none⟩),.pointer (some ⟨a,0,none⟩)] wx fun e w'=>(∃v,e=.returned v)/\gath M w' a (addP s ⟨K2,D2,U2⟩)/\BelowG M a wx w')) :
    Calls Tryz.prog 226 #[.agg #[.int .i64 K,.int .i64 D,.string ⟨U.toArray⟩],.agg #[.int .i64 K2,.int .i64 D2,.string ⟨U2.toArray⟩],.pointer (some ⟨β,0,none⟩)] w (Jcw M a s [⟨K2,D2,U2⟩] w):=by
 have hz:(ByteArray.mk U2.toArray).size=U2.length:=by simp[ByteArray.size]
 go_enter Tryz.func226,Tryz.ntmps226
 go_wp2_with (first
  | (have _:=HB4;go_at_call 265;refine(cA.out _ HB4.out).mono ?_;rintro e w9 ⟨⟨v9,rfl⟩,hg9,hb9⟩)
  | (have _:=HB3;go_at_call 107;refine(c4.out _).mono ?_;rintro e w4 ⟨rfl,hb4⟩;have HR4:Hid (w4.heap[w.heap.size]?=some (.cells #[.int .i64 K,.int .i64 D,.string ⟨U.toArray⟩] 50 (0,0))):=(hb4.block _ (Jah HR3.out)).trans HR3.out;have HP4:Hid (w4.heap[w.heap.size+1]?=some (.cells #[.int .i64 K2,.int .i64 D2,.string ⟨U2.toArray⟩] 50 (0,0))):=(hb4.block _ (Jah HP3.out)).trans HP3.out;have HB4:=hdz (HB3.out.trans (hb4.mono HB3.out.size));have o0:w4.cell? ⟨w.heap.size,0,none⟩=some (.int .i64 K):=chp HR4.out 0;have o1:w4.cell? ⟨w.heap.size,1,none⟩=some (.int .i64 D):=chp HR4.out 1;have o2:w4.cell? ⟨w.heap.size,2,none⟩=some (.string ⟨U.toArray⟩):=chp HR4.out 2;have p0:w4.cell? ⟨w.heap.size+1,0,none⟩=some (.int .i64 K2):=chp HP4.out 0;have p1:w4.cell? ⟨w.heap.size+1,1,none⟩=some (.int .i64 D2):=chp HP4.out 1;have p2:w4.cell? ⟨w.heap.size+1,2,none⟩=some (.string ⟨U2.toArray⟩):=chp HP4.out 2;have yf:w4.cell? ⟨β,0,none⟩=some (addV a):=chp ((HB4.out.block β (Jah HX.out)).trans HX.out) 0;unfold addV at yf;clear hb4)
  | (have _:=HB2;go_at_call 225;refine(c3.out _).mono ?_;rintro e w3 ⟨rfl,hb3⟩;have HR3:Hid (w3.heap[w.heap.size]?=some (.cells #[.int .i64 K,.int .i64 D,.string ⟨U.toArray⟩] 50 (0,0))):=(hb3.block _ (Jah HR2.out)).trans HR2.out;have HP3:Hid (w3.heap[w.heap.size+1]?=some (.cells #[.int .i64 K2,.int .i64 D2,.string ⟨U2.toArray⟩] 50 (0,0))):=(hb3.block _ (Jah HP2.out)).trans HP2.out;have HB3:=hdz (HB2.out.trans (hb3.mono HB2.out.size));have o0:w3.cell? ⟨w.heap.size,0,none⟩=some (.int .i64 K):=chp HR3.out 0;have o1:w3.cell? ⟨w.heap.size,1,none⟩=some (.int .i64 D):=chp HR3.out 1;have o2:w3.cell? ⟨w.heap.size,2,none⟩=some (.string ⟨U.toArray⟩):=chp HR3.out 2;have p0:w3.cell? ⟨w.heap.size+1,0,none⟩=some (.int .i64 K2):=chp HP3.out 0;have p1:w3.cell? ⟨w.heap.size+1,1,none⟩=some (.int .i64 D2):=chp HP3.out 1;have p2:w3.cell? ⟨w.heap.size+1,2,none⟩=some (.string ⟨U2.toArray⟩):=chp HP3.out 2;clear hb3)
  | (have _:=HB1;go_at_call 107;refine(c2.out _).mono ?_;rintro e w2 ⟨rfl,hb2⟩;have HR2:Hid (w2.heap[w.heap.size]?=some (.cells #[.int .i64 K,.int .i64 D,.string ⟨U.toArray⟩] 50 (0,0))):=(hb2.block _ (Jah HR1.out)).trans HR1.out;have HP2:Hid (w2.heap[w.heap.size+1]?=some (.cells #[.int .i64 K2,.int .i64 D2,.string ⟨U2.toArray⟩] 50 (0,0))):=(hb2.block _ (Jah HP1.out)).trans HP1.out;have HB2:=hdz (HB1.out.trans (hb2.mono HB1.out.size));have o0:w2.cell? ⟨w.heap.size,0,none⟩=some (.int .i64 K):=chp HR2.out 0;have o1:w2.cell? ⟨w.heap.size,1,none⟩=some (.int .i64 D):=chp HR2.out 1;have o2:w2.cell? ⟨w.heap.size,2,none⟩=some (.string ⟨U.toArray⟩):=chp HR2.out 2;have p0:w2.cell? ⟨w.heap.size+1,0,none⟩=some (.int .i64 K2):=chp HP2.out 0;have p1:w2.cell? ⟨w.heap.size+1,1,none⟩=some (.int .i64 D2):=chp HP2.out 1;have p2:w2.cell? ⟨w.heap.size+1,2,none⟩=some (.string ⟨U2.toArray⟩):=chp HP2.out 2;clear hb2)
  | (go_at_call 211;refine(c1.out _).mono ?_;rintro e w1 ⟨rfl,hb1⟩;obtain⟨b1,b2,b3⟩:=JaL hb1;have HR1:Hid (w1.heap[w.heap.size]?=some (.cells #[.int .i64 K,.int .i64 D,.string ⟨U.toArray⟩] 50 (0,0))):=b1;have HP1:Hid (w1.heap[w.heap.size+1]?=some (.cells #[.int .i64 K2,.int .i64 D2,.string ⟨U2.toArray⟩] 50 (0,0))):=b2;have HB1:=hdz b3;have o0:w1.cell? ⟨w.heap.size,0,none⟩=some (.int .i64 K):=chp HR1.out 0;have o1:w1.cell? ⟨w.heap.size,1,none⟩=some (.int .i64 D):=chp HR1.out 1;have o2:w1.cell? ⟨w.heap.size,2,none⟩=some (.string ⟨U.toArray⟩):=chp HR1.out 2;have p0:w1.cell? ⟨w.heap.size+1,0,none⟩=some (.int .i64 K2):=chp HP1.out 0;have p1:w1.cell? ⟨w.heap.size+1,1,none⟩=some (.int .i64 D2):=chp HP1.out 1;have p2:w1.cell? ⟨w.heap.size+1,2,none⟩=some (.string ⟨U2.toArray⟩):=chp HP1.out 2;clear b1 b2 b3 hb1)
  | fail)
 go_end0;exact Jdw HB4.out (by omega) hg9 hb9
theorem JpH(M a β:Nat)(s:NSt)(K D K2 D2:Int)(U U2:List UInt8)(w:World)(HG:Hid (gath M w a s))(hlt:a+3<w.heap.size)(HX:Hid (w.heap[β]?=some (.cells #[addV a] 342 (0,0))))(c1:Hid (∀wx,Calls Tryz.prog 211 #[.agg #[.int .i64 K,.int .i64 D,.string ⟨U.toArray⟩]] wx fun e w'=>e=.returned (.bool false)/\Below wx.heap.size wx w'))(c2:Hid (∀wx,Calls Tryz.prog 107 #[.agg #[.int .i64 K2,.int .i64 D2,.string ⟨U2.toArray⟩]] wx fun e w'=>e=.returned (.bool false)/\Below wx.heap.size wx w'))(c3:Hid (∀wx,Calls Tryz.prog 225 #[.agg #[.int .i64 K2,.int .i64 D2,.string ⟨U2.toArray⟩]] wx fun e w'=>e=.returned (.bool false)/\Below wx.heap.size wx w'))(c4:Hid (∀wx,Calls Tryz.prog 107 #[.agg #[.int .i64 K,.int .i64 D,.string ⟨U.toArray⟩]] wx fun e w'=>e=.returned (.bool false)/\Below wx.heap.size wx w')) :
    Calls Tryz.prog 226 #[.agg #[.int .i64 K,.int .i64 D,.string ⟨U.toArray⟩],.agg #[.int .i64 K2,.int .i64 D2,.string ⟨U2.toArray⟩],.pointer (some ⟨β,0,none⟩)] w (Jcw M a s [] w):=by
 have hz:(ByteArray.mk U2.toArray).size=U2.length:=by simp[ByteArray.size]
 go_enter Tryz.func226,Tryz.ntmps226
 go_wp2_with (first
  | (have _:=HB3;go_at_call 107;refine(c4.out _).mono ?_;rintro e w4 ⟨rfl,hb4⟩;have HR4:Hid (w4.heap[w.heap.size]?=some (.cells #[.int .i64 K,.int .i64 D,.string ⟨U.toArray⟩] 50 (0,0))):=(hb4.block _ (Jah HR3.out)).trans HR3.out;have HP4:Hid (w4.heap[w.heap.size+1]?=some (.cells #[.int .i64 K2,.int .i64 D2,.string ⟨U2.toArray⟩] 50 (0,0))):=(hb4.block _ (Jah HP3.out)).trans HP3.out;have HB4:=hdz (HB3.out.trans (hb4.mono HB3.out.size));have o0:w4.cell? ⟨w.heap.size,0,none⟩=some (.int .i64 K):=chp HR4.out 0;have o1:w4.cell? ⟨w.heap.size,1,none⟩=some (.int .i64 D):=chp HR4.out 1;have o2:w4.cell? ⟨w.heap.size,2,none⟩=some (.string ⟨U.toArray⟩):=chp HR4.out 2;have p0:w4.cell? ⟨w.heap.size+1,0,none⟩=some (.int .i64 K2):=chp HP4.out 0;have p1:w4.cell? ⟨w.heap.size+1,1,none⟩=some (.int .i64 D2):=chp HP4.out 1;have p2:w4.cell? ⟨w.heap.size+1,2,none⟩=some (.string ⟨U2.toArray⟩):=chp HP4.out 2;clear hb4)
  | (have _:=HB2;go_at_call 225;refine(c3.out _).mono ?_;rintro e w3 ⟨rfl,hb3⟩;have HR3:Hid (w3.heap[w.heap.size]?=some (.cells #[.int .i64 K,.int .i64 D,.string ⟨U.toArray⟩] 50 (0,0))):=(hb3.block _ (Jah HR2.out)).trans HR2.out;have HP3:Hid (w3.heap[w.heap.size+1]?=some (.cells #[.int .i64 K2,.int .i64 D2,.string ⟨U2.toArray⟩] 50 (0,0))):=(hb3.block _ (Jah HP2.out)).trans HP2.out;have HB3:=hdz (HB2.out.trans (hb3.mono HB2.out.size));have o0:w3.cell? ⟨w.heap.size,0,none⟩=some (.int .i64 K):=chp HR3.out 0;have o1:w3.cell? ⟨w.heap.size,1,none⟩=some (.int .i64 D):=chp HR3.out 1;have o2:w3.cell? ⟨w.heap.size,2,none⟩=some (.string ⟨U.toArray⟩):=chp HR3.out 2;have p0:w3.cell? ⟨w.heap.size+1,0,none⟩=some (.int .i64 K2):=chp HP3.out 0;have p1:w3.cell? ⟨w.heap.size+1,1,none⟩=some (.int .i64 D2):=chp HP3.out 1;have p2:w3.cell? ⟨w.heap.size+1,2,none⟩=some (.string ⟨U2.toArray⟩):=chp HP3.out 2;clear hb3)
  | (have _:=HB1;go_at_call 107;refine(c2.out _).mono ?_;rintro e w2 ⟨rfl,hb2⟩;have HR2:Hid (w2.heap[w.heap.size]?=some (.cells #[.int .i64 K,.int .i64 D,.string ⟨U.toArray⟩] 50 (0,0))):=(hb2.block _ (Jah HR1.out)).trans HR1.out;have HP2:Hid (w2.heap[w.heap.size+1]?=some (.cells #[.int .i64 K2,.int .i64 D2,.string ⟨U2.toArray⟩] 50 (0,0))):=(hb2.block _ (Jah HP1.out)).trans HP1.out;have HB2:=hdz (HB1.out.trans (hb2.mono HB1.out.size));have o0:w2.cell? ⟨w.heap.size,0,none⟩=some (.int .i64 K):=chp HR2.out 0;have o1:w2.cell? ⟨w.heap.size,1,none⟩=some (.int .i64 D):=chp HR2.out 1;have o2:w2.cell? ⟨w.heap.size,2,none⟩=some (.string ⟨U.toArray⟩):=chp HR2.out 2;have p0:w2.cell? ⟨w.heap.size+1,0,none⟩=some (.int .i64 K2):=chp HP2.out 0;have p1:w2.cell? ⟨w.heap.size+1,1,none⟩=some (.int .i64 D2):=chp HP2.out 1;have p2:w2.cell? ⟨w.heap.size+1,2,none⟩=some (.string ⟨U2.toArray⟩):=chp HP2.out 2;clear hb2)
  | (go_at_call 211;refine(c1.out _).mono ?_;rintro e w1 ⟨rfl,hb1⟩;obtain⟨b1,b2,b3⟩:=JaL hb1;have HR1:Hid (w1.heap[w.heap.size]?=some (.cells #[.int .i64 K,.int .i64 D,.string ⟨U.toArray⟩] 50 (0,0))):=b1;have HP1:Hid (w1.heap[w.heap.size+1]?=some (.cells #[.int .i64 K2,.int .i64 D2,.string ⟨U2.toArray⟩] 50 (0,0))):=b2;have HB1:=hdz b3;have o0:w1.cell? ⟨w.heap.size,0,none⟩=some (.int .i64 K):=chp HR1.out 0;have o1:w1.cell? ⟨w.heap.size,1,none⟩=some (.int .i64 D):=chp HR1.out 1;have o2:w1.cell? ⟨w.heap.size,2,none⟩=some (.string ⟨U.toArray⟩):=chp HR1.out 2;have p0:w1.cell? ⟨w.heap.size+1,0,none⟩=some (.int .i64 K2):=chp HP1.out 0;have p1:w1.cell? ⟨w.heap.size+1,1,none⟩=some (.int .i64 D2):=chp HP1.out 1;have p2:w1.cell? ⟨w.heap.size+1,2,none⟩=some (.string ⟨U2.toArray⟩):=chp HP1.out 2;clear b1 b2 b3 hb1)
  | fail)
 go_end0;exact⟨⟨_,rfl⟩,Jbw HG.out HB4.out,BelowG.of HB4.out (by omega)⟩
theorem Jkc(M a:Nat)(s:NSt)(l:List Pt)(w:World)(hg:gath M w a s){T:Int}{n:Nat}(hB:Bd s T n)(hS:∀p∈l,JbA p)(hT:T+wts l<1000000000)(hn:n<10000000)(p:Pt)(hp:p∈l)(wx:World)(hb:Below w.heap.size w wx) :
    Calls Tryz.prog 265 #[Jay p,.pointer (some ⟨a+1,0,none⟩),.pointer (some ⟨a+2,0,none⟩),.pointer (some ⟨a+3,0,none⟩),.pointer (some ⟨a,0,none⟩)] wx fun e w'=>(∃v,e=.returned v)/\gath M w' a (addP s p)/\BelowG M a wx w':=by
 refine add_bd a s p wx (Jbw hg hb) hB (hS p hp) ?_ hn;have h1:wtP p<=wts l:=by
  obtain⟨l1,l2,rfl⟩:=List.append_of_mem hp;have h2:=JeI (ps:=l1) fun q hq=>hS q (by simp[hq])
  have h3:=JeI (ps:=l2) fun q hq=>hS q (by simp[hq])
  unfold wts at h2 h3 ⊢;simp only[List.map_append,List.sum_append,List.map_cons,List.sum_cons];omega
 omega
theorem Jkb(M a β:Nat)(s:NSt)(one other:Pt)(w:World)(hg:gath M w a s)(hx:w.heap[β]?=some (.cells #[addV a] 342 (0,0))){T:Int}{n:Nat}(hB:Bd s T n)(hS:∀p∈Jbl (one,other),JbA p)(hT:T+wts (Jbl (one,other))<1000000000)(hn:n<10000000) :
    Calls Tryz.prog 228 #[Jay one,Jay other,.pointer (some ⟨β,0,none⟩)] w (Jcw M a s (Jbl (one,other)) w):=by
 have cA:=Jkc M a s _ w hg hB hS hT hn;have cO:=Jbu other;have cP:=Jbu one;have cK:=JbX other;have hlt:=Jb4 hg;obtain⟨K,D,U⟩:=one;obtain⟨K2,D2,U2⟩:=other
 by_cases h1:U2≠[]
 . have ht:Jbl (⟨K,D,U⟩,⟨K2,D2,U2⟩)=[⟨U2.length,0,[]⟩]:=by unfold Jbl;rw[if_pos (by simp[Jaa,h1])]
   rw[show decide ((⟨K2,D2,U2⟩:Pt).put≠[])=true from decide_eq_true h1]at cO;rw[ht]at cA ⊢;exact Jqn M a β s K D K2 D2 U U2 w hg hlt hx cO (cA _ (List.mem_singleton.2 rfl))
 . rw [show decide ((⟨K2,D2,U2⟩:Pt).put≠[])=false from decide_eq_false h1]at cO
   by_cases h2:U≠[]
   . have ht:Jbl (⟨K,D,U⟩,⟨K2,D2,U2⟩)=[⟨K,D,U⟩]:=by unfold Jbl;rw[if_neg (by simpa[Jaa] using h1),if_pos (by simp[Jaa,h2])]
     rw[show decide ((⟨K,D,U⟩:Pt).put≠[])=true from decide_eq_true h2]at cP;rw[ht]at cA ⊢;exact Jqm M a β s K D K2 D2 U U2 w hg hlt hx cO cP (cA _ (List.mem_singleton.2 rfl))
   . rw [show decide ((⟨K,D,U⟩:Pt).put≠[])=false from decide_eq_false h2]at cP
     by_cases h3:0<K2
     . have ht:Jbl (⟨K,D,U⟩,⟨K2,D2,U2⟩)=[⟨K,D,U⟩]:=by unfold Jbl;rw[if_neg (by simpa[Jaa] using h1),if_pos (by simp[JbG,h3])]
       rw[show decide (0<(⟨K2,D2,U2⟩:Pt).keep)=true from decide_eq_true h3]at cK;rw[ht]at cA ⊢;exact Jnf M a β s K D K2 D2 U U2 w hg hlt hx cO cP cK (cA _ (List.mem_singleton.2 rfl))
     . have ht:Jbl (⟨K,D,U⟩,⟨K2,D2,U2⟩)=[]:=by
         unfold Jbl;rw[if_neg (by simpa[Jaa] using h1),if_neg];simp only[Jaa,JbG,Bool.or_eq_true,decide_eq_true_eq,not_or];exact⟨h2,h3⟩
       rw[show decide (0<(⟨K2,D2,U2⟩:Pt).keep)=false from decide_eq_false h3]at cK;rw[ht];exact Jos M a β s K D K2 D2 U U2 w hg hlt hx cO cP cK
theorem Jru(M a β:Nat)(s:NSt)(one two:Pt)(w:World)(hg:gath M w a s)(hx:w.heap[β]?=some (.cells #[addV a] 342 (0,0))){T:Int}{n:Nat}(hB:Bd s T n)(hS:∀p∈JbI (one,two),JbA p)(hT:T+wts (JbI (one,two))<1000000000)(hn:n<10000000) :
    Calls Tryz.prog 226 #[Jay one,Jay two,.pointer (some ⟨β,0,none⟩)] w (Jcw M a s (JbI (one,two)) w):=by
 have cA:=Jkc M a s _ w hg hB hS hT hn;have c1:=JcA one;have c2:=JbX two;have c3:=Jbu two;have c4:=JbX one;have hlt:=Jb4 hg;obtain⟨K,D,U⟩:=one;obtain⟨K2,D2,U2⟩:=two
 by_cases h1:0<D
 . have ht:JbI (⟨K,D,U⟩,⟨K2,D2,U2⟩)=[⟨K,D,U⟩]:=by unfold JbI;rw[if_pos (by simp[JaE,h1])]
   rw[show decide (0<(⟨K,D,U⟩:Pt).drop)=true from decide_eq_true h1]at c1;rw[ht]at cA ⊢;exact JpJ M a β s K D K2 D2 U U2 w hg hlt hx c1 (cA _ (List.mem_singleton.2 rfl))
 . rw [show decide (0<(⟨K,D,U⟩:Pt).drop)=false from decide_eq_false h1]at c1
   by_cases h2:0<K2
   . have ht:JbI (⟨K,D,U⟩,⟨K2,D2,U2⟩)=[⟨K,D,U⟩]:=by unfold JbI;rw[if_pos (by simp[JbG,h2])]
     rw[show decide (0<(⟨K2,D2,U2⟩:Pt).keep)=true from decide_eq_true h2]at c2;rw[ht]at cA ⊢;exact JpI M a β s K D K2 D2 U U2 w hg hlt hx c1 c2 (cA _ (List.mem_singleton.2 rfl))
   . rw [show decide (0<(⟨K2,D2,U2⟩:Pt).keep)=false from decide_eq_false h2]at c2
     have hf:¬((JaE (⟨K,D,U⟩:Pt) || JbG (⟨K2,D2,U2⟩:Pt))=true):=by
      simp only[JaE,JbG,Bool.or_eq_true,decide_eq_true_eq,not_or];exact⟨h1,h2⟩
     by_cases h3:U2≠[]
     . have ht:JbI (⟨K,D,U⟩,⟨K2,D2,U2⟩)=[⟨K2,D2,U2⟩]:=by unfold JbI;rw[if_neg hf,if_pos (by simp[Jaa,h3])]
       rw[show decide ((⟨K2,D2,U2⟩:Pt).put≠[])=true from decide_eq_true h3]at c3;rw[ht]at cA ⊢;exact Jrr M a β s K D K2 D2 U U2 w hg hlt hx c1 c2 c3 (cA _ (List.mem_singleton.2 rfl))
     . rw [show decide ((⟨K2,D2,U2⟩:Pt).put≠[])=false from decide_eq_false h3]at c3
       by_cases h4:0<K
       . have ht:JbI (⟨K,D,U⟩,⟨K2,D2,U2⟩)=[⟨K2,D2,U2⟩]:=by unfold JbI;rw[if_neg hf,if_pos (by simp[JbG,h4])]
         rw[show decide (0<(⟨K,D,U⟩:Pt).keep)=true from decide_eq_true h4]at c4;rw[ht]at cA ⊢;exact Jrq M a β s K D K2 D2 U U2 w hg hlt hx c1 c2 c3 c4 (cA _ (List.mem_singleton.2 rfl))
       . have ht:JbI (⟨K,D,U⟩,⟨K2,D2,U2⟩)=[]:=by
           unfold JbI;rw[if_neg hf,if_neg];simp only[Jaa,JbG,Bool.or_eq_true,decide_eq_true_eq,not_or];exact⟨h3,h4⟩
         rw[show decide (0<(⟨K,D,U⟩:Pt).keep)=false from decide_eq_false h4]at c4;rw[ht];exact JpH M a β s K D K2 D2 U U2 w hg hlt hx c1 c2 c3 c4
variable {M a g1 g2 g n : Nat}{bx : List (Nat × Obj)}{w W W' w' : World}{v1 v2 : Value}{A B : List Pt}{s : NSt}{T : Int}{t : Pt × Pt → List Pt}{x : Pt × Pt}{l : List (Pt × Pt)}
theorem Jou(M a β β2:Nat)(s:NSt)(other one:Pt)(w:World)(hg:gath M w a s)(hx:w.heap[β]?=some (.cells #[addV a] 342 (0,0)))(hx2:w.heap[β2]?=some (.cells #[.func (.func 228) #[] #[.pointer (some ⟨β,0,none⟩)]] 347 (0,0))){T:Int}{n:Nat}(hB:Bd s T n)(hS:∀p∈Jbl (one,other),JbA p)(hT:T+wts (Jbl (one,other))<1000000000)(hn:n<10000000) :
    Calls Tryz.prog 229 #[Jay other,Jay one,.pointer (some ⟨β2,0,none⟩)] w (Jcw M a s (Jbl (one,other)) w):=by
 have hlt:=Jb4 hg;have hlt2:=Jah hx2;have cT:Hid (∀wx,Below w.heap.size w wx->Calls Tryz.prog 228 #[Jay one,Jay other,.pointer (some ⟨β,0,none⟩)] wx (Jcw M a s (Jbl (one,other)) wx)):=fun wx hb =>
  Jkb M a β s one other wx (Jbw hg hb) ((hb.block β (Jah hx)).trans hx) hB hS hT hn
 obtain⟨K,D,U⟩:=one;obtain⟨K2,D2,U2⟩:=other;have y2:w.cell? ⟨β2,0,none⟩=some (.func (.func 228) #[] #[.pointer (some ⟨β,0,none⟩)]):=chp hx2 0;generalize Jbl (⟨K,D,U⟩,⟨K2,D2,U2⟩)=L at *;unfold Jay at cT ⊢;clear hg hx hx2 hB hS hT
 go_enter Tryz.func229,Tryz.ntmps229
 have hW:Below w.heap.size w ((w.alloc (.cells #[.int .i64 K2,.int .i64 D2,.string ⟨U2.toArray⟩] 50)).alloc (.cells #[.int .i64 K,.int .i64 D,.string ⟨U.toArray⟩] 50)):=((brf _ w).alloc (nlr _) _).alloc (by rw[wsa];omega) _;have HW:=hdz hW;clear hW
 go_wp2_with (first
  | (go_at_call 228;refine(cT.out _ HW.out).mono ?_;rintro e w1 ⟨⟨v1,rfl⟩,hg1,hb1⟩)
  | fail)
 go_end0;exact⟨⟨_,rfl⟩,hg1,(BelowG.of HW.out (by omega)).trans hb1⟩
inductive Side (la lb:Pt->Bool):List Pt->List Pt->List (Pt×Pt)->Prop
 | nil:Side la lb [] [] []
 | left {p:Pt} {a b:List Pt} {l:List (Pt×Pt)}:la p=true->Side la lb a b l->Side la lb (p :: a) b ((p,noP) :: l)
 | last {q:Pt} {b:List Pt} {l:List (Pt×Pt)}:lb q=true->Side la lb [] b l->Side la lb [] (q :: b) ((noP,q) :: l)
 | right {p q:Pt} {a b:List Pt} {l:List (Pt×Pt)}:la p=false->lb q=true->Side la lb (p :: a) b l->Side la lb (p :: a) (q :: b) ((noP,q) :: l)
 | both {p q:Pt} {a b:List Pt} {l:List (Pt×Pt)} (n:Nat):la p=false->lb q=false->oneP p->oneP q->0<n->min (Jac p) (Jac q)=n->Jac p<1000000000->Jac q<1000000000 ->
     Side la lb ((cutP p n).2++a) ((cutP q n).2++b) l->Side la lb (p :: a) (q :: b) (((cutP p n).1,(cutP q n).1) :: l)
def Jdb (L:List (Nat×Obj)) (w:World):Prop:=∀x∈L,w.heap[x.1]?=some x.2
def JdD (a g1 g2:Nat) (L:List (Nat×Obj)):Prop:=∀x∈L,a+4<=x.1/\x.1≠g1/\x.1≠g2/\(∀c fz,x.2≠.cells c 5 fz)/\∀c fz,x.2≠.cells c 50 fz
structure sideI (M a g1 g2:Nat) (bx:List (Nat×Obj)) (w:World) (v1 v2:Value) (A B:List Pt) (s:NSt) (W:World):Prop where
 below:Below a w W
 g:gath M W a s
 r1:winP W g1 v1 A
 r2:winP W g2 v2 B
 b:Jdb bx W
theorem sideI.grow(h:sideI M a g1 g2 bx w v1 v2 A B s W)(hb:Below W.heap.size W W'):sideI M a g1 g2 bx w v1 v2 A B s W' :=
 ⟨h.below.trans (hb.mono (by have:=Jb4 h.g;omega)),Jbw h.g hb,JfS h.r1 hb,JfS h.r2 hb,fun x hx=>(hb.block _ (Jah (h.b x hx))).trans (h.b x hx)⟩
theorem Jre(h:gath M w a s)(hb:ButO g w w')(h1:a+4<=g)(h2:g<M):gath M w' a s:=by
 have hM:=h.le;have hT:=h.top;have hlt:=Jb4 h;have hbl:=hb.below h1 (by omega);have own:∀{e size n:Nat} {v:Value} {xs:List Value},w.ownsRow M e size v n xs->w'.ownsRow M e size v n xs:=by
  intro e size n v xs h;obtain⟨h0,hrow⟩:=h;refine⟨h0,?_⟩
  rcases hrow with hx|⟨g',cap,cur,rfl,hg,hgg,rest⟩
  . exact .inl hx
  . exact .inr ⟨g',cap,cur,rfl,hg,(hb.block g' (Jah hgg) (by omega)).trans hgg,rest⟩
 obtain⟨⟨p,c,h1,h2⟩,h3,⟨p',c',h4,h5⟩,h6,h7,h8,h9⟩:=h
 exact ⟨⟨p,c,(hbl.cell (p:=⟨a,0,none⟩) (by show a<a+4;omega)).trans h1,own h2⟩,(hbl.frozen (p:=⟨a,0,none⟩) (by show a<a+4;omega)).trans h3,
  ⟨p',c',(hbl.cell (p:=⟨a+1,0,none⟩) (by show a+1<a+4;omega)).trans h4,own h5⟩,(hbl.frozen (p:=⟨a+1,0,none⟩) (by show a+1<a+4;omega)).trans h6,
  (hbl.cell (p:=⟨a+2,0,none⟩) (by show a+2<a+4;omega)).trans h7,(hbl.frozen (p:=⟨a+2,0,none⟩) (by show a+2<a+4;omega)).trans h8,(hbl.cell (p:=⟨a+3,0,none⟩) (by show a+3<a+4;omega)).trans h9,hM,Nat.le_trans hT hb.size⟩
theorem sideI.cut2{v2':Value}{B':List Pt}(h:sideI M a g1 g2 bx w v1 v2 A B s W)(hb:ButO g2 W W')(ho:JdD a g1 g2 bx)(h1:a+4<=g2)(h2:g2<M)(hne:g1≠g2)(hr:winP W' g2 v2' B'):sideI M a g1 g2 bx w v1 v2' A B' s W' :=
 ⟨h.below.trans (hb.below (by omega) (by have:=Jb4 h.g;omega)),Jre h.g hb h1 h2,JgK h.r1 hb hne,hr,fun x hx=>(hb.block _ (Jah (h.b x hx)) (ho x hx).2.2.1).trans (h.b x hx)⟩
theorem JrD{v:Value}{ps:List Pt}(h:winP w g v ps)(hb:BelowG M a w w')(h1:a+4<=g)(h2:g<M):winP w' g v ps:=by
 refine Jbd h hb.size fun hg=>?_
 obtain⟨o,ho⟩:∃o,w.heap[g]?=some o:=⟨_,Array.getElem?_eq_getElem hg⟩;rw[ho];exact hb.kept g o ho (by omega) (by omega) (by omega) (fun _ _ hM=>absurd hM (by omega)) (fun _ _ hM=>absurd hM (by omega))
theorem sideI.took{s':NSt}(h:sideI M a g1 g2 bx w v1 v2 A B s W)(hb:BelowG M a W W')(hg:gath M W' a s')(ho:JdD a g1 g2 bx)(h1:a+4<=g1)(h2:g1<M)(h3:a+4<=g2)(h4:g2<M):sideI M a g1 g2 bx w v1 v2 A B s' W' :=
 ⟨h.below.trans hb.below,hg,JrD h.r1 hb h1 h2,JrD h.r2 hb h3 h4,fun x hx=>by
  obtain⟨o1,_,_,o2,o3⟩:=ho x hx;exact hb.kept _ _ (h.b x hx) (by omega) (by omega) (by omega) (fun c fz _=>o2 c fz) (fun c fz _=>o3 c fz)⟩
structure BdS (t:Pt×Pt->List Pt) (l:List (Pt×Pt)) (s:NSt) (T:Int) (n:Nat):Prop where
 bd:Bd s T n
 w:T+wts (l.flatMap t)<1000000000
 n:n+l.length<10000000
 sound:∀x∈l,∀p∈t x,JbA p
 one:∀x∈l,(t x).length<=1
theorem Bd.more(h:Bd s T n):Bd s T (n+1):=⟨h.put,h.d0,h.dT,h.keep,by have:=h.len;omega⟩
theorem BdS.head(h:BdS t (x :: l) s T n):(∀p∈t x,JbA p)/\T+wts (t x)<1000000000/\n<10000000:=by
 refine⟨h.sound x (by simp),?_,by have:=h.n;simp at this;omega⟩;have h1:=h.w;have h2:0<=wts (l.flatMap t):=JeI fun p hp=>by
  obtain⟨y,hy,hp⟩:=List.mem_flatMap.1 hp;exact h.sound y (by simp[hy]) p hp
 rw[List.flatMap_cons]at h1;unfold wts at h1 h2 ⊢;rw[List.map_append,List.sum_append]at h1;omega
theorem BdS.tail(h:BdS t (x :: l) s T n):BdS t l ((t x).foldl addP s) (T+wts (t x)) (n+1):=by
 refine⟨?_,?_,by have:=h.n;simp at this;omega,fun y hy=>h.sound y (by simp[hy]),fun y hy=>h.one y (by simp[hy])⟩
 . have h1:=h.one x (by simp)
   have h2:=h.sound x (by simp);generalize t x=L at *
   match L,h1 with
   | [],_=>simpa[wts] using h.bd.more
   | [p],_ =>
    have:=h.bd.add p (h2 p (by simp));simpa[wts] using this
 . have h1:=h.w
   rw[List.flatMap_cons]at h1;unfold wts at h1 ⊢;rw[List.map_append,List.sum_append]at h1;omega
end
section
variable {p : Pt}
abbrev Cel:=Int×UInt8
def putC (u:List UInt8):List Cel:=u.map fun c=>(-1,c)
def JdF (at':Int):Nat->List Cel
 | 0=>[]
 | k+1=>(at',0) :: JdF (at'+1) k
def midP (at':Int):List Pt->List Cel
 | []=>[]
 | p :: ps=>JdF at' p.keep.toNat++(putC p.put++midP (at'+p.keep+p.drop) ps)
theorem JlB(u v:List UInt8):putC (u++v)=putC u++putC v:=by simp[putC]
theorem JeA:∀(a b:Nat)(i:Int),JdF i (a+b)=JdF i a++JdF (i+a) b
 | 0,b,i=>by simp[JdF]
 | a+1,b,i=>by
  rw[show a+1+b=(a+b)+1 by omega,JdF,JdF,JeA a b];simp only[List.cons_append]
  congr 3
  omega
theorem Jk5(h:oneP p):(∃u,u≠[]/\p=⟨0,0,u⟩)\/(∃n:Nat,p=⟨(n:Int)+1,0,[]⟩)\/∃n:Nat,p=⟨0,(n:Int)+1,[]⟩:=by
 rcases Jbn h with h|⟨d,n,rfl⟩
 . exact .inl h
 . cases d with
   | true=>exact .inr (.inr ⟨n,rfl⟩)
   | false=>exact .inr (.inl ⟨n,rfl⟩)
theorem Jh0(u:List UInt8):Jac ⟨0,0,u⟩=(u.length:Int):=by simp[Jac]
theorem JkN(h:oneP p){n:Nat}(h0:0<n)(hn:(n:Int)<=Jac p)(ps:List Pt):Jai (p :: ps)=n+Jai ((cutP p n).2++ps)/\(p.put=[]->Jar (p :: ps)=n+Jar ((cutP p n).2++ps))/\(p.put≠[]->Jar (p :: ps)=Jar ((cutP p n).2++ps)):=by
 rw[Ja7,Jbe];have hL:∀l,Jar (l++ps)=Jar l+Jar ps:=fun l=>Jcj l ps
 have hL1:Jar (p :: ps)=lenP p+Jar ps:=by simp[Jar]
 rw[hL,hL1];obtain⟨c1,c2,c3,c4⟩:=Jgl h (n:=n) (by omega) hn;have hlen:Jac p=lenP p+p.put.length:=rfl
 by_cases e:Jac p=n
 . have e2:=c4.2 e
   rw[e2];refine⟨by simp[Jai];omega,fun hp=>?_,fun hp=>?_⟩
   . rw[hp]at hlen;simp only[Jar,List.map_nil,List.sum_nil];simp at hlen;omega
   . have:lenP p=0:=by rcases h with ⟨h1,h2,h3⟩|⟨h1,h2,h3⟩|⟨h1,h2,h3⟩<;>simp_all [lenP]
     simp only[Jar,List.map_nil,List.sum_nil];omega
 . have hne:(cutP p n).2≠[]:=fun h=>e (c4.1 h)
   have h1:∃q,(cutP p n).2=[q]/\q.put.length=(p.put.length - if p.put=[] then 0 else n):=by
    unfold cutP;rw[if_neg e]
    rcases h with ⟨h1,h2,h3⟩|⟨h1,h2,h3⟩|⟨h1,h2,h3⟩
    . rw[if_pos h1];exact⟨_,rfl,by simp[h3]⟩
    . rw[if_neg (by omega),if_pos h2];exact⟨_,rfl,by simp[h3]⟩
    . rw[if_neg (by omega),if_neg (by omega)];exact⟨_,rfl,by simp[h3]⟩
   obtain⟨q,hq,hq2⟩:=h1;obtain⟨d1,d2⟩:=c3 q (by rw[hq];simp);rw[hq];have hlq:Jac q=lenP q+q.put.length:=rfl;refine⟨by simp[Jai];omega,fun hp=>?_,fun hp=>?_⟩
   . rw[if_pos hp,hp]at hq2
     rw[hp]at hlen;simp only[List.length_nil]at hlen hq2;simp only[Jar,List.map_cons,List.map_nil,List.sum_cons,List.sum_nil];omega
   . rw[if_neg hp]at hq2
     have:lenP p=0:=by rcases h with ⟨h1,h2,h3⟩|⟨h1,h2,h3⟩|⟨h1,h2,h3⟩<;>simp_all [lenP]
     simp only[Jar,List.map_cons,List.map_nil,List.sum_cons,List.sum_nil];omega
end
section
structure ActP {X:Type} (act:X->Pt->X):Prop where
 none:∀x,act x ⟨0,0,[]⟩=x
 puts:∀x u v,act (act x ⟨0,0,u⟩) ⟨0,0,v⟩=act x ⟨0,0,u++v⟩
 drops:∀x (a b:Int),0<=a->0<=b->act (act x ⟨0,a,[]⟩) ⟨0,b,[]⟩=act x ⟨0,a+b,[]⟩
 keeps:∀x (a b:Int),0<a->0<b->act (act x ⟨a,0,[]⟩) ⟨b,0,[]⟩=act x ⟨a+b,0,[]⟩
 split:∀x k d u,act x ⟨k,d,u⟩=act (act (act x ⟨0,0,u⟩) ⟨0,d,[]⟩) ⟨k,0,[]⟩
 swap:∀x d u,act (act x ⟨0,d,[]⟩) ⟨0,0,u⟩=act (act x ⟨0,0,u⟩) ⟨0,d,[]⟩
theorem JjN{X:Type}{act:X->Pt->X}(h:ActP act)(s:NSt)(x:X):(JaC s).foldl act x=act (act (s.out.foldl act x) ⟨0,0,s.put⟩) ⟨0,s.drop,[]⟩:=by
 unfold JaC;rw[List.foldl_append,List.foldl_append]
 by_cases hp:s.put=[]<;>by_cases hd:s.drop=0<;>simp[hp,hd,h.none]
theorem Jr8{X:Type}{act:X->Pt->X}(h:ActP act)(l:List Pt)(k:Int)(hk:0<k)(x:X):(Jbi l k).foldl act x=act (l.foldl act x) ⟨k,0,[]⟩:=by
 unfold Jbi
 cases hq:l.getLast? with
 | none=>simp
 | some q =>
  simp only
  split
  . rename_i hq0
    obtain⟨init,rfl⟩:∃init,l=init++[q]:=List.getLast?_eq_some_iff.1 hq;rw[List.dropLast_concat,List.foldl_append,List.foldl_append];simp only[List.foldl_cons,List.foldl_nil];rw[h.split _ (q.keep+k),h.split _ q.keep q.drop q.put,h.keeps _ _ _ hq0 hk]
  . simp
theorem JjP{X:Type}{act:X->Pt->X}(h:ActP act)(s:NSt)(p:Pt)(hs:0<=s.drop)(hk:0<=p.keep)(hd:0<=p.drop)(x:X):(JaC (addP s p)).foldl act x=act ((JaC s).foldl act x) p:=by
 have e1:act ((JaC s).foldl act x) p=act (act (act (s.out.foldl act x) ⟨0,0,s.put++p.put⟩) ⟨0,s.drop+p.drop,[]⟩) ⟨p.keep,0,[]⟩:=by
  rw[JjN h,h.split _ p.keep p.drop p.put,h.swap,h.puts,h.drops _ _ _ hs hd]
 rw[e1];unfold addP
 split
 . rename_i h0
   rw[JjN h,h0,h.none]
 . rw[Jin,Jr8 h _ _ (by omega),JjN h]
theorem JeZ{X:Type}{act:X->Pt->X}(h:ActP act)(ps:List Pt)(hs:∀p∈ps,0<=p.keep/\0<=p.drop)(x:X):(Jae ps).foldl act x=ps.foldl act x:=by
 have key:∀(ps:List Pt),(∀p∈ps,0<=p.keep/\0<=p.drop)->∀s,OneS s->(JaC (ps.foldl addP s)).foldl act x=ps.foldl act ((JaC s).foldl act x):=by
  intro ps
  induction ps with
  | nil=>intros;rfl
  | cons p ps ih =>
   intro hs s h1;have hp:=hs p (by simp);rw[List.foldl_cons,ih (fun q hq=>hs q (by simp[hq])) _ (Jmu h1 p hp.1 hp.2),JjP h s p h1.drop hp.1 hp.2];rfl
 exact key ps hs nst0 ⟨by simp[nst0],by simp[nst0]⟩
def actM (x:List Cel×Int) (p:Pt):List Cel×Int:=(x.1++(putC p.put++JdF (x.2+p.drop) p.keep.toNat),x.2+p.drop+p.keep)
theorem actM_ok:ActP actM:=by
 constructor
 . intro x;simp[actM,putC,JdF]
 . intro x u v;simp[actM,JlB,JdF]
 . intro x a b _ _;simp[actM,JdF,putC];omega
 . intro x a b ha hb
   simp only[actM,putC,List.map_nil,List.nil_append,Int.add_zero];rw[show(a+b).toNat=a.toNat+b.toNat by omega,JeA,List.append_assoc,show x.2+(a.toNat:Int)=x.2+a by omega];simp;omega
 . intro x k d u;simp[actM,JdF,putC]
 . intro x d u;simp[actM,JdF,putC]
theorem JjQ:∀(ps:List Pt),(∀p∈ps,oneP p)->∀(l:List Cel)(i:Int),ps.foldl actM (l,i)=(l++midP i ps,i+Jar ps)
 | [],_,l,i=>by simp[midP,Jar]
 | p :: ps,h,l,i=>by
  have ih:=JjQ ps (fun q hq=>h q (by simp[hq]));rw[List.foldl_cons,actM,ih];have hL:Jar (p :: ps)=lenP p+Jar ps:=by simp[Jar]
  rw[hL]
  rcases Jk5 (h p (by simp)) with ⟨u,hu,rfl⟩|⟨m,rfl⟩|⟨m,rfl⟩
  . simp[midP,JdF,lenP,putC]
  . simp[midP,lenP,putC];omega
  . simp[midP,JdF,lenP,putC];omega
theorem JaS{ps:List Pt}(h:∀p∈ps,oneP p):∀p∈ps,0<=p.keep/\0<=p.drop:=by
 intro p hp
 rcases h p hp with ⟨h1,h2,h3⟩|⟨h1,h2,h3⟩|⟨h1,h2,h3⟩<;>exact⟨by omega,by omega⟩
theorem JqG(ps:List Pt)(h:∀p∈ps,oneP p):midP 0 (Jae ps)=midP 0 ps:=by
 have e:=JeZ actM_ok ps (JaS h) ([],0);rw[JjQ ps h,JjQ _ (JeR ps (JaS h))]at e;simpa using congrArg Prod.fst e
variable {la : Pt → Bool}
def Jc5 (la:Pt->Bool) (A:List Pt):Int:=(A.map fun p=>if la p then 0 else Jac p).sum
theorem JcY(la:Pt->Bool)(p:Pt)(A:List Pt):Jc5 la (p :: A)=(if la p then 0 else Jac p)+Jc5 la A:=by simp[Jc5]
theorem JlS(la:Pt->Bool)(A B:List Pt):Jc5 la (A++B)=Jc5 la A+Jc5 la B:=by simp[Jc5]
theorem Jfm(la:Pt->Bool):∀(A:List Pt),(∀p∈A,oneP p)->0<=Jc5 la A
 | [],_=>by simp[Jc5]
 | p :: A,h=>by
  have h1:=JaJ (h p (by simp));have h2:=Jfm la A fun q hq=>h q (by simp[hq])
  rw[JcY]
  split<;>omega
def Jk9 (la:Pt->Bool):Prop:=∀p (n:Int),oneP p->la p=false->∀r∈(cutP p n).2,la r=false
theorem Jdh:Jk9 Jaa:=by
 intro p n hp hl r hr;have hu:p.put=[]:=by simpa[Jaa] using hl
 unfold cutP at hr
 split at hr
 . cases hr
 . split at hr
   . obtain rfl:=List.mem_singleton.1 hr;simp[Jaa,hu]
   . split at hr
     . obtain rfl:=List.mem_singleton.1 hr;simp[Jaa,hu]
     . obtain rfl:=List.mem_singleton.1 hr;simp[Jaa,hu]
theorem Jps:Jk9 JaE:=by
 intro p n hp hl r hr;have hu:¬0<p.drop:=by simpa[JaE] using hl
 unfold cutP at hr
 split at hr
 . cases hr
 . split at hr
   . obtain rfl:=List.mem_singleton.1 hr;simpa[JaE] using hu
   . obtain rfl:=List.mem_singleton.1 hr;simpa[JaE] using hu
def okX (x:Pt×Pt):Prop:=(oneP x.1\/x.1=noP)/\(oneP x.2\/x.2=noP)
def JgD (l:List (Pt×Pt)):Int:=(l.map fun x=>Jac x.1+Jac x.2).sum
theorem JmL(hk:Jk9 la){p:Pt}(hp:oneP p)(hl:la p=false){n:Nat}(h0:0<n)(hn:(n:Int)<=Jac p)(A:List Pt):Jc5 la (p :: A)=n+Jc5 la ((cutP p n).2++A):=by
 rw[JcY,JlS,if_neg (by rw[hl];simp)];obtain⟨c1,c2,c3,c4⟩:=Jgl hp (n:=n) (by omega) hn;have hkk:=hk p n hp hl
 have hlen:(cutP p n).2.length<=1:=by
  unfold cutP
  split
  . simp
  . split
    . simp
    . split<;>simp
 generalize (cutP p n).2=R at *
 match R,hlen with
 | [],_=>have:=c4.1 rfl;simp[Jc5];omega
 | [r],_ =>
  have h1:=c3 r (by simp);have h2:=hkk r (by simp);simp only[Jc5,List.map_cons,List.map_nil,List.sum_cons,List.sum_nil,h2];simp;omega
theorem Jhn{lb:Pt->Bool}(hka:Jk9 la)(hkb:Jk9 lb):∀(f:Nat)(A B:List Pt),(∀p∈A,oneP p/\Jac p<1000000000)->(∀p∈B,oneP p/\Jac p<1000000000)->Jc5 la A=Jc5 lb B->Jai A+Jai B<=f ->
    Side la lb A B (Ja8 la lb f A B)/\(∀x∈Ja8 la lb f A B,okX x)/\JgD (Ja8 la lb f A B)=Jai A+Jai B/\(Ja8 la lb f A B).length<=Jai A+Jai B:=by
 have hnil:∀(l:List Pt),(∀p∈l,oneP p/\Jac p<1000000000)->Jai l=0->l=[]:=by
  intro l hl hw
  cases l with
  | nil=>rfl
  | cons p l =>
   have:=JaJ (hl p (by simp)).1;rw[Ja7]at hw;omega
 have hlen0:Jac noP=0:=by simp[Jac,noP]
 have hw0:Jai []=0:=by simp[Jai]
 have hpw:∀x l,JgD (x :: l)=Jac x.1+Jac x.2+JgD l:=by intro x l;simp[JgD]
 intro f
 induction f with
 | zero =>
  intro A B ha hb _ hw;obtain rfl:=hnil A ha (by omega);obtain rfl:=hnil B hb (by omega);exact⟨.nil,by simp[Ja8],by simp[Ja8,JgD,Jai],by simp[Ja8]⟩
 | succ f ih =>
  intro A B ha hb hm hw
  cases A with
  | nil =>
   cases B with
   | nil=>exact⟨.nil,by simp[Ja8],by simp[Ja8,JgD,Jai],by simp[Ja8]⟩
   | cons q B =>
    have hq:=(hb q (by simp)).1;have hq0:=JaJ hq;have hb':∀p∈B,oneP p/\Jac p<1000000000:=fun p hp=>hb p (by simp[hp])
    have hn2:=Jfm lb B fun p hp=>(hb' p hp).1
    have hm':(0:Int)=Jc5 lb (q :: B):=hm;rw[JcY]at hm';have hl:lb q=true:=by
     cases h:lb q with
     | true=>rfl
     | false=>rw[h]at hm';simp at hm';omega
    rw[hl]at hm';have e:Ja8 la lb (f+1) [] (q :: B)=(noP,q) :: Ja8 la lb f [] B:=by rw[Ja8,if_pos hl]
    rw[Ja7]at hw;obtain⟨i1,i2,i3,i4⟩:=ih [] B (by simp) hb' (by simpa[Jc5] using hm') (by omega);rw[e,Ja7,hpw];refine⟨.last hl i1,?_,by simp only[hlen0];omega,by simp only[List.length_cons];omega⟩;intro x hx
    rcases List.mem_cons.1 hx with rfl|hx
    . exact⟨.inr rfl,.inl hq⟩
    . exact i2 x hx
  | cons p A =>
   have hp:=(ha p (by simp)).1;have hp0:=JaJ hp;have ha':∀p∈A,oneP p/\Jac p<1000000000:=fun q hq=>ha q (by simp[hq])
   cases hl:la p with
   | true =>
    have e:Ja8 la lb (f+1) (p :: A) B=(p,noP) :: Ja8 la lb f A B:=by cases B<;>(rw[Ja8];rw[if_pos hl])
    rw[JcY,hl]at hm;rw[Ja7]at hw;obtain⟨i1,i2,i3,i4⟩:=ih A B ha' hb (by simpa using hm) (by omega);rw[e,Ja7,hpw];refine⟨.left hl i1,?_,by simp only[hlen0];omega,by simp only[List.length_cons];omega⟩;intro x hx
    rcases List.mem_cons.1 hx with rfl|hx
    . exact⟨.inl hp,.inr rfl⟩
    . exact i2 x hx
   | false =>
    have hn1:=Jfm la A fun p hp=>(ha' p hp).1
    cases B with
    | nil =>
     rw[JcY,hl]at hm;simp[Jc5]at hm;unfold Jc5 at hn1;omega
    | cons q B =>
     have hq:=(hb q (by simp)).1;have hq0:=JaJ hq;have hb':∀p∈B,oneP p/\Jac p<1000000000:=fun p hp=>hb p (by simp[hp])
     cases hlq:lb q with
     | true =>
      have e:Ja8 la lb (f+1) (p :: A) (q :: B)=(noP,q) :: Ja8 la lb f (p :: A) B:=by rw[Ja8,if_neg (by rw[hl];simp),if_pos hlq]
      rw[JcY lb,hlq]at hm;rw[Ja7 q]at hw;obtain⟨i1,i2,i3,i4⟩:=ih (p :: A) B ha hb' (by simpa using hm) (by omega);rw[e,Ja7 q,hpw];refine⟨.right hl hlq i1,?_,by simp only[hlen0];omega,by simp only[List.length_cons];omega⟩;intro x hx
      rcases List.mem_cons.1 hx with rfl|hx
      . exact⟨.inr rfl,.inl hq⟩
      . exact i2 x hx
     | false =>
      obtain⟨k,hk⟩:∃k:Nat,min (Jac p) (Jac q)=(k:Int):=⟨(min (Jac p) (Jac q)).toNat,by omega⟩;have e:Ja8 la lb (f+1) (p :: A) (q :: B)=((cutP p k).1,(cutP q k).1) :: Ja8 la lb f ((cutP p k).2++A) ((cutP q k).2++B):=by
       rw[Ja8,if_neg (by rw[hl];simp),if_neg (by rw[hlq];simp),hk]
      have k0:0<k:=by omega
      have kp:(k:Int)<=Jac p:=by omega
      have kq:(k:Int)<=Jac q:=by omega
      have w1:=(JkN hp k0 kp A).1;have w2:=(JkN hq k0 kq B).1;have m1:=JmL hka hp hl k0 kp A;have m2:=JmL hkb hq hlq k0 kq B;obtain⟨c1,c2,c3,_⟩:=Jgl hp (n:=k) (by omega) kp;obtain⟨d1,d2,d3,_⟩:=Jgl hq (n:=k) (by omega) kq;have bp:=(ha p (by simp)).2;have bq:=(hb q (by simp)).2;obtain ⟨i1,i2,i3,i4⟩:=ih ((cutP p k).2++A) ((cutP q k).2++B) (fun x hx=>by
       rcases List.mem_append.1 hx with hx|hx
       . exact⟨(c3 x hx).1,by rw[(c3 x hx).2];omega⟩
       . exact ha' x hx) (fun x hx=>by
       rcases List.mem_append.1 hx with hx|hx
       . exact⟨(d3 x hx).1,by rw[(d3 x hx).2];omega⟩
       . exact hb' x hx) (by omega) (by omega)
      rw[e,hpw];refine⟨.both k hl hlq hp hq k0 hk bp bq i1,?_,by simp only[c2,d2];omega,by simp only[List.length_cons];omega⟩;intro x hx
      rcases List.mem_cons.1 hx with rfl|hx
      . exact⟨.inl c1,.inl d1⟩
      . exact i2 x hx
def Jkd (t:Pt×Pt->List Pt):Prop:=∀x,okX x->(t x).length<=1/\∀p∈t x,JbA p/\wtP p<=Jac x.1+Jac x.2
theorem Jgd{p:Pt}(h:oneP p\/p=noP):JbA p/\wtP p=Jac p/\0<=Jac p/\(p.put.length:Int)<=Jac p:=by
 rcases h with h|rfl
 . have h1:=JaS (ps:=[p]) (by simpa using h) p (by simp)
   refine⟨h1,rfl,by have:=JaJ h;omega,?_⟩;unfold Jac;omega
 . exact⟨⟨by simp[noP],by simp[noP]⟩,rfl,by simp[Jac,noP],by simp[Jac,noP]⟩
theorem Jhf:Jkd Jbl:=by
 intro x ⟨h1,h2⟩;obtain⟨a1,a2,a3,a4⟩:=Jgd h1;obtain⟨b1,b2,b3,b4⟩:=Jgd h2;unfold Jbl
 split
 . refine⟨by simp,fun p hp=>?_⟩
   obtain rfl:=List.mem_singleton.1 hp;refine⟨⟨by simp,by simp⟩,?_⟩;simp only[wtP,List.length_nil];omega
 . split
   . refine⟨by simp,fun p hp=>?_⟩
     obtain rfl:=List.mem_singleton.1 hp;exact⟨a1,by omega⟩
   . exact⟨by simp,by simp⟩
theorem Jip:Jkd fun x=>Jbl (x.2,x.1):=by
 intro x ⟨h1,h2⟩;have:=Jhf (x.2,x.1) ⟨h2,h1⟩;exact⟨this.1,fun p hp=>⟨(this.2 p hp).1,by have:=(this.2 p hp).2;simp only at this;omega⟩⟩
theorem Jo6:Jkd JbI:=by
 intro x ⟨h1,h2⟩;obtain⟨a1,a2,a3,a4⟩:=Jgd h1;obtain⟨b1,b2,b3,b4⟩:=Jgd h2;unfold JbI
 split
 . refine⟨by simp,fun p hp=>?_⟩
   obtain rfl:=List.mem_singleton.1 hp;exact⟨a1,by omega⟩
 . split
   . refine⟨by simp,fun p hp=>?_⟩
     obtain rfl:=List.mem_singleton.1 hp;exact⟨b1,by omega⟩
   . exact⟨by simp,by simp⟩
theorem Jm1{t:Pt×Pt->List Pt}(ht:Jkd t):∀(l:List (Pt×Pt)),(∀x∈l,okX x)->wts (l.flatMap t)<=JgD l
 | [],_=>by simp[wts,JgD]
 | x :: l,h=>by
  have ih:=Jm1 ht l fun y hy=>h y (by simp[hy])
  obtain⟨h1,h2⟩:=ht x (h x (by simp));have hx:=h x (by simp);obtain⟨_,_,a3,_⟩:=Jgd hx.1;obtain⟨_,_,b3,_⟩:=Jgd hx.2;have e:JgD (x :: l)=Jac x.1+Jac x.2+JgD l:=by simp[JgD]
  have e2:wts (t x)<=Jac x.1+Jac x.2:=by
   generalize t x=L at *
   match L,h1 with
   | [],_=>simp[wts];omega
   | [p],_=>have:=(h2 p (by simp)).2;simpa[wts] using this
  rw[List.flatMap_cons,e];unfold wts at ih e2 ⊢;rw[List.map_append,List.sum_append];omega
theorem JpS{t:Pt×Pt->List Pt}(ht:Jkd t){l:List (Pt×Pt)}(h:∀x∈l,okX x)(hw:JgD l<1000000000)(hl:l.length<10000000):BdS t l nst0 0 0 :=
 ⟨bd0,by have:=Jm1 ht l h;omega,by omega,fun x hx p hp=>((ht x (h x hx)).2 p hp).1,fun x hx=>(ht x (h x hx)).1⟩
end
section
open Go.RowKit
attribute [local go_sem] Oper.semAt_some
variable {M a g1 g2 o c b : Nat}{bx : List (Nat × Obj)}{w W W' : World}{v2 v1 : Value}{p : Pt}{A B : List Pt}{s : NSt}
theorem sideI.tail1(h:sideI M a g1 g2 bx w (.slice (some ⟨g1,o,none⟩) (A.length+1) c) v2 (p :: A) B s W)(hb:Below W.heap.size W W') :
    sideI M a g1 g2 bx w (.slice (some ⟨g1,o+3,none⟩) A.length (c - 1)) v2 A B s W'/\(c=1->sideI M a g1 g2 bx w (.slice (some ⟨g1,o,none⟩) A.length 0) v2 A B s W'):=by
 obtain⟨h1,h2⟩:=JgV h.r1 hb;have hg:=h.grow hb;exact⟨⟨hg.below,hg.g,h1,hg.r2,hg.b⟩,fun hc=>⟨hg.below,hg.g,h2 hc,hg.r2,hg.b⟩⟩
theorem sideI.tail2(h:sideI M a g1 g2 bx w v1 (.slice (some ⟨g2,o,none⟩) (B.length+1) c) A (p :: B) s W)(hb:Below W.heap.size W W') :
    sideI M a g1 g2 bx w v1 (.slice (some ⟨g2,o+3,none⟩) B.length (c - 1)) A B s W'/\(c=1->sideI M a g1 g2 bx w v1 (.slice (some ⟨g2,o,none⟩) B.length 0) A B s W'):=by
 obtain⟨h1,h2⟩:=JgV h.r2 hb;have hg:=h.grow hb;exact⟨⟨hg.below,hg.g,hg.r1,h1,hg.b⟩,fun hc=>⟨hg.below,hg.g,hg.r1,h2 hc,hg.b⟩⟩
def JhV (la lb:Pt->Bool) (t:Pt×Pt->List Pt) (M a g1 g2:Nat) (bx:List (Nat×Obj)) (w:World) (S:NSt) (k:Nat) (u1 u2:Value) (W:World):Prop :=
 ∃A B l s T n,l.length=k/\Side la lb A B l/\sideI M a g1 g2 bx w u1 u2 A B s W/\BdS t l s T n/\runS t l s=S
theorem JaN{la lb:Pt->Bool}{t:Pt×Pt->List Pt}{S:NSt}{u1 u2:Value}{x:Pt×Pt}{l:List (Pt×Pt)}{T:Int}{n:Nat}
    (hS:Side la lb A B l) (hI:sideI M a g1 g2 bx w u1 u2 A B s W) (hB:BdS t (x :: l) s T n) (hR:runS t (x :: l) s=S) (hg:gath M W' a ((t x).foldl addP s)) (hb:BelowG M a W W') (ho:JdD a g1 g2 bx) (h1:a+4<=g1) (h2:g1<M) (h3:a+4<=g2) (h4:g2<M) :
    JhV la lb t M a g1 g2 bx w S l.length u1 u2 W' :=
 ⟨A,B,l,_,_,_,rfl,hS,hI.took hb hg ho h1 h2 h3 h4,hB.tail,hR⟩
theorem Jmr{w:World}{b:Nat}{y0 y1 y2:Value}{T:TypeId}(h:w.heap[b]?=some (.cells #[y0,y1,y2] T (0,0)))(x0 x1 x2:Value) :
    (((w.setCell ⟨b,0,none⟩ x0).setCell ⟨b,1,none⟩ x1).setCell ⟨b,2,none⟩ x2).heap[b]?=some (.cells #[x0,x1,x2] T (0,0)):=by
 simp[World.setCell,Array.getElem?_modify,h]
theorem Jbx{k:Nat}{x0 x1 x2:Value}(h:k≠b):(((w.setCell ⟨b,0,none⟩ x0).setCell ⟨b,1,none⟩ x1).setCell ⟨b,2,none⟩ x2).heap[k]?=w.heap[k]?:=by
 rw[Below.heap_setCell _ _ _ _ (by show k≠b;exact h),Below.heap_setCell _ _ _ _ (by show k≠b;exact h),Below.heap_setCell _ _ _ _ (by show k≠b;exact h)]
theorem ButO.above3{g:Nat}(h:ButO g w W)(hb:w.heap.size<=b)(x0 x1 x2:Value):ButO g w (((W.setCell ⟨b,0,none⟩ x0).setCell ⟨b,1,none⟩ x1).setCell ⟨b,2,none⟩ x2) :=
 h.trans' (by simp) (fun k hk=>Jbx (by omega)) ⟨rfl,rfl,rfl⟩
structure But2 (g1 g2:Nat) (w w':World):Prop where
 os:w'.os=w.os
 tape:w'.tape=w.tape
 output:w'.output=w.output
 size:w.heap.size<=w'.heap.size
 block:∀k,k<w.heap.size->k≠g1->k≠g2->w'.heap[k]?=w.heap[k]?
theorem But2.of1{w':World}(h:ButO g1 w w'):But2 g1 g2 w w':=⟨h.os,h.tape,h.output,h.size,fun k hk hg _=>h.block k hk hg⟩
theorem But2.cut2{a b c:World}(h:But2 g1 g2 a b)(k:ButO g2 b c):But2 g1 g2 a c :=
 ⟨k.os.trans h.os,k.tape.trans h.tape,k.output.trans h.output,Nat.le_trans h.size k.size,fun i hi hg1 hg2=>(k.block i (Nat.lt_of_lt_of_le hi h.size) hg2).trans (h.block i hi hg1 hg2)⟩
theorem But2.above3(h:But2 g1 g2 w W)(hb:w.heap.size<=b)(x0 x1 x2:Value):But2 g1 g2 w (((W.setCell ⟨b,0,none⟩ x0).setCell ⟨b,1,none⟩ x1).setCell ⟨b,2,none⟩ x2) :=
 ⟨h.os,h.tape,h.output,by simpa using h.size,fun k hk e1 e2=>(Jbx (by omega)).trans (h.block k hk e1 e2)⟩
theorem sideI.both{v1' v2':Value}{A' B':List Pt}(h:sideI M a g1 g2 bx w v1 v2 A B s W)(hb:But2 g1 g2 W W')(ho:JdD a g1 g2 bx)(h1:a+4<=g1)(h2:g1<M)(h3:a+4<=g2)(h4:g2<M)(r1:winP W' g1 v1' A')(r2:winP W' g2 v2' B') :
    sideI M a g1 g2 bx w v1' v2' A' B' s W':=by
 have hM:=h.g.le;have hT:=h.g.top;have hlt:=Jb4 h.g;have hbl:Below (a+4) W W':=⟨hb.os,hb.tape,hb.output,hb.size,fun k hk=>hb.block k (by omega) (by omega) (by omega)⟩;have own:∀{e size n:Nat} {v:Value} {xs:List Value},W.ownsRow M e size v n xs->W'.ownsRow M e size v n xs:=by
  intro e size n v xs h;obtain⟨h0,hrow⟩:=h;refine⟨h0,?_⟩
  rcases hrow with hx|⟨g',cap,cur,rfl,hg,hgg,rest⟩
  . exact .inl hx
  . exact .inr ⟨g',cap,cur,rfl,hg,(hb.block g' (Jah hgg) (by omega) (by omega)).trans hgg,rest⟩
 refine⟨h.below.trans (hbl.mono (by omega)),?_,r1,r2,fun x hx=>(hb.block _ (Jah (h.b x hx)) (ho x hx).2.1 (ho x hx).2.2.1).trans (h.b x hx)⟩;obtain⟨⟨p,c,h1,h2⟩,h3,⟨p',c',h4,h5⟩,h6,h7,h8,h9⟩:=h.g
 exact ⟨⟨p,c,(hbl.cell (p:=⟨a,0,none⟩) (by show a<a+4;omega)).trans h1,own h2⟩,(hbl.frozen (p:=⟨a,0,none⟩) (by show a<a+4;omega)).trans h3,
  ⟨p',c',(hbl.cell (p:=⟨a+1,0,none⟩) (by show a+1<a+4;omega)).trans h4,own h5⟩,(hbl.frozen (p:=⟨a+1,0,none⟩) (by show a+1<a+4;omega)).trans h6,
  (hbl.cell (p:=⟨a+2,0,none⟩) (by show a+2<a+4;omega)).trans h7,(hbl.frozen (p:=⟨a+2,0,none⟩) (by show a+2<a+4;omega)).trans h8,(hbl.cell (p:=⟨a+3,0,none⟩) (by show a+3<a+4;omega)).trans h9,hM,Nat.le_trans hT hb.size⟩
end
section
open Go.RowKit
attribute [local go_sem] Oper.semAt_some
theorem JoG(M a g1 g2 β:Nat)(bx:List (Nat×Obj))(v1 v2:Value)(A0 B0:List Pt)(l0:List (Pt×Pt))(s0:NSt)(w:World){T0:Int}{n0:Nat}(hI0:sideI M a g1 g2 bx w v1 v2 A0 B0 s0 w)(hS0:Side Jaa Jaa A0 B0 l0)(hB0:BdS Jbl l0 s0 T0 n0)(ho0:JdD a g1 g2 bx)(h1:a+4<=g1)(h2:g1<M)(h3:a+4<=g2)(h4:g2<M)(hne0:g1≠g2)
    (cT0:∀(s:NSt) (x:Pt×Pt) (T:Int) (n:Nat) (W:World),gath M W a s->Jdb bx W->Bd s T n->(∀p∈Jbl x,JbA p)->T+wts (Jbl x)<1000000000->n<10000000->Calls Tryz.prog 228 #[Jay x.1,Jay x.2,.pointer (some ⟨β,0,none⟩)] W (Jcw M a s (Jbl x) W)) :
    Calls Tryz.prog 223 #[v1,v2,.func (.func 225) #[] #[],.func (.func 225) #[] #[],.func (.func 228) #[] #[.pointer (some ⟨β,0,none⟩)]] w fun e w'=>(∃v,e=.returned v)/\gath M w' a (runS Jbl l0 s0)/\Jdb bx w'/\Below a w w':=by
 obtain⟨S,hS⟩:∃S,runS Jbl l0 s0=S:=⟨_,rfl⟩;rw[hS];obtain⟨t,ht⟩:∃t:Pt×Pt->List Pt,t=Jbl:=⟨_,rfl⟩;rw[←ht]at hB0 hS cT0;have cT:Hid (∀(s:NSt) (x:Pt×Pt) (T:Int) (n:Nat) (l:List (Pt×Pt)) (W:World),gath M W a s->Jdb bx W->BdS t (x :: l) s T n->Calls Tryz.prog 228 #[Jay x.1,Jay x.2,.pointer (some ⟨β,0,none⟩)] W (Jcw M a s (t x) W)):=fun s x T n l W hg hb hB=>cT0 s x T n W hg hb hB.bd hB.head.1 hB.head.2.1 hB.head.2.2
 have hst:JhV Jaa Jaa t M a g1 g2 bx w S l0.length v1 v2 w:=⟨A0,B0,l0,s0,T0,n0,rfl,hS0,hI0,hB0,hS⟩;have HST:Hid (JhV Jaa Jaa t M a g1 g2 bx w S l0.length v1 v2 w):=hst;have HO:Hid (JdD a g1 g2 bx):=ho0;have HNE:Hid (g1≠g2):=hne0;clear ht cT0 hI0 hS0 hB0 ho0 hS hst hne0
 go_enter Tryz.func223,Tryz.ntmps223
 go_wp2
 go_loopg [0,1] l0.length (fun k u1 u2 wr=>JhV Jaa Jaa t M a g1 g2 bx w S k u1 u2 wr)
 case atStart=>exact HST.out
 case round =>
  obtain⟨A,B,l,s,T,n,hk,hSd,hI,hB,hR⟩:=hrel;have hwz:=hI.below.size;have HK:Hid (l.length=gk):=hk;have HI:=hdz hI;have HB:=hdz hB;have HR:=hdz hR;clear HST;clear hk hB hR
  cases hSd with
  | nil =>
   obtain⟨p1,c1,rfl,_,_,_⟩:=hI.r1;obtain⟨p2,c2,rfl,_,_,_⟩:=hI.r2;clear hI;go_wp2;go_end0;have hx:=HI.out;exact⟨⟨_,rfl⟩,by rw[←HR.out];exact hx.g,hx.b,hx.below⟩
  | left =>
   rename_i p A l hl hS'
   obtain⟨o,c,rfl,e1,e2,eg,e3,k0,k1,k2⟩:=JaT hI.r1;obtain⟨p2,c2,rfl,_,_,_⟩:=hI.r2;have cL:Hid (∀wx,Calls Tryz.prog 225 #[Jay p] wx fun e w'=>e=.returned (.bool true)/\Below wx.heap.size wx w'):=fun wx=>by
    have:=Jbu p wx;rw[show decide (p.put≠[])=true from hl]at this;exact this
   have CT:Hid (∀W',Below wr.heap.size wr W'->Calls Tryz.prog 228 #[Jay (p,noP).1,Jay (p,noP).2,.pointer (some ⟨β,0,none⟩)] W' (Jcw M a s (t (p,noP)) W')):=fun W' hb=>cT.out s (p,noP) T n l W' (HI.out.grow hb).g (HI.out.grow hb).b HB.out
   have HS:Hid (Side Jaa Jaa _ _ l):=hS';have HT:Hid (∀W',Below wr.heap.size wr W'->_/\_):=fun W' hb=>sideI.tail1 HI.out hb
   obtain⟨K,D,U⟩:=p;simp only at k0 k1 k2;have HKC:Hid (wr.cell? ⟨g1,o,none⟩=some (.int .i64 K)/\wr.cell? ⟨g1,o+1,none⟩=some (.int .i64 D)/\wr.cell? ⟨g1,o+2,none⟩=some (.string ⟨U.toArray⟩)):=⟨k0,k1,k2⟩;have HEG:Hid (g1<wr.heap.size):=eg;have hi0:(0:Int)<(A.length:Int)+1:=by omega
   have hi1:(1:Int)<=(A.length:Int)+1:=by omega
   unfold noP at CT;unfold Jay at cL CT;clear hI hS' hl
   go_wp2_with (first
    | (go_at_call 225;refine(cL.out _).mono ?_;rintro e w1 ⟨rfl,hb1⟩;obtain⟨b1,b2,b3⟩:=JaL hb1;have HR1:Hid (w1.heap[wr.heap.size]?=some (.cells #[.int .i64 0,.int .i64 0,.string ⟨#[]⟩] 50 (0,0))):=b1;have HP1:Hid (w1.heap[wr.heap.size+1]?=some (.cells #[.int .i64 0,.int .i64 0,.string ⟨#[]⟩] 50 (0,0))):=b2;have HB1:=hdz b3;clear b1 b2 b3 hb1;have r0:w1.cell? ⟨wr.heap.size,0,none⟩=some (.int .i64 0):=chp HR1.out 0;have r1:w1.cell? ⟨wr.heap.size,1,none⟩=some (.int .i64 0):=chp HR1.out 1;have r2:w1.cell? ⟨wr.heap.size,2,none⟩=some (.string ⟨#[]⟩):=chp HR1.out 2;have rF0:w1.frozen? ⟨wr.heap.size,0,none⟩=false:=frozen_of_heap HR1.out 0;have rF1:w1.frozen? ⟨wr.heap.size,1,none⟩=false:=frozen_of_heap HR1.out 1;have rF2:w1.frozen? ⟨wr.heap.size,2,none⟩=false:=frozen_of_heap HR1.out 2;have q0:w1.cell? ⟨wr.heap.size+1,0,none⟩=some (.int .i64 0):=chp HP1.out 0;have q1:w1.cell? ⟨wr.heap.size+1,1,none⟩=some (.int .i64 0):=chp HP1.out 1;have q2:w1.cell? ⟨wr.heap.size+1,2,none⟩=some (.string ⟨#[]⟩):=chp HP1.out 2;have qF0:w1.frozen? ⟨wr.heap.size+1,0,none⟩=false:=frozen_of_heap HP1.out 0;have qF1:w1.frozen? ⟨wr.heap.size+1,1,none⟩=false:=frozen_of_heap HP1.out 1;have qF2:w1.frozen? ⟨wr.heap.size+1,2,none⟩=false:=frozen_of_heap HP1.out 2;have x0:w1.cell? ⟨g1,o,none⟩=some (.int .i64 K):=(HB1.out.cell HEG.out).trans HKC.out.1;have x1:w1.cell? ⟨g1,o+1,none⟩=some (.int .i64 D):=(HB1.out.cell HEG.out).trans HKC.out.2.1;have x2:w1.cell? ⟨g1,o+2,none⟩=some (.string ⟨U.toArray⟩):=(HB1.out.cell HEG.out).trans HKC.out.2.2)
    | fail)
   obtain⟨s0,s1,s2,hsz,hoth⟩:=JbR r0 r1 r2 (.int .i64 K) (.int .i64 D) (.string ⟨U.toArray⟩)
   go_region
   all_goals (go_wp2_with (first
    | (go_at_call 228;have HBW:Hid (Below wr.heap.size wr _):=((((HB1.out.setCell (p:=⟨wr.heap.size,0,none⟩) (nlr _) (.int .i64 K)).setCell (p:=⟨wr.heap.size,1,none⟩) (nlr _) (.int .i64 D)).setCell (p:=⟨wr.heap.size,2,none⟩) (nlr _) (.string ⟨U.toArray⟩)).drew);refine(CT.out _ HBW.out).mono ?_;rintro e w5 ⟨⟨v5,rfl⟩,hg5,hb5⟩)
    | fail))
   . have hc1:c=1:=by assumption
     subst hc1
     go_roundg l.length
     case measure=>have:=HK.out;simp only[List.length_cons]at this;omega
     case rel=>exact JaN HS.out ((HT.out _ HBW.out).2 rfl) HB.out HR.out hg5 hb5 HO.out h1 h2 h3 h4
   . go_roundg l.length
     case measure=>have:=HK.out;simp only[List.length_cons]at this;omega
     case rel=>exact JaN HS.out (HT.out _ HBW.out).1 HB.out HR.out hg5 hb5 HO.out h1 h2 h3 h4
  | last =>
   rename_i p B l hl hS'
   obtain⟨p2,c2,rfl,_,_,_⟩:=hI.r1;obtain⟨o,c,rfl,e1,e2,eg,e3,k0,k1,k2⟩:=JaT hI.r2;have cL:Hid (∀wx,Calls Tryz.prog 225 #[Jay p] wx fun e w'=>e=.returned (.bool true)/\Below wx.heap.size wx w'):=fun wx=>by
    have:=Jbu p wx;rw[show decide (p.put≠[])=true from hl]at this;exact this
   have CT:Hid (∀W',Below wr.heap.size wr W'->Calls Tryz.prog 228 #[Jay (noP,p).1,Jay (noP,p).2,.pointer (some ⟨β,0,none⟩)] W' (Jcw M a s (t (noP,p)) W')):=fun W' hb=>cT.out s (noP,p) T n l W' (HI.out.grow hb).g (HI.out.grow hb).b HB.out
   have HS:Hid (Side Jaa Jaa _ _ l):=hS';have HT:Hid (∀W',Below wr.heap.size wr W'->_/\_):=fun W' hb=>sideI.tail2 HI.out hb
   obtain⟨K,D,U⟩:=p;simp only at k0 k1 k2;have HKC:Hid (wr.cell? ⟨g2,o,none⟩=some (.int .i64 K)/\wr.cell? ⟨g2,o+1,none⟩=some (.int .i64 D)/\wr.cell? ⟨g2,o+2,none⟩=some (.string ⟨U.toArray⟩)):=⟨k0,k1,k2⟩;have HEG:Hid (g2<wr.heap.size):=eg;have hi0:(0:Int)<(B.length:Int)+1:=by omega
   have hi1:(1:Int)<=(B.length:Int)+1:=by omega
   unfold noP at CT;unfold Jay at cL CT;clear hI hS' hl
   go_wp2_with (first
    | (go_at_call 225;refine(cL.out _).mono ?_;rintro e w1 ⟨rfl,hb1⟩;obtain⟨b1,b2,b3⟩:=JaL hb1;have HR1:Hid (w1.heap[wr.heap.size]?=some (.cells #[.int .i64 0,.int .i64 0,.string ⟨#[]⟩] 50 (0,0))):=b1;have HP1:Hid (w1.heap[wr.heap.size+1]?=some (.cells #[.int .i64 0,.int .i64 0,.string ⟨#[]⟩] 50 (0,0))):=b2;have HB1:=hdz b3;clear b1 b2 b3 hb1;have r0:w1.cell? ⟨wr.heap.size,0,none⟩=some (.int .i64 0):=chp HR1.out 0;have r1:w1.cell? ⟨wr.heap.size,1,none⟩=some (.int .i64 0):=chp HR1.out 1;have r2:w1.cell? ⟨wr.heap.size,2,none⟩=some (.string ⟨#[]⟩):=chp HR1.out 2;have rF0:w1.frozen? ⟨wr.heap.size,0,none⟩=false:=frozen_of_heap HR1.out 0;have rF1:w1.frozen? ⟨wr.heap.size,1,none⟩=false:=frozen_of_heap HR1.out 1;have rF2:w1.frozen? ⟨wr.heap.size,2,none⟩=false:=frozen_of_heap HR1.out 2;have q0:w1.cell? ⟨wr.heap.size+1,0,none⟩=some (.int .i64 0):=chp HP1.out 0;have q1:w1.cell? ⟨wr.heap.size+1,1,none⟩=some (.int .i64 0):=chp HP1.out 1;have q2:w1.cell? ⟨wr.heap.size+1,2,none⟩=some (.string ⟨#[]⟩):=chp HP1.out 2;have qF0:w1.frozen? ⟨wr.heap.size+1,0,none⟩=false:=frozen_of_heap HP1.out 0;have qF1:w1.frozen? ⟨wr.heap.size+1,1,none⟩=false:=frozen_of_heap HP1.out 1;have qF2:w1.frozen? ⟨wr.heap.size+1,2,none⟩=false:=frozen_of_heap HP1.out 2;have x0:w1.cell? ⟨g2,o,none⟩=some (.int .i64 K):=(HB1.out.cell HEG.out).trans HKC.out.1;have x1:w1.cell? ⟨g2,o+1,none⟩=some (.int .i64 D):=(HB1.out.cell HEG.out).trans HKC.out.2.1;have x2:w1.cell? ⟨g2,o+2,none⟩=some (.string ⟨U.toArray⟩):=(HB1.out.cell HEG.out).trans HKC.out.2.2)
    | fail)
   obtain⟨s0,s1,s2,hsz,hoth⟩:=JbR q0 q1 q2 (.int .i64 K) (.int .i64 D) (.string ⟨U.toArray⟩)
   go_region
   all_goals (go_wp2_with (first
    | (go_at_call 228;have HBW:Hid (Below wr.heap.size wr _):=((((HB1.out.setCell (p:=⟨wr.heap.size+1,0,none⟩) (Nat.le_succ _) (.int .i64 K)).setCell (p:=⟨wr.heap.size+1,1,none⟩) (Nat.le_succ _) (.int .i64 D)).setCell (p:=⟨wr.heap.size+1,2,none⟩) (Nat.le_succ _) (.string ⟨U.toArray⟩)).drew);refine(CT.out _ HBW.out).mono ?_;rintro e w5 ⟨⟨v5,rfl⟩,hg5,hb5⟩)
    | fail))
   . have hc1:c=1:=by assumption
     subst hc1
     go_roundg l.length
     case measure=>have:=HK.out;simp only[List.length_cons]at this;omega
     case rel=>exact JaN HS.out ((HT.out _ HBW.out).2 rfl) HB.out HR.out hg5 hb5 HO.out h1 h2 h3 h4
   . go_roundg l.length
     case measure=>have:=HK.out;simp only[List.length_cons]at this;omega
     case rel=>exact JaN HS.out (HT.out _ HBW.out).1 HB.out HR.out hg5 hb5 HO.out h1 h2 h3 h4
  | right =>
   rename_i pa p A B l hla hl hS'
   obtain⟨oa,ca,rfl,ea1,ea2,eag,ea3,ka0,ka1,ka2⟩:=JaT hI.r1;obtain⟨o,c,rfl,e1,e2,eg,e3,k0,k1,k2⟩:=JaT hI.r2;have cLA:Hid (∀wx,Calls Tryz.prog 225 #[Jay pa] wx fun e w'=>e=.returned (.bool false)/\Below wx.heap.size wx w'):=fun wx=>by
    have:=Jbu pa wx;rw[show decide (pa.put≠[])=false from hla]at this;exact this
   have cL:Hid (∀wx,Calls Tryz.prog 225 #[Jay p] wx fun e w'=>e=.returned (.bool true)/\Below wx.heap.size wx w'):=fun wx=>by
    have:=Jbu p wx;rw[show decide (p.put≠[])=true from hl]at this;exact this
   have CT:Hid (∀W',Below wr.heap.size wr W'->Calls Tryz.prog 228 #[Jay (noP,p).1,Jay (noP,p).2,.pointer (some ⟨β,0,none⟩)] W' (Jcw M a s (t (noP,p)) W')):=fun W' hb=>cT.out s (noP,p) T n l W' (HI.out.grow hb).g (HI.out.grow hb).b HB.out
   have HS:Hid (Side Jaa Jaa _ _ l):=hS';have HT:Hid (∀W',Below wr.heap.size wr W'->_/\_):=fun W' hb=>sideI.tail2 HI.out hb
   obtain⟨KA,DA,UA⟩:=pa;simp only at ka0 ka1 ka2;have HKA:Hid (wr.cell? ⟨g1,oa,none⟩=some (.int .i64 KA)/\wr.cell? ⟨g1,oa+1,none⟩=some (.int .i64 DA)/\wr.cell? ⟨g1,oa+2,none⟩=some (.string ⟨UA.toArray⟩)):=⟨ka0,ka1,ka2⟩;have hia:(0:Int)<(A.length:Int)+1:=by omega
   unfold Jay at cLA;obtain⟨K,D,U⟩:=p;simp only at k0 k1 k2;have HKC:Hid (wr.cell? ⟨g2,o,none⟩=some (.int .i64 K)/\wr.cell? ⟨g2,o+1,none⟩=some (.int .i64 D)/\wr.cell? ⟨g2,o+2,none⟩=some (.string ⟨U.toArray⟩)):=⟨k0,k1,k2⟩;have HEG:Hid (g2<wr.heap.size):=eg;have hi0:(0:Int)<(B.length:Int)+1:=by omega
   have hi1:(1:Int)<=(B.length:Int)+1:=by omega
   unfold noP at CT;unfold Jay at cL CT;clear hI hS' hl hla
   go_wp2_with (first
    | (have _:=HB1;go_at_call 225;refine(cL.out _).mono ?_;rintro e w2 ⟨rfl,hb2⟩;have HR2:Hid (w2.heap[wr.heap.size]?=some (.cells #[.int .i64 0,.int .i64 0,.string ⟨#[]⟩] 50 (0,0))):=(hb2.block _ (Jah HR1.out)).trans HR1.out;have HP2:Hid (w2.heap[wr.heap.size+1]?=some (.cells #[.int .i64 0,.int .i64 0,.string ⟨#[]⟩] 50 (0,0))):=(hb2.block _ (Jah HP1.out)).trans HP1.out;have HB2:=hdz (HB1.out.trans (hb2.mono HB1.out.size));clear hb2;have r0:w2.cell? ⟨wr.heap.size,0,none⟩=some (.int .i64 0):=chp HR2.out 0;have r1:w2.cell? ⟨wr.heap.size,1,none⟩=some (.int .i64 0):=chp HR2.out 1;have r2:w2.cell? ⟨wr.heap.size,2,none⟩=some (.string ⟨#[]⟩):=chp HR2.out 2;have rF0:w2.frozen? ⟨wr.heap.size,0,none⟩=false:=frozen_of_heap HR2.out 0;have rF1:w2.frozen? ⟨wr.heap.size,1,none⟩=false:=frozen_of_heap HR2.out 1;have rF2:w2.frozen? ⟨wr.heap.size,2,none⟩=false:=frozen_of_heap HR2.out 2;have q0:w2.cell? ⟨wr.heap.size+1,0,none⟩=some (.int .i64 0):=chp HP2.out 0;have q1:w2.cell? ⟨wr.heap.size+1,1,none⟩=some (.int .i64 0):=chp HP2.out 1;have q2:w2.cell? ⟨wr.heap.size+1,2,none⟩=some (.string ⟨#[]⟩):=chp HP2.out 2;have qF0:w2.frozen? ⟨wr.heap.size+1,0,none⟩=false:=frozen_of_heap HP2.out 0;have qF1:w2.frozen? ⟨wr.heap.size+1,1,none⟩=false:=frozen_of_heap HP2.out 1;have qF2:w2.frozen? ⟨wr.heap.size+1,2,none⟩=false:=frozen_of_heap HP2.out 2;have x0:w2.cell? ⟨g2,o,none⟩=some (.int .i64 K):=(HB2.out.cell HEG.out).trans HKC.out.1;have x1:w2.cell? ⟨g2,o+1,none⟩=some (.int .i64 D):=(HB2.out.cell HEG.out).trans HKC.out.2.1;have x2:w2.cell? ⟨g2,o+2,none⟩=some (.string ⟨U.toArray⟩):=(HB2.out.cell HEG.out).trans HKC.out.2.2)
    | (go_at_call 225;refine(cLA.out _).mono ?_;rintro e w1 ⟨rfl,hb1⟩;obtain⟨b1,b2,b3⟩:=JaL hb1;have HR1:Hid (w1.heap[wr.heap.size]?=some (.cells #[.int .i64 0,.int .i64 0,.string ⟨#[]⟩] 50 (0,0))):=b1;have HP1:Hid (w1.heap[wr.heap.size+1]?=some (.cells #[.int .i64 0,.int .i64 0,.string ⟨#[]⟩] 50 (0,0))):=b2;have HB1:=hdz b3;clear b1 b2 b3 hb1;have x0:w1.cell? ⟨g2,o,none⟩=some (.int .i64 K):=(HB1.out.cell HEG.out).trans HKC.out.1;have x1:w1.cell? ⟨g2,o+1,none⟩=some (.int .i64 D):=(HB1.out.cell HEG.out).trans HKC.out.2.1;have x2:w1.cell? ⟨g2,o+2,none⟩=some (.string ⟨U.toArray⟩):=(HB1.out.cell HEG.out).trans HKC.out.2.2)
    | fail)
   obtain⟨s0,s1,s2,hsz,hoth⟩:=JbR q0 q1 q2 (.int .i64 K) (.int .i64 D) (.string ⟨U.toArray⟩)
   go_region
   all_goals (go_wp2_with (first
    | (go_at_call 228;have HBW:Hid (Below wr.heap.size wr _):=((((HB2.out.setCell (p:=⟨wr.heap.size+1,0,none⟩) (Nat.le_succ _) (.int .i64 K)).setCell (p:=⟨wr.heap.size+1,1,none⟩) (Nat.le_succ _) (.int .i64 D)).setCell (p:=⟨wr.heap.size+1,2,none⟩) (Nat.le_succ _) (.string ⟨U.toArray⟩)).drew);refine(CT.out _ HBW.out).mono ?_;rintro e w5 ⟨⟨v5,rfl⟩,hg5,hb5⟩)
    | fail))
   . have hc1:c=1:=by assumption
     subst hc1
     go_roundg l.length
     case measure=>have:=HK.out;simp only[List.length_cons]at this;omega
     case rel=>exact JaN HS.out ((HT.out _ HBW.out).2 rfl) HB.out HR.out hg5 hb5 HO.out h1 h2 h3 h4
   . go_roundg l.length
     case measure=>have:=HK.out;simp only[List.length_cons]at this;omega
     case rel=>exact JaN HS.out (HT.out _ HBW.out).1 HB.out HR.out hg5 hb5 HO.out h1 h2 h3 h4
  | both =>
   rename_i p q A B l m hla hlb o1 o2 m0 hm b1 b2 hS'
   obtain⟨oa,ca,rfl,ea1,ea2,eag,ea3,ka0,ka1,ka2⟩:=JaT hI.r1;obtain⟨ob,cb,rfl,eb1,eb2,ebg,eb3,kb0,kb1,kb2⟩:=JaT hI.r2;have hlp:=JaJ o1;have hlq:=JaJ o2;have cLA:Hid (∀wx,Calls Tryz.prog 225 #[Jay p] wx fun e w'=>e=.returned (.bool false)/\Below wx.heap.size wx w'):=fun wx=>by
    have:=Jbu p wx;rw[show decide (p.put≠[])=false from hla]at this;exact this
   have cLB:Hid (∀wx,Calls Tryz.prog 225 #[Jay q] wx fun e w'=>e=.returned (.bool false)/\Below wx.heap.size wx w'):=fun wx=>by
    have:=Jbu q wx;rw[show decide (q.put≠[])=false from hlb]at this;exact this
   have cNP:Hid (∀wx,Calls Tryz.prog 267 #[Jay p] wx fun e w'=>e=.returned (.int .i64 (Jac p))/\Below wx.heap.size wx w'):=fun wx=>JbW p wx (by rcases o1 with ⟨h1,h2,h3⟩|⟨h1,h2,h3⟩|⟨h1,h2,h3⟩<;>exact⟨by omega,by omega⟩) (by unfold Jac at b1;omega)
   have cNQ:Hid (∀wx,Calls Tryz.prog 267 #[Jay q] wx fun e w'=>e=.returned (.int .i64 (Jac q))/\Below wx.heap.size wx w'):=fun wx=>JbW q wx (by rcases o2 with ⟨h1,h2,h3⟩|⟨h1,h2,h3⟩|⟨h1,h2,h3⟩<;>exact⟨by omega,by omega⟩) (by unfold Jac at b2;omega)
   have CC1:Hid (∀W',winP W' g1 (.slice (some ⟨g1,oa,none⟩) (A.length+1) ca) (p :: A)->Calls Tryz.prog 268 #[.slice (some ⟨g1,oa,none⟩) (A.length+1) ca,.int .i64 m] W' fun e w'=>∃v',e=.returned (.tuple #[Jay (cutP p m).1,v'])/\winP w' g1 v' ((cutP p m).2++A)/\ButO g1 W' w'):=fun W' h=>Jgm g1 _ p A m W' h o1 m0 (by omega) b1
   have CC2:Hid (∀W',winP W' g2 (.slice (some ⟨g2,ob,none⟩) (B.length+1) cb) (q :: B)->Calls Tryz.prog 268 #[.slice (some ⟨g2,ob,none⟩) (B.length+1) cb,.int .i64 m] W' fun e w'=>∃v',e=.returned (.tuple #[Jay (cutP q m).1,v'])/\winP w' g2 v' ((cutP q m).2++B)/\ButO g2 W' w'):=fun W' h=>Jgm g2 _ q B m W' h o2 m0 (by omega) b2
   have CT:Hid (∀W',gath M W' a s->Jdb bx W'->Calls Tryz.prog 228 #[Jay (cutP p m).1,Jay (cutP q m).1,.pointer (some ⟨β,0,none⟩)] W' (Jcw M a s (t ((cutP p m).1,(cutP q m).1)) W')):=fun W' hg hb=>cT.out s ((cutP p m).1,(cutP q m).1) T n l W' hg hb HB.out
   have HS:Hid (Side Jaa Jaa ((cutP p m).2++A) ((cutP q m).2++B) l):=hS';have hm1:(m:Int)<1000000000:=by omega
   clear hS' hla hlb o1 o2 hlp hlq b1 b2;generalize Jac p=LP at *;generalize Jac q=LQ at *;obtain⟨R1,hR1⟩:∃R,(cutP p m).2++A=R:=⟨_,rfl⟩;obtain⟨R2,hR2⟩:∃R,(cutP q m).2++B=R:=⟨_,rfl⟩;obtain⟨x1,hx1⟩:∃x,(cutP p m).1=x:=⟨_,rfl⟩;obtain⟨x2,hx2⟩:∃x,(cutP q m).1=x:=⟨_,rfl⟩;rw[hR1,hx1]at CC1;rw[hR2,hx2]at CC2;rw[hx1,hx2]at CT HB HR;rw[hR1,hR2]at HS;rw[hx1,hx2]at HK;clear hR1 hR2 hx1 hx2;obtain⟨K1,D1,U1⟩:=x1;obtain⟨K2,D2,U2⟩:=x2;have HW1:Hid (winP wr g1 (.slice (some ⟨g1,oa,none⟩) (A.length+1) ca) (p :: A)):=hI.r1;have HW2:Hid (winP wr g2 (.slice (some ⟨g2,ob,none⟩) (B.length+1) cb) (q :: B)):=hI.r2;have HEG1:Hid (g1<wr.heap.size):=eag;have HEG2:Hid (g2<wr.heap.size):=ebg;obtain⟨KA,DA,UA⟩:=p;obtain⟨KB,DB,UB⟩:=q;simp only at ka0 ka1 ka2 kb0 kb1 kb2;have HKA:Hid (wr.cell? ⟨g1,oa,none⟩=some (.int .i64 KA)/\wr.cell? ⟨g1,oa+1,none⟩=some (.int .i64 DA)/\wr.cell? ⟨g1,oa+2,none⟩=some (.string ⟨UA.toArray⟩)):=⟨ka0,ka1,ka2⟩;have HKB:Hid (wr.cell? ⟨g2,ob,none⟩=some (.int .i64 KB)/\wr.cell? ⟨g2,ob+1,none⟩=some (.int .i64 DB)/\wr.cell? ⟨g2,ob+2,none⟩=some (.string ⟨UB.toArray⟩)):=⟨kb0,kb1,kb2⟩;have hia:(0:Int)<(A.length:Int)+1:=by omega
   have hib:(0:Int)<(B.length:Int)+1:=by omega
   unfold Jay at cLA cLB cNP cNQ CC1 CC2 CT;clear hI ea3 eb3
   go_wp2_with (first
    | (have _:=HB1;go_at_call 225;refine(cLB.out _).mono ?_;rintro e w2 ⟨rfl,hb2⟩;have HR2:Hid (w2.heap[wr.heap.size]?=some (.cells #[.int .i64 0,.int .i64 0,.string ⟨#[]⟩] 50 (0,0))):=(hb2.block _ (Jah HR1.out)).trans HR1.out;have HP2:Hid (w2.heap[wr.heap.size+1]?=some (.cells #[.int .i64 0,.int .i64 0,.string ⟨#[]⟩] 50 (0,0))):=(hb2.block _ (Jah HP1.out)).trans HP1.out;have HB2:=hdz (HB1.out.trans (hb2.mono HB1.out.size));clear hb2;have xa0:w2.cell? ⟨g1,oa,none⟩=some (.int .i64 KA):=(HB2.out.cell HEG1.out).trans HKA.out.1;have xa1:w2.cell? ⟨g1,oa+1,none⟩=some (.int .i64 DA):=(HB2.out.cell HEG1.out).trans HKA.out.2.1;have xa2:w2.cell? ⟨g1,oa+2,none⟩=some (.string ⟨UA.toArray⟩):=(HB2.out.cell HEG1.out).trans HKA.out.2.2;have xc0:w2.cell? ⟨g2,ob,none⟩=some (.int .i64 KB):=(HB2.out.cell HEG2.out).trans HKB.out.1;have xc1:w2.cell? ⟨g2,ob+1,none⟩=some (.int .i64 DB):=(HB2.out.cell HEG2.out).trans HKB.out.2.1;have xc2:w2.cell? ⟨g2,ob+2,none⟩=some (.string ⟨UB.toArray⟩):=(HB2.out.cell HEG2.out).trans HKB.out.2.2)
    | (go_at_call 225;refine(cLA.out _).mono ?_;rintro e w1 ⟨rfl,hb1⟩;obtain⟨y1,y2,y3⟩:=JaL hb1;have HR1:Hid (w1.heap[wr.heap.size]?=some (.cells #[.int .i64 0,.int .i64 0,.string ⟨#[]⟩] 50 (0,0))):=y1;have HP1:Hid (w1.heap[wr.heap.size+1]?=some (.cells #[.int .i64 0,.int .i64 0,.string ⟨#[]⟩] 50 (0,0))):=y2;have HB1:=hdz y3;clear y1 y2 y3 hb1;have xb0:w1.cell? ⟨g2,ob,none⟩=some (.int .i64 KB):=(HB1.out.cell HEG2.out).trans HKB.out.1;have xb1:w1.cell? ⟨g2,ob+1,none⟩=some (.int .i64 DB):=(HB1.out.cell HEG2.out).trans HKB.out.2.1;have xb2:w1.cell? ⟨g2,ob+2,none⟩=some (.string ⟨UB.toArray⟩):=(HB1.out.cell HEG2.out).trans HKB.out.2.2)
    | fail)
   go_region_with (first
    | (have _:=HB3;go_at_call 267;refine(cNQ.out _).mono ?_;rintro e w4 ⟨rfl,hb4⟩;have HR4:Hid (w4.heap[wr.heap.size]?=some (.cells #[.int .i64 0,.int .i64 0,.string ⟨#[]⟩] 50 (0,0))):=(hb4.block _ (Jah HR3.out)).trans HR3.out;have HP4:Hid (w4.heap[wr.heap.size+1]?=some (.cells #[.int .i64 0,.int .i64 0,.string ⟨#[]⟩] 50 (0,0))):=(hb4.block _ (Jah HP3.out)).trans HP3.out;have HB4:=hdz (HB3.out.trans (hb4.mono HB3.out.size));clear hb4)
    | (have _:=HB2;go_at_call 267;refine(cNP.out _).mono ?_;rintro e w3 ⟨rfl,hb3⟩;have HR3:Hid (w3.heap[wr.heap.size]?=some (.cells #[.int .i64 0,.int .i64 0,.string ⟨#[]⟩] 50 (0,0))):=(hb3.block _ (Jah HR2.out)).trans HR2.out;have HP3:Hid (w3.heap[wr.heap.size+1]?=some (.cells #[.int .i64 0,.int .i64 0,.string ⟨#[]⟩] 50 (0,0))):=(hb3.block _ (Jah HP2.out)).trans HP2.out;have HB3:Hid (Below wr.heap.size wr w3):=HB2.out.drew.trans (hb3.mono HB2.out.size);clear hb3;have xd0:w3.cell? ⟨g2,ob,none⟩=some (.int .i64 KB):=(HB3.out.cell HEG2.out).trans HKB.out.1;have xd1:w3.cell? ⟨g2,ob+1,none⟩=some (.int .i64 DB):=(HB3.out.cell HEG2.out).trans HKB.out.2.1;have xd2:w3.cell? ⟨g2,ob+2,none⟩=some (.string ⟨UB.toArray⟩):=(HB3.out.cell HEG2.out).trans HKB.out.2.2)
    | fail)
   all_goals (
    go_wp2_with (first
     | (have _:=HT7;go_at_call 228;have HI8:Hid (sideI M a g1 g2 bx w _ _ R1 R2 s (((w7.setCell ⟨wr.heap.size+1,0,none⟩ (.int .i64 K2)).setCell ⟨wr.heap.size+1,1,none⟩ (.int .i64 D2)).setCell ⟨wr.heap.size+1,2,none⟩ (.string ⟨U2.toArray⟩))):=HI.out.both (HT7.out.above3 (Nat.le_succ _) _ _ _) HO.out h1 h2 h3 h4 (Jbd HO7.out (by simp) fun _=>Jbx (by have:=HEG1.out;omega)) (Jbd HQ7.out (by simp) fun _=>Jbx (by have:=HEG2.out;omega));refine(CT.out _ HI8.out.g HI8.out.b).mono ?_;rintro e w9 ⟨⟨v9,rfl⟩,hg9,hb9⟩)
     | (have _:=HT5;go_at_call 268;have HT6:Hid (ButO g1 wr (((w5.setCell ⟨wr.heap.size,0,none⟩ (.int .i64 K1)).setCell ⟨wr.heap.size,1,none⟩ (.int .i64 D1)).setCell ⟨wr.heap.size,2,none⟩ (.string ⟨U1.toArray⟩))):=HT5.out.above3 (nlr _) _ _ _;have HR6:Hid ((((w5.setCell ⟨wr.heap.size,0,none⟩ (.int .i64 K1)).setCell ⟨wr.heap.size,1,none⟩ (.int .i64 D1)).setCell ⟨wr.heap.size,2,none⟩ (.string ⟨U1.toArray⟩)).heap[wr.heap.size]?=some (.cells #[.int .i64 K1,.int .i64 D1,.string ⟨U1.toArray⟩] 50 (0,0))):=Jmr HR5.out _ _ _;have HP6:Hid ((((w5.setCell ⟨wr.heap.size,0,none⟩ (.int .i64 K1)).setCell ⟨wr.heap.size,1,none⟩ (.int .i64 D1)).setCell ⟨wr.heap.size,2,none⟩ (.string ⟨U1.toArray⟩)).heap[wr.heap.size+1]?=some (.cells #[.int .i64 0,.int .i64 0,.string ⟨#[]⟩] 50 (0,0))):=(Jbx (by omega)).trans HP5.out;have HQ6:Hid (winP (((w5.setCell ⟨wr.heap.size,0,none⟩ (.int .i64 K1)).setCell ⟨wr.heap.size,1,none⟩ (.int .i64 D1)).setCell ⟨wr.heap.size,2,none⟩ (.string ⟨U1.toArray⟩)) g1 _ R1):=Jbd HQ5.out (by simp) fun _=>Jbx (by have:=HEG1.out;omega);refine(CC2.out _ (Jbd HW2.out HT6.out.size fun hg=>HT6.out.block g2 hg (Ne.symm HNE.out))).mono ?_;rintro e w7 ⟨v7,rfl,hw7,hb7⟩;have HQ7:Hid (winP w7 g2 v7 R2):=hw7;have hbz:ButO g2 (((w5.setCell ⟨wr.heap.size,0,none⟩ (.int .i64 K1)).setCell ⟨wr.heap.size,1,none⟩ (.int .i64 D1)).setCell ⟨wr.heap.size,2,none⟩ (.string ⟨U1.toArray⟩)) w7:=⟨hb7.os,hb7.tape,hb7.output,hb7.size,hb7.block⟩;obtain⟨p7,c7,rfl,_⟩:=hw7;have HO7:Hid (winP w7 g1 _ R1):=JgK HQ6.out hbz HNE.out;have HR7:Hid (w7.heap[wr.heap.size]?=some (.cells #[.int .i64 K1,.int .i64 D1,.string ⟨U1.toArray⟩] 50 (0,0))):=(hbz.block _ (Jah HR6.out) (by have:=HEG2.out;omega)).trans HR6.out;have HP7:Hid (w7.heap[wr.heap.size+1]?=some (.cells #[.int .i64 0,.int .i64 0,.string ⟨#[]⟩] 50 (0,0))):=(hbz.block _ (Jah HP6.out) (by have:=HEG2.out;omega)).trans HP6.out;have HT7:Hid (But2 g1 g2 wr w7):=(But2.of1 HT6.out).cut2 hbz;clear hb7 hbz;have t0:w7.cell? ⟨wr.heap.size,0,none⟩=some (.int .i64 K1):=chp HR7.out 0;have t1:w7.cell? ⟨wr.heap.size,1,none⟩=some (.int .i64 D1):=chp HR7.out 1;have t2:w7.cell? ⟨wr.heap.size,2,none⟩=some (.string ⟨U1.toArray⟩):=chp HR7.out 2;have q0:w7.cell? ⟨wr.heap.size+1,0,none⟩=some (.int .i64 0):=chp HP7.out 0;have q1:w7.cell? ⟨wr.heap.size+1,1,none⟩=some (.int .i64 0):=chp HP7.out 1;have q2:w7.cell? ⟨wr.heap.size+1,2,none⟩=some (.string ⟨#[]⟩):=chp HP7.out 2;have qF0:w7.frozen? ⟨wr.heap.size+1,0,none⟩=false:=frozen_of_heap HP7.out 0;have qF1:w7.frozen? ⟨wr.heap.size+1,1,none⟩=false:=frozen_of_heap HP7.out 1;have qF2:w7.frozen? ⟨wr.heap.size+1,2,none⟩=false:=frozen_of_heap HP7.out 2)
     | (have _:=HB4;go_at_call 268;refine(CC1.out _ (Jbd HW1.out HB4.out.size fun hg=>HB4.out.block g1 hg)).mono ?_;rintro e w5 ⟨v5,rfl,hw5,hb5⟩;have HQ5:Hid (winP w5 g1 v5 R1):=hw5;have hbz:ButO g1 w4 w5:=⟨hb5.os,hb5.tape,hb5.output,hb5.size,hb5.block⟩;obtain⟨p5,c5,rfl,_⟩:=hw5;have HR5:Hid (w5.heap[wr.heap.size]?=some (.cells #[.int .i64 0,.int .i64 0,.string ⟨#[]⟩] 50 (0,0))):=(hbz.block _ (Jah HR4.out) (by have:=HEG1.out;omega)).trans HR4.out;have HP5:Hid (w5.heap[wr.heap.size+1]?=some (.cells #[.int .i64 0,.int .i64 0,.string ⟨#[]⟩] 50 (0,0))):=(hbz.block _ (Jah HP4.out) (by have:=HEG1.out;omega)).trans HP4.out;have HT5:Hid (ButO g1 wr w5):=(ButO.of HB4.out).trans hbz;clear hb5 hbz;have r0:w5.cell? ⟨wr.heap.size,0,none⟩=some (.int .i64 0):=chp HR5.out 0;have r1:w5.cell? ⟨wr.heap.size,1,none⟩=some (.int .i64 0):=chp HR5.out 1;have r2:w5.cell? ⟨wr.heap.size,2,none⟩=some (.string ⟨#[]⟩):=chp HR5.out 2;have rF0:w5.frozen? ⟨wr.heap.size,0,none⟩=false:=frozen_of_heap HR5.out 0;have rF1:w5.frozen? ⟨wr.heap.size,1,none⟩=false:=frozen_of_heap HR5.out 1;have rF2:w5.frozen? ⟨wr.heap.size,2,none⟩=false:=frozen_of_heap HR5.out 2)
     | fail)
    go_roundg l.length
    case measure=>have:=HK.out;simp only[List.length_cons]at this;omega
    case rel=>exact JaN HS.out HI8.out HB.out HR.out hg9 hb9 HO.out h1 h2 h3 h4)
theorem Jnr(M a g1 g2 β:Nat)(bx:List (Nat×Obj))(v1 v2:Value)(A0 B0:List Pt)(l0:List (Pt×Pt))(s0:NSt)(w:World){T0:Int}{n0:Nat}(hI0:sideI M a g1 g2 bx w v1 v2 A0 B0 s0 w)(hS0:Side Jaa Jaa A0 B0 l0)(hB0:BdS (fun x=>Jbl (x.2,x.1)) l0 s0 T0 n0)(ho0:JdD a g1 g2 bx)(h1:a+4<=g1)(h2:g1<M)(h3:a+4<=g2)(h4:g2<M)(hne0:g1≠g2)
    (cT0:∀(s:NSt) (x:Pt×Pt) (T:Int) (n:Nat) (W:World),gath M W a s->Jdb bx W->Bd s T n->(∀p∈(fun x=>Jbl (x.2,x.1)) x,JbA p)->T+wts ((fun x=>Jbl (x.2,x.1)) x)<1000000000->n<10000000->Calls Tryz.prog 229 #[Jay x.1,Jay x.2,.pointer (some ⟨β,0,none⟩)] W (Jcw M a s ((fun x=>Jbl (x.2,x.1)) x) W)) :
    Calls Tryz.prog 223 #[v1,v2,.func (.func 225) #[] #[],.func (.func 225) #[] #[],.func (.func 229) #[] #[.pointer (some ⟨β,0,none⟩)]] w fun e w'=>(∃v,e=.returned v)/\gath M w' a (runS (fun x=>Jbl (x.2,x.1)) l0 s0)/\Jdb bx w'/\Below a w w':=by
 obtain⟨S,hS⟩:∃S,runS (fun x=>Jbl (x.2,x.1)) l0 s0=S:=⟨_,rfl⟩;rw[hS];obtain⟨t,ht⟩:∃t:Pt×Pt->List Pt,t=(fun x=>Jbl (x.2,x.1)):=⟨_,rfl⟩;rw[←ht]at hB0 hS cT0;have cT:Hid (∀(s:NSt) (x:Pt×Pt) (T:Int) (n:Nat) (l:List (Pt×Pt)) (W:World),gath M W a s->Jdb bx W->BdS t (x :: l) s T n->Calls Tryz.prog 229 #[Jay x.1,Jay x.2,.pointer (some ⟨β,0,none⟩)] W (Jcw M a s (t x) W)):=fun s x T n l W hg hb hB=>cT0 s x T n W hg hb hB.bd hB.head.1 hB.head.2.1 hB.head.2.2
 have hst:JhV Jaa Jaa t M a g1 g2 bx w S l0.length v1 v2 w:=⟨A0,B0,l0,s0,T0,n0,rfl,hS0,hI0,hB0,hS⟩;have HST:Hid (JhV Jaa Jaa t M a g1 g2 bx w S l0.length v1 v2 w):=hst;have HO:Hid (JdD a g1 g2 bx):=ho0;have HNE:Hid (g1≠g2):=hne0;clear ht cT0 hI0 hS0 hB0 ho0 hS hst hne0
 go_enter Tryz.func223,Tryz.ntmps223
 go_wp2
 go_loopg [0,1] l0.length (fun k u1 u2 wr=>JhV Jaa Jaa t M a g1 g2 bx w S k u1 u2 wr)
 case atStart=>exact HST.out
 case round =>
  obtain⟨A,B,l,s,T,n,hk,hSd,hI,hB,hR⟩:=hrel;have hwz:=hI.below.size;have HK:Hid (l.length=gk):=hk;have HI:=hdz hI;have HB:=hdz hB;have HR:=hdz hR;clear HST;clear hk hB hR
  cases hSd with
  | nil =>
   obtain⟨p1,c1,rfl,_,_,_⟩:=hI.r1;obtain⟨p2,c2,rfl,_,_,_⟩:=hI.r2;clear hI;go_wp2;go_end0;have hx:=HI.out;exact⟨⟨_,rfl⟩,by rw[←HR.out];exact hx.g,hx.b,hx.below⟩
  | left =>
   rename_i p A l hl hS'
   obtain⟨o,c,rfl,e1,e2,eg,e3,k0,k1,k2⟩:=JaT hI.r1;obtain⟨p2,c2,rfl,_,_,_⟩:=hI.r2;have cL:Hid (∀wx,Calls Tryz.prog 225 #[Jay p] wx fun e w'=>e=.returned (.bool true)/\Below wx.heap.size wx w'):=fun wx=>by
    have:=Jbu p wx;rw[show decide (p.put≠[])=true from hl]at this;exact this
   have CT:Hid (∀W',Below wr.heap.size wr W'->Calls Tryz.prog 229 #[Jay (p,noP).1,Jay (p,noP).2,.pointer (some ⟨β,0,none⟩)] W' (Jcw M a s (t (p,noP)) W')):=fun W' hb=>cT.out s (p,noP) T n l W' (HI.out.grow hb).g (HI.out.grow hb).b HB.out
   have HS:Hid (Side Jaa Jaa _ _ l):=hS';have HT:Hid (∀W',Below wr.heap.size wr W'->_/\_):=fun W' hb=>sideI.tail1 HI.out hb
   obtain⟨K,D,U⟩:=p;simp only at k0 k1 k2;have HKC:Hid (wr.cell? ⟨g1,o,none⟩=some (.int .i64 K)/\wr.cell? ⟨g1,o+1,none⟩=some (.int .i64 D)/\wr.cell? ⟨g1,o+2,none⟩=some (.string ⟨U.toArray⟩)):=⟨k0,k1,k2⟩;have HEG:Hid (g1<wr.heap.size):=eg;have hi0:(0:Int)<(A.length:Int)+1:=by omega
   have hi1:(1:Int)<=(A.length:Int)+1:=by omega
   unfold noP at CT;unfold Jay at cL CT;clear hI hS' hl
   go_wp2_with (first
    | (go_at_call 225;refine(cL.out _).mono ?_;rintro e w1 ⟨rfl,hb1⟩;obtain⟨b1,b2,b3⟩:=JaL hb1;have HR1:Hid (w1.heap[wr.heap.size]?=some (.cells #[.int .i64 0,.int .i64 0,.string ⟨#[]⟩] 50 (0,0))):=b1;have HP1:Hid (w1.heap[wr.heap.size+1]?=some (.cells #[.int .i64 0,.int .i64 0,.string ⟨#[]⟩] 50 (0,0))):=b2;have HB1:=hdz b3;clear b1 b2 b3 hb1;have r0:w1.cell? ⟨wr.heap.size,0,none⟩=some (.int .i64 0):=chp HR1.out 0;have r1:w1.cell? ⟨wr.heap.size,1,none⟩=some (.int .i64 0):=chp HR1.out 1;have r2:w1.cell? ⟨wr.heap.size,2,none⟩=some (.string ⟨#[]⟩):=chp HR1.out 2;have rF0:w1.frozen? ⟨wr.heap.size,0,none⟩=false:=frozen_of_heap HR1.out 0;have rF1:w1.frozen? ⟨wr.heap.size,1,none⟩=false:=frozen_of_heap HR1.out 1;have rF2:w1.frozen? ⟨wr.heap.size,2,none⟩=false:=frozen_of_heap HR1.out 2;have q0:w1.cell? ⟨wr.heap.size+1,0,none⟩=some (.int .i64 0):=chp HP1.out 0;have q1:w1.cell? ⟨wr.heap.size+1,1,none⟩=some (.int .i64 0):=chp HP1.out 1;have q2:w1.cell? ⟨wr.heap.size+1,2,none⟩=some (.string ⟨#[]⟩):=chp HP1.out 2;have qF0:w1.frozen? ⟨wr.heap.size+1,0,none⟩=false:=frozen_of_heap HP1.out 0;have qF1:w1.frozen? ⟨wr.heap.size+1,1,none⟩=false:=frozen_of_heap HP1.out 1;have qF2:w1.frozen? ⟨wr.heap.size+1,2,none⟩=false:=frozen_of_heap HP1.out 2;have x0:w1.cell? ⟨g1,o,none⟩=some (.int .i64 K):=(HB1.out.cell HEG.out).trans HKC.out.1;have x1:w1.cell? ⟨g1,o+1,none⟩=some (.int .i64 D):=(HB1.out.cell HEG.out).trans HKC.out.2.1;have x2:w1.cell? ⟨g1,o+2,none⟩=some (.string ⟨U.toArray⟩):=(HB1.out.cell HEG.out).trans HKC.out.2.2)
    | fail)
   obtain⟨s0,s1,s2,hsz,hoth⟩:=JbR r0 r1 r2 (.int .i64 K) (.int .i64 D) (.string ⟨U.toArray⟩)
   go_region
   all_goals (go_wp2_with (first
    | (go_at_call 229;have HBW:Hid (Below wr.heap.size wr _):=((((HB1.out.setCell (p:=⟨wr.heap.size,0,none⟩) (nlr _) (.int .i64 K)).setCell (p:=⟨wr.heap.size,1,none⟩) (nlr _) (.int .i64 D)).setCell (p:=⟨wr.heap.size,2,none⟩) (nlr _) (.string ⟨U.toArray⟩)).drew);refine(CT.out _ HBW.out).mono ?_;rintro e w5 ⟨⟨v5,rfl⟩,hg5,hb5⟩)
    | fail))
   . have hc1:c=1:=by assumption
     subst hc1
     go_roundg l.length
     case measure=>have:=HK.out;simp only[List.length_cons]at this;omega
     case rel=>exact JaN HS.out ((HT.out _ HBW.out).2 rfl) HB.out HR.out hg5 hb5 HO.out h1 h2 h3 h4
   . go_roundg l.length
     case measure=>have:=HK.out;simp only[List.length_cons]at this;omega
     case rel=>exact JaN HS.out (HT.out _ HBW.out).1 HB.out HR.out hg5 hb5 HO.out h1 h2 h3 h4
  | last =>
   rename_i p B l hl hS'
   obtain⟨p2,c2,rfl,_,_,_⟩:=hI.r1;obtain⟨o,c,rfl,e1,e2,eg,e3,k0,k1,k2⟩:=JaT hI.r2;have cL:Hid (∀wx,Calls Tryz.prog 225 #[Jay p] wx fun e w'=>e=.returned (.bool true)/\Below wx.heap.size wx w'):=fun wx=>by
    have:=Jbu p wx;rw[show decide (p.put≠[])=true from hl]at this;exact this
   have CT:Hid (∀W',Below wr.heap.size wr W'->Calls Tryz.prog 229 #[Jay (noP,p).1,Jay (noP,p).2,.pointer (some ⟨β,0,none⟩)] W' (Jcw M a s (t (noP,p)) W')):=fun W' hb=>cT.out s (noP,p) T n l W' (HI.out.grow hb).g (HI.out.grow hb).b HB.out
   have HS:Hid (Side Jaa Jaa _ _ l):=hS';have HT:Hid (∀W',Below wr.heap.size wr W'->_/\_):=fun W' hb=>sideI.tail2 HI.out hb
   obtain⟨K,D,U⟩:=p;simp only at k0 k1 k2;have HKC:Hid (wr.cell? ⟨g2,o,none⟩=some (.int .i64 K)/\wr.cell? ⟨g2,o+1,none⟩=some (.int .i64 D)/\wr.cell? ⟨g2,o+2,none⟩=some (.string ⟨U.toArray⟩)):=⟨k0,k1,k2⟩;have HEG:Hid (g2<wr.heap.size):=eg;have hi0:(0:Int)<(B.length:Int)+1:=by omega
   have hi1:(1:Int)<=(B.length:Int)+1:=by omega
   unfold noP at CT;unfold Jay at cL CT;clear hI hS' hl
   go_wp2_with (first
    | (go_at_call 225;refine(cL.out _).mono ?_;rintro e w1 ⟨rfl,hb1⟩;obtain⟨b1,b2,b3⟩:=JaL hb1;have HR1:Hid (w1.heap[wr.heap.size]?=some (.cells #[.int .i64 0,.int .i64 0,.string ⟨#[]⟩] 50 (0,0))):=b1;have HP1:Hid (w1.heap[wr.heap.size+1]?=some (.cells #[.int .i64 0,.int .i64 0,.string ⟨#[]⟩] 50 (0,0))):=b2;have HB1:=hdz b3;clear b1 b2 b3 hb1;have r0:w1.cell? ⟨wr.heap.size,0,none⟩=some (.int .i64 0):=chp HR1.out 0;have r1:w1.cell? ⟨wr.heap.size,1,none⟩=some (.int .i64 0):=chp HR1.out 1;have r2:w1.cell? ⟨wr.heap.size,2,none⟩=some (.string ⟨#[]⟩):=chp HR1.out 2;have rF0:w1.frozen? ⟨wr.heap.size,0,none⟩=false:=frozen_of_heap HR1.out 0;have rF1:w1.frozen? ⟨wr.heap.size,1,none⟩=false:=frozen_of_heap HR1.out 1;have rF2:w1.frozen? ⟨wr.heap.size,2,none⟩=false:=frozen_of_heap HR1.out 2;have q0:w1.cell? ⟨wr.heap.size+1,0,none⟩=some (.int .i64 0):=chp HP1.out 0;have q1:w1.cell? ⟨wr.heap.size+1,1,none⟩=some (.int .i64 0):=chp HP1.out 1;have q2:w1.cell? ⟨wr.heap.size+1,2,none⟩=some (.string ⟨#[]⟩):=chp HP1.out 2;have qF0:w1.frozen? ⟨wr.heap.size+1,0,none⟩=false:=frozen_of_heap HP1.out 0;have qF1:w1.frozen? ⟨wr.heap.size+1,1,none⟩=false:=frozen_of_heap HP1.out 1;have qF2:w1.frozen? ⟨wr.heap.size+1,2,none⟩=false:=frozen_of_heap HP1.out 2;have x0:w1.cell? ⟨g2,o,none⟩=some (.int .i64 K):=(HB1.out.cell HEG.out).trans HKC.out.1;have x1:w1.cell? ⟨g2,o+1,none⟩=some (.int .i64 D):=(HB1.out.cell HEG.out).trans HKC.out.2.1;have x2:w1.cell? ⟨g2,o+2,none⟩=some (.string ⟨U.toArray⟩):=(HB1.out.cell HEG.out).trans HKC.out.2.2)
    | fail)
   obtain⟨s0,s1,s2,hsz,hoth⟩:=JbR q0 q1 q2 (.int .i64 K) (.int .i64 D) (.string ⟨U.toArray⟩)
   go_region
   all_goals (go_wp2_with (first
    | (go_at_call 229;have HBW:Hid (Below wr.heap.size wr _):=((((HB1.out.setCell (p:=⟨wr.heap.size+1,0,none⟩) (Nat.le_succ _) (.int .i64 K)).setCell (p:=⟨wr.heap.size+1,1,none⟩) (Nat.le_succ _) (.int .i64 D)).setCell (p:=⟨wr.heap.size+1,2,none⟩) (Nat.le_succ _) (.string ⟨U.toArray⟩)).drew);refine(CT.out _ HBW.out).mono ?_;rintro e w5 ⟨⟨v5,rfl⟩,hg5,hb5⟩)
    | fail))
   . have hc1:c=1:=by assumption
     subst hc1
     go_roundg l.length
     case measure=>have:=HK.out;simp only[List.length_cons]at this;omega
     case rel=>exact JaN HS.out ((HT.out _ HBW.out).2 rfl) HB.out HR.out hg5 hb5 HO.out h1 h2 h3 h4
   . go_roundg l.length
     case measure=>have:=HK.out;simp only[List.length_cons]at this;omega
     case rel=>exact JaN HS.out (HT.out _ HBW.out).1 HB.out HR.out hg5 hb5 HO.out h1 h2 h3 h4
  | right =>
   rename_i pa p A B l hla hl hS'
   obtain⟨oa,ca,rfl,ea1,ea2,eag,ea3,ka0,ka1,ka2⟩:=JaT hI.r1;obtain⟨o,c,rfl,e1,e2,eg,e3,k0,k1,k2⟩:=JaT hI.r2;have cLA:Hid (∀wx,Calls Tryz.prog 225 #[Jay pa] wx fun e w'=>e=.returned (.bool false)/\Below wx.heap.size wx w'):=fun wx=>by
    have:=Jbu pa wx;rw[show decide (pa.put≠[])=false from hla]at this;exact this
   have cL:Hid (∀wx,Calls Tryz.prog 225 #[Jay p] wx fun e w'=>e=.returned (.bool true)/\Below wx.heap.size wx w'):=fun wx=>by
    have:=Jbu p wx;rw[show decide (p.put≠[])=true from hl]at this;exact this
   have CT:Hid (∀W',Below wr.heap.size wr W'->Calls Tryz.prog 229 #[Jay (noP,p).1,Jay (noP,p).2,.pointer (some ⟨β,0,none⟩)] W' (Jcw M a s (t (noP,p)) W')):=fun W' hb=>cT.out s (noP,p) T n l W' (HI.out.grow hb).g (HI.out.grow hb).b HB.out
   have HS:Hid (Side Jaa Jaa _ _ l):=hS';have HT:Hid (∀W',Below wr.heap.size wr W'->_/\_):=fun W' hb=>sideI.tail2 HI.out hb
   obtain⟨KA,DA,UA⟩:=pa;simp only at ka0 ka1 ka2;have HKA:Hid (wr.cell? ⟨g1,oa,none⟩=some (.int .i64 KA)/\wr.cell? ⟨g1,oa+1,none⟩=some (.int .i64 DA)/\wr.cell? ⟨g1,oa+2,none⟩=some (.string ⟨UA.toArray⟩)):=⟨ka0,ka1,ka2⟩;have hia:(0:Int)<(A.length:Int)+1:=by omega
   unfold Jay at cLA;obtain⟨K,D,U⟩:=p;simp only at k0 k1 k2;have HKC:Hid (wr.cell? ⟨g2,o,none⟩=some (.int .i64 K)/\wr.cell? ⟨g2,o+1,none⟩=some (.int .i64 D)/\wr.cell? ⟨g2,o+2,none⟩=some (.string ⟨U.toArray⟩)):=⟨k0,k1,k2⟩;have HEG:Hid (g2<wr.heap.size):=eg;have hi0:(0:Int)<(B.length:Int)+1:=by omega
   have hi1:(1:Int)<=(B.length:Int)+1:=by omega
   unfold noP at CT;unfold Jay at cL CT;clear hI hS' hl hla
   go_wp2_with (first
    | (have _:=HB1;go_at_call 225;refine(cL.out _).mono ?_;rintro e w2 ⟨rfl,hb2⟩;have HR2:Hid (w2.heap[wr.heap.size]?=some (.cells #[.int .i64 0,.int .i64 0,.string ⟨#[]⟩] 50 (0,0))):=(hb2.block _ (Jah HR1.out)).trans HR1.out;have HP2:Hid (w2.heap[wr.heap.size+1]?=some (.cells #[.int .i64 0,.int .i64 0,.string ⟨#[]⟩] 50 (0,0))):=(hb2.block _ (Jah HP1.out)).trans HP1.out;have HB2:=hdz (HB1.out.trans (hb2.mono HB1.out.size));clear hb2;have r0:w2.cell? ⟨wr.heap.size,0,none⟩=some (.int .i64 0):=chp HR2.out 0;have r1:w2.cell? ⟨wr.heap.size,1,none⟩=some (.int .i64 0):=chp HR2.out 1;have r2:w2.cell? ⟨wr.heap.size,2,none⟩=some (.string ⟨#[]⟩):=chp HR2.out 2;have rF0:w2.frozen? ⟨wr.heap.size,0,none⟩=false:=frozen_of_heap HR2.out 0;have rF1:w2.frozen? ⟨wr.heap.size,1,none⟩=false:=frozen_of_heap HR2.out 1;have rF2:w2.frozen? ⟨wr.heap.size,2,none⟩=false:=frozen_of_heap HR2.out 2;have q0:w2.cell? ⟨wr.heap.size+1,0,none⟩=some (.int .i64 0):=chp HP2.out 0;have q1:w2.cell? ⟨wr.heap.size+1,1,none⟩=some (.int .i64 0):=chp HP2.out 1;have q2:w2.cell? ⟨wr.heap.size+1,2,none⟩=some (.string ⟨#[]⟩):=chp HP2.out 2;have qF0:w2.frozen? ⟨wr.heap.size+1,0,none⟩=false:=frozen_of_heap HP2.out 0;have qF1:w2.frozen? ⟨wr.heap.size+1,1,none⟩=false:=frozen_of_heap HP2.out 1;have qF2:w2.frozen? ⟨wr.heap.size+1,2,none⟩=false:=frozen_of_heap HP2.out 2;have x0:w2.cell? ⟨g2,o,none⟩=some (.int .i64 K):=(HB2.out.cell HEG.out).trans HKC.out.1;have x1:w2.cell? ⟨g2,o+1,none⟩=some (.int .i64 D):=(HB2.out.cell HEG.out).trans HKC.out.2.1;have x2:w2.cell? ⟨g2,o+2,none⟩=some (.string ⟨U.toArray⟩):=(HB2.out.cell HEG.out).trans HKC.out.2.2)
    | (go_at_call 225;refine(cLA.out _).mono ?_;rintro e w1 ⟨rfl,hb1⟩;obtain⟨b1,b2,b3⟩:=JaL hb1;have HR1:Hid (w1.heap[wr.heap.size]?=some (.cells #[.int .i64 0,.int .i64 0,.string ⟨#[]⟩] 50 (0,0))):=b1;have HP1:Hid (w1.heap[wr.heap.size+1]?=some (.cells #[.int .i64 0,.int .i64 0,.string ⟨#[]⟩] 50 (0,0))):=b2;have HB1:=hdz b3;clear b1 b2 b3 hb1;have x0:w1.cell? ⟨g2,o,none⟩=some (.int .i64 K):=(HB1.out.cell HEG.out).trans HKC.out.1;have x1:w1.cell? ⟨g2,o+1,none⟩=some (.int .i64 D):=(HB1.out.cell HEG.out).trans HKC.out.2.1;have x2:w1.cell? ⟨g2,o+2,none⟩=some (.string ⟨U.toArray⟩):=(HB1.out.cell HEG.out).trans HKC.out.2.2)
    | fail)
   obtain⟨s0,s1,s2,hsz,hoth⟩:=JbR q0 q1 q2 (.int .i64 K) (.int .i64 D) (.string ⟨U.toArray⟩)
   go_region
   all_goals (go_wp2_with (first
    | (go_at_call 229;have HBW:Hid (Below wr.heap.size wr _):=((((HB2.out.setCell (p:=⟨wr.heap.size+1,0,none⟩) (Nat.le_succ _) (.int .i64 K)).setCell (p:=⟨wr.heap.size+1,1,none⟩) (Nat.le_succ _) (.int .i64 D)).setCell (p:=⟨wr.heap.size+1,2,none⟩) (Nat.le_succ _) (.string ⟨U.toArray⟩)).drew);refine(CT.out _ HBW.out).mono ?_;rintro e w5 ⟨⟨v5,rfl⟩,hg5,hb5⟩)
    | fail))
   . have hc1:c=1:=by assumption
     subst hc1
     go_roundg l.length
     case measure=>have:=HK.out;simp only[List.length_cons]at this;omega
     case rel=>exact JaN HS.out ((HT.out _ HBW.out).2 rfl) HB.out HR.out hg5 hb5 HO.out h1 h2 h3 h4
   . go_roundg l.length
     case measure=>have:=HK.out;simp only[List.length_cons]at this;omega
     case rel=>exact JaN HS.out (HT.out _ HBW.out).1 HB.out HR.out hg5 hb5 HO.out h1 h2 h3 h4
  | both =>
   rename_i p q A B l m hla hlb o1 o2 m0 hm b1 b2 hS'
   obtain⟨oa,ca,rfl,ea1,ea2,eag,ea3,ka0,ka1,ka2⟩:=JaT hI.r1;obtain⟨ob,cb,rfl,eb1,eb2,ebg,eb3,kb0,kb1,kb2⟩:=JaT hI.r2;have hlp:=JaJ o1;have hlq:=JaJ o2;have cLA:Hid (∀wx,Calls Tryz.prog 225 #[Jay p] wx fun e w'=>e=.returned (.bool false)/\Below wx.heap.size wx w'):=fun wx=>by
    have:=Jbu p wx;rw[show decide (p.put≠[])=false from hla]at this;exact this
   have cLB:Hid (∀wx,Calls Tryz.prog 225 #[Jay q] wx fun e w'=>e=.returned (.bool false)/\Below wx.heap.size wx w'):=fun wx=>by
    have:=Jbu q wx;rw[show decide (q.put≠[])=false from hlb]at this;exact this
   have cNP:Hid (∀wx,Calls Tryz.prog 267 #[Jay p] wx fun e w'=>e=.returned (.int .i64 (Jac p))/\Below wx.heap.size wx w'):=fun wx=>JbW p wx (by rcases o1 with ⟨h1,h2,h3⟩|⟨h1,h2,h3⟩|⟨h1,h2,h3⟩<;>exact⟨by omega,by omega⟩) (by unfold Jac at b1;omega)
   have cNQ:Hid (∀wx,Calls Tryz.prog 267 #[Jay q] wx fun e w'=>e=.returned (.int .i64 (Jac q))/\Below wx.heap.size wx w'):=fun wx=>JbW q wx (by rcases o2 with ⟨h1,h2,h3⟩|⟨h1,h2,h3⟩|⟨h1,h2,h3⟩<;>exact⟨by omega,by omega⟩) (by unfold Jac at b2;omega)
   have CC1:Hid (∀W',winP W' g1 (.slice (some ⟨g1,oa,none⟩) (A.length+1) ca) (p :: A)->Calls Tryz.prog 268 #[.slice (some ⟨g1,oa,none⟩) (A.length+1) ca,.int .i64 m] W' fun e w'=>∃v',e=.returned (.tuple #[Jay (cutP p m).1,v'])/\winP w' g1 v' ((cutP p m).2++A)/\ButO g1 W' w'):=fun W' h=>Jgm g1 _ p A m W' h o1 m0 (by omega) b1
   have CC2:Hid (∀W',winP W' g2 (.slice (some ⟨g2,ob,none⟩) (B.length+1) cb) (q :: B)->Calls Tryz.prog 268 #[.slice (some ⟨g2,ob,none⟩) (B.length+1) cb,.int .i64 m] W' fun e w'=>∃v',e=.returned (.tuple #[Jay (cutP q m).1,v'])/\winP w' g2 v' ((cutP q m).2++B)/\ButO g2 W' w'):=fun W' h=>Jgm g2 _ q B m W' h o2 m0 (by omega) b2
   have CT:Hid (∀W',gath M W' a s->Jdb bx W'->Calls Tryz.prog 229 #[Jay (cutP p m).1,Jay (cutP q m).1,.pointer (some ⟨β,0,none⟩)] W' (Jcw M a s (t ((cutP p m).1,(cutP q m).1)) W')):=fun W' hg hb=>cT.out s ((cutP p m).1,(cutP q m).1) T n l W' hg hb HB.out
   have HS:Hid (Side Jaa Jaa ((cutP p m).2++A) ((cutP q m).2++B) l):=hS';have hm1:(m:Int)<1000000000:=by omega
   clear hS' hla hlb o1 o2 hlp hlq b1 b2;generalize Jac p=LP at *;generalize Jac q=LQ at *;obtain⟨R1,hR1⟩:∃R,(cutP p m).2++A=R:=⟨_,rfl⟩;obtain⟨R2,hR2⟩:∃R,(cutP q m).2++B=R:=⟨_,rfl⟩;obtain⟨x1,hx1⟩:∃x,(cutP p m).1=x:=⟨_,rfl⟩;obtain⟨x2,hx2⟩:∃x,(cutP q m).1=x:=⟨_,rfl⟩;rw[hR1,hx1]at CC1;rw[hR2,hx2]at CC2;rw[hx1,hx2]at CT HB HR;rw[hR1,hR2]at HS;rw[hx1,hx2]at HK;clear hR1 hR2 hx1 hx2;obtain⟨K1,D1,U1⟩:=x1;obtain⟨K2,D2,U2⟩:=x2;have HW1:Hid (winP wr g1 (.slice (some ⟨g1,oa,none⟩) (A.length+1) ca) (p :: A)):=hI.r1;have HW2:Hid (winP wr g2 (.slice (some ⟨g2,ob,none⟩) (B.length+1) cb) (q :: B)):=hI.r2;have HEG1:Hid (g1<wr.heap.size):=eag;have HEG2:Hid (g2<wr.heap.size):=ebg;obtain⟨KA,DA,UA⟩:=p;obtain⟨KB,DB,UB⟩:=q;simp only at ka0 ka1 ka2 kb0 kb1 kb2;have HKA:Hid (wr.cell? ⟨g1,oa,none⟩=some (.int .i64 KA)/\wr.cell? ⟨g1,oa+1,none⟩=some (.int .i64 DA)/\wr.cell? ⟨g1,oa+2,none⟩=some (.string ⟨UA.toArray⟩)):=⟨ka0,ka1,ka2⟩;have HKB:Hid (wr.cell? ⟨g2,ob,none⟩=some (.int .i64 KB)/\wr.cell? ⟨g2,ob+1,none⟩=some (.int .i64 DB)/\wr.cell? ⟨g2,ob+2,none⟩=some (.string ⟨UB.toArray⟩)):=⟨kb0,kb1,kb2⟩;have hia:(0:Int)<(A.length:Int)+1:=by omega
   have hib:(0:Int)<(B.length:Int)+1:=by omega
   unfold Jay at cLA cLB cNP cNQ CC1 CC2 CT;clear hI ea3 eb3
   go_wp2_with (first
    | (have _:=HB1;go_at_call 225;refine(cLB.out _).mono ?_;rintro e w2 ⟨rfl,hb2⟩;have HR2:Hid (w2.heap[wr.heap.size]?=some (.cells #[.int .i64 0,.int .i64 0,.string ⟨#[]⟩] 50 (0,0))):=(hb2.block _ (Jah HR1.out)).trans HR1.out;have HP2:Hid (w2.heap[wr.heap.size+1]?=some (.cells #[.int .i64 0,.int .i64 0,.string ⟨#[]⟩] 50 (0,0))):=(hb2.block _ (Jah HP1.out)).trans HP1.out;have HB2:=hdz (HB1.out.trans (hb2.mono HB1.out.size));clear hb2;have xa0:w2.cell? ⟨g1,oa,none⟩=some (.int .i64 KA):=(HB2.out.cell HEG1.out).trans HKA.out.1;have xa1:w2.cell? ⟨g1,oa+1,none⟩=some (.int .i64 DA):=(HB2.out.cell HEG1.out).trans HKA.out.2.1;have xa2:w2.cell? ⟨g1,oa+2,none⟩=some (.string ⟨UA.toArray⟩):=(HB2.out.cell HEG1.out).trans HKA.out.2.2;have xc0:w2.cell? ⟨g2,ob,none⟩=some (.int .i64 KB):=(HB2.out.cell HEG2.out).trans HKB.out.1;have xc1:w2.cell? ⟨g2,ob+1,none⟩=some (.int .i64 DB):=(HB2.out.cell HEG2.out).trans HKB.out.2.1;have xc2:w2.cell? ⟨g2,ob+2,none⟩=some (.string ⟨UB.toArray⟩):=(HB2.out.cell HEG2.out).trans HKB.out.2.2)
    | (go_at_call 225;refine(cLA.out _).mono ?_;rintro e w1 ⟨rfl,hb1⟩;obtain⟨y1,y2,y3⟩:=JaL hb1;have HR1:Hid (w1.heap[wr.heap.size]?=some (.cells #[.int .i64 0,.int .i64 0,.string ⟨#[]⟩] 50 (0,0))):=y1;have HP1:Hid (w1.heap[wr.heap.size+1]?=some (.cells #[.int .i64 0,.int .i64 0,.string ⟨#[]⟩] 50 (0,0))):=y2;have HB1:=hdz y3;clear y1 y2 y3 hb1;have xb0:w1.cell? ⟨g2,ob,none⟩=some (.int .i64 KB):=(HB1.out.cell HEG2.out).trans HKB.out.1;have xb1:w1.cell? ⟨g2,ob+1,none⟩=some (.int .i64 DB):=(HB1.out.cell HEG2.out).trans HKB.out.2.1;have xb2:w1.cell? ⟨g2,ob+2,none⟩=some (.string ⟨UB.toArray⟩):=(HB1.out.cell HEG2.out).trans HKB.out.2.2)
    | fail)
   go_region_with (first
    | (have _:=HB3;go_at_call 267;refine(cNQ.out _).mono ?_;rintro e w4 ⟨rfl,hb4⟩;have HR4:Hid (w4.heap[wr.heap.size]?=some (.cells #[.int .i64 0,.int .i64 0,.string ⟨#[]⟩] 50 (0,0))):=(hb4.block _ (Jah HR3.out)).trans HR3.out;have HP4:Hid (w4.heap[wr.heap.size+1]?=some (.cells #[.int .i64 0,.int .i64 0,.string ⟨#[]⟩] 50 (0,0))):=(hb4.block _ (Jah HP3.out)).trans HP3.out;have HB4:=hdz (HB3.out.trans (hb4.mono HB3.out.size));clear hb4)
    | (have _:=HB2;go_at_call 267;refine(cNP.out _).mono ?_;rintro e w3 ⟨rfl,hb3⟩;have HR3:Hid (w3.heap[wr.heap.size]?=some (.cells #[.int .i64 0,.int .i64 0,.string ⟨#[]⟩] 50 (0,0))):=(hb3.block _ (Jah HR2.out)).trans HR2.out;have HP3:Hid (w3.heap[wr.heap.size+1]?=some (.cells #[.int .i64 0,.int .i64 0,.string ⟨#[]⟩] 50 (0,0))):=(hb3.block _ (Jah HP2.out)).trans HP2.out;have HB3:Hid (Below wr.heap.size wr w3):=HB2.out.drew.trans (hb3.mono HB2.out.size);clear hb3;have xd0:w3.cell? ⟨g2,ob,none⟩=some (.int .i64 KB):=(HB3.out.cell HEG2.out).trans HKB.out.1;have xd1:w3.cell? ⟨g2,ob+1,none⟩=some (.int .i64 DB):=(HB3.out.cell HEG2.out).trans HKB.out.2.1;have xd2:w3.cell? ⟨g2,ob+2,none⟩=some (.string ⟨UB.toArray⟩):=(HB3.out.cell HEG2.out).trans HKB.out.2.2)
    | fail)
   all_goals (
    go_wp2_with (first
     | (have _:=HT7;go_at_call 229;have HI8:Hid (sideI M a g1 g2 bx w _ _ R1 R2 s (((w7.setCell ⟨wr.heap.size+1,0,none⟩ (.int .i64 K2)).setCell ⟨wr.heap.size+1,1,none⟩ (.int .i64 D2)).setCell ⟨wr.heap.size+1,2,none⟩ (.string ⟨U2.toArray⟩))):=HI.out.both (HT7.out.above3 (Nat.le_succ _) _ _ _) HO.out h1 h2 h3 h4 (Jbd HO7.out (by simp) fun _=>Jbx (by have:=HEG1.out;omega)) (Jbd HQ7.out (by simp) fun _=>Jbx (by have:=HEG2.out;omega));refine(CT.out _ HI8.out.g HI8.out.b).mono ?_;rintro e w9 ⟨⟨v9,rfl⟩,hg9,hb9⟩)
     | (have _:=HT5;go_at_call 268;have HT6:Hid (ButO g1 wr (((w5.setCell ⟨wr.heap.size,0,none⟩ (.int .i64 K1)).setCell ⟨wr.heap.size,1,none⟩ (.int .i64 D1)).setCell ⟨wr.heap.size,2,none⟩ (.string ⟨U1.toArray⟩))):=HT5.out.above3 (nlr _) _ _ _;have HR6:Hid ((((w5.setCell ⟨wr.heap.size,0,none⟩ (.int .i64 K1)).setCell ⟨wr.heap.size,1,none⟩ (.int .i64 D1)).setCell ⟨wr.heap.size,2,none⟩ (.string ⟨U1.toArray⟩)).heap[wr.heap.size]?=some (.cells #[.int .i64 K1,.int .i64 D1,.string ⟨U1.toArray⟩] 50 (0,0))):=Jmr HR5.out _ _ _;have HP6:Hid ((((w5.setCell ⟨wr.heap.size,0,none⟩ (.int .i64 K1)).setCell ⟨wr.heap.size,1,none⟩ (.int .i64 D1)).setCell ⟨wr.heap.size,2,none⟩ (.string ⟨U1.toArray⟩)).heap[wr.heap.size+1]?=some (.cells #[.int .i64 0,.int .i64 0,.string ⟨#[]⟩] 50 (0,0))):=(Jbx (by omega)).trans HP5.out;have HQ6:Hid (winP (((w5.setCell ⟨wr.heap.size,0,none⟩ (.int .i64 K1)).setCell ⟨wr.heap.size,1,none⟩ (.int .i64 D1)).setCell ⟨wr.heap.size,2,none⟩ (.string ⟨U1.toArray⟩)) g1 _ R1):=Jbd HQ5.out (by simp) fun _=>Jbx (by have:=HEG1.out;omega);refine(CC2.out _ (Jbd HW2.out HT6.out.size fun hg=>HT6.out.block g2 hg (Ne.symm HNE.out))).mono ?_;rintro e w7 ⟨v7,rfl,hw7,hb7⟩;have HQ7:Hid (winP w7 g2 v7 R2):=hw7;have hbz:ButO g2 (((w5.setCell ⟨wr.heap.size,0,none⟩ (.int .i64 K1)).setCell ⟨wr.heap.size,1,none⟩ (.int .i64 D1)).setCell ⟨wr.heap.size,2,none⟩ (.string ⟨U1.toArray⟩)) w7:=⟨hb7.os,hb7.tape,hb7.output,hb7.size,hb7.block⟩;obtain⟨p7,c7,rfl,_⟩:=hw7;have HO7:Hid (winP w7 g1 _ R1):=JgK HQ6.out hbz HNE.out;have HR7:Hid (w7.heap[wr.heap.size]?=some (.cells #[.int .i64 K1,.int .i64 D1,.string ⟨U1.toArray⟩] 50 (0,0))):=(hbz.block _ (Jah HR6.out) (by have:=HEG2.out;omega)).trans HR6.out;have HP7:Hid (w7.heap[wr.heap.size+1]?=some (.cells #[.int .i64 0,.int .i64 0,.string ⟨#[]⟩] 50 (0,0))):=(hbz.block _ (Jah HP6.out) (by have:=HEG2.out;omega)).trans HP6.out;have HT7:Hid (But2 g1 g2 wr w7):=(But2.of1 HT6.out).cut2 hbz;clear hb7 hbz;have t0:w7.cell? ⟨wr.heap.size,0,none⟩=some (.int .i64 K1):=chp HR7.out 0;have t1:w7.cell? ⟨wr.heap.size,1,none⟩=some (.int .i64 D1):=chp HR7.out 1;have t2:w7.cell? ⟨wr.heap.size,2,none⟩=some (.string ⟨U1.toArray⟩):=chp HR7.out 2;have q0:w7.cell? ⟨wr.heap.size+1,0,none⟩=some (.int .i64 0):=chp HP7.out 0;have q1:w7.cell? ⟨wr.heap.size+1,1,none⟩=some (.int .i64 0):=chp HP7.out 1;have q2:w7.cell? ⟨wr.heap.size+1,2,none⟩=some (.string ⟨#[]⟩):=chp HP7.out 2;have qF0:w7.frozen? ⟨wr.heap.size+1,0,none⟩=false:=frozen_of_heap HP7.out 0;have qF1:w7.frozen? ⟨wr.heap.size+1,1,none⟩=false:=frozen_of_heap HP7.out 1;have qF2:w7.frozen? ⟨wr.heap.size+1,2,none⟩=false:=frozen_of_heap HP7.out 2)
     | (have _:=HB4;go_at_call 268;refine(CC1.out _ (Jbd HW1.out HB4.out.size fun hg=>HB4.out.block g1 hg)).mono ?_;rintro e w5 ⟨v5,rfl,hw5,hb5⟩;have HQ5:Hid (winP w5 g1 v5 R1):=hw5;have hbz:ButO g1 w4 w5:=⟨hb5.os,hb5.tape,hb5.output,hb5.size,hb5.block⟩;obtain⟨p5,c5,rfl,_⟩:=hw5;have HR5:Hid (w5.heap[wr.heap.size]?=some (.cells #[.int .i64 0,.int .i64 0,.string ⟨#[]⟩] 50 (0,0))):=(hbz.block _ (Jah HR4.out) (by have:=HEG1.out;omega)).trans HR4.out;have HP5:Hid (w5.heap[wr.heap.size+1]?=some (.cells #[.int .i64 0,.int .i64 0,.string ⟨#[]⟩] 50 (0,0))):=(hbz.block _ (Jah HP4.out) (by have:=HEG1.out;omega)).trans HP4.out;have HT5:Hid (ButO g1 wr w5):=(ButO.of HB4.out).trans hbz;clear hb5 hbz;have r0:w5.cell? ⟨wr.heap.size,0,none⟩=some (.int .i64 0):=chp HR5.out 0;have r1:w5.cell? ⟨wr.heap.size,1,none⟩=some (.int .i64 0):=chp HR5.out 1;have r2:w5.cell? ⟨wr.heap.size,2,none⟩=some (.string ⟨#[]⟩):=chp HR5.out 2;have rF0:w5.frozen? ⟨wr.heap.size,0,none⟩=false:=frozen_of_heap HR5.out 0;have rF1:w5.frozen? ⟨wr.heap.size,1,none⟩=false:=frozen_of_heap HR5.out 1;have rF2:w5.frozen? ⟨wr.heap.size,2,none⟩=false:=frozen_of_heap HR5.out 2)
     | fail)
    go_roundg l.length
    case measure=>have:=HK.out;simp only[List.length_cons]at this;omega
    case rel=>exact JaN HS.out HI8.out HB.out HR.out hg9 hb9 HO.out h1 h2 h3 h4)
end
end Go.Proofs.YtedgnlgjmnccgabGreatDoor
