/-
  A part of the texts that the proof uses.
-/
import Derived.Test.YtbkeomcicobohaaGreatDoorPartD
set_option maxRecDepth 100000
set_option maxHeartbeats 40000000
set_option linter.unusedVariables false
namespace Go.Proofs.YtbkeomcicobohaaGreatDoor
open Go.Proofs.Tryz Go.RowKit Go.Maps
section
attribute [local go_sem] Oper.semAt_some
theorem JtB(g:Nat)(v:Value)(p:Pt)(ps:List Pt)(n:Nat)(w:World)(h:winP w g v (p :: ps))(hp:oneP p)(h0:0<n)(hn:(n:Int)<=Jaf p)(hb:Jaf p<1000000000) :
    Cg 251 #[v,I6 n] w λe w'=>∃v',e=.returned (.tuple #[JaX (cutP p n).1,v'])/\winP w' g v' ((cutP p n).2++ps)/\ButO g w w':=by
 by_cases e:Jaf p=n
 . have hc:cutP p n=(p,[]):=by unfold cutP;rw[if_pos e]
   rw[hc];exact cut_all g v p ps n w h (by rcases hp with ⟨h1,h2,h3⟩|⟨h1,h2,h3⟩|⟨h1,h2,h3⟩<;>exact⟨by omega,by omega⟩) e (by omega)
 . obtain ⟨K,D,U⟩:=p
   have hl:Jaf ⟨K,D,U⟩=K+D+U.length:=rfl;rw[hl]at e hn hb;have he:¬Jaf ⟨K,D,U⟩=n:=e
   rcases hp with ⟨h1,h2,h3⟩|⟨h1,h2,h3⟩|⟨h1,h2,h3⟩
   . replace h1:0<K:=h1
     obtain rfl:D=0:=h2;obtain rfl:U=[]:=h3;simp only[List.length_nil,Int.add_zero,Int.natCast_zero]at e hn hb;have hc:cutP ⟨K,0,[]⟩ n=(⟨n,0,[]⟩,[⟨K - n,0,[]⟩]):=by unfold cutP;rw[if_neg he,if_pos h1]
     rw[hc];exact Jv2 g v K ps n w h h0 (by omega) (by omega)
   . obtain rfl:K=0:=h1
     replace h2:0<D:=h2
     obtain rfl:U=[]:=h3;simp only[List.length_nil,Int.add_zero,Int.zero_add,Int.natCast_zero]at e hn hb;have hc:cutP ⟨0,D,[]⟩ n=(⟨0,n,[]⟩,[⟨0,D - n,[]⟩]):=by unfold cutP;rw[if_neg he,if_neg (by show ¬(0:Int)<0;omega),if_pos h2]
     rw[hc];exact Jv3 g v D ps n w h h0 (by omega) (by omega)
   . obtain rfl:K=0:=h1
     obtain rfl:D=0:=h2;simp only[Int.zero_add]at e hn hb;have hc:cutP ⟨0,0,U⟩ n=(⟨0,0,U.take n⟩,[⟨0,0,U.drop n⟩]):=by unfold cutP;rw[if_neg he,if_neg (by show ¬(0:Int)<0;omega),if_neg (by show ¬(0:Int)<0;omega)];rfl
     rw[hc];exact cut_put g v U ps n w h h0 (by omega) (by omega)
def addV (a:Nat):Value:=.func (.func 248) #[] #[.pointer (some (Ad (a+1) 0)),.pointer (some (Ad (a+2) 0)),.pointer (some (Ad (a+3) 0)),Pd a 0]
def Jg0 (M a:Nat) (s:NSt) (l:List Pt) (w:World) (e:Ending) (w':World):Prop:=(∃v,e=.returned v)/\gath M w' a (l.foldl addP s)/\BelowG M a w w'
theorem Jec{M a:Nat}{s:NSt}{p:Pt}{w wx w':World}{v:Value}(hb:Bw w wx)(ha:a<=w.heap.size)(hg:gath M w' a (addP s p))(hb':BelowG M a wx w'):Jg0 M a s [p] w (.returned v) w' :=
 ⟨⟨v,rfl⟩,hg,(BelowG.of hb ha).trans hb'⟩
theorem Jus(M a β:Nat)(s:NSt)(K D K2 D2:Int)(U U2:List UInt8)(w:World)(HG:Hid (gath M w a s))(hlt:a+3<w.heap.size)(HX:Hid (w.heap[β]?=some (Oc #[addV a] 258)))(c1:Hid (∀wx,Cg 209 #[.agg #[I6 K2,I6 D2,Sx U2]] wx (Rt wx (.bool true))))(cA:Hid (∀wx,Bw w wx->Cg 248 #[.agg #[I6 (U2.length:Int),I6 0,.string ⟨#[]⟩],.pointer (some (Ad (a+1) 0)),.pointer (some (Ad (a+2) 0)),.pointer (some (Ad (a+3) 0)),Pd a 0] wx λe w'=>(∃v,e=.returned v)/\gath M w' a (addP s ⟨(U2.length:Int),0,[]⟩)/\BelowG M a wx w')) :
    Cg 269 #[.agg #[I6 K,I6 D,Sx U],.agg #[I6 K2,I6 D2,Sx U2],Pd β 0] w (Jg0 M a s [⟨(U2.length:Int),0,[]⟩] w):=by
 have hz:(ByteArray.mk U2.toArray).size=U2.length:=by simp[ByteArray.size]
 go_enter func269,ntmps269
 go_wp2_with (first
  | (have _:=HB1;go_at_call 248;refine(cA.out _ HB1.out).mono ?_;rintro e w9 ⟨⟨v9,rfl⟩,hg9,hb9⟩)
  | (go_at_call 209;refine(c1.out _).mono ?_;rintro e w1 ⟨rfl,hb1⟩;obtain⟨b1,b2,b3⟩:=Jb3 hb1;have HR1:=hdz b1;have HP1:=hdz b2;have HB1:=hdz b3;have o0:=cQ HR1.out 0 rfl;have o1:=cQ HR1.out 1 rfl;have o2:=cQ HR1.out 2 rfl;have p0:=cQ HP1.out 0 rfl;have p1:=cQ HP1.out 1 rfl;have p2:=cQ HP1.out 2 rfl;have yf:w1.cell? (Ad β 0)=some (addV a):=chp ((HB1.out.block β (Jaw HX.out)).trans HX.out) 0;unfold addV at yf;clear b1 b2 b3 hb1))
 go_end0;exact Jec HB1.out (by omega) hg9 hb9
theorem Jur(M a β:Nat)(s:NSt)(K D K2 D2:Int)(U U2:List UInt8)(w:World)(HG:Hid (gath M w a s))(hlt:a+3<w.heap.size)(HX:Hid (w.heap[β]?=some (Oc #[addV a] 258)))(c1:Hid (∀wx,Cg 209 #[.agg #[I6 K2,I6 D2,Sx U2]] wx (Rt wx (.bool false))))(c2:Hid (∀wx,Cg 209 #[.agg #[I6 K,I6 D,Sx U]] wx (Rt wx (.bool true))))(cA:Hid (∀wx,Bw w wx->Cg 248 #[.agg #[I6 K,I6 D,Sx U],.pointer (some (Ad (a+1) 0)),.pointer (some (Ad (a+2) 0)),.pointer (some (Ad (a+3) 0)),Pd a 0] wx λe w'=>(∃v,e=.returned v)/\gath M w' a (addP s ⟨K,D,U⟩)/\BelowG M a wx w')) :
    Cg 269 #[.agg #[I6 K,I6 D,Sx U],.agg #[I6 K2,I6 D2,Sx U2],Pd β 0] w (Jg0 M a s [⟨K,D,U⟩] w):=by
 have hz:(ByteArray.mk U2.toArray).size=U2.length:=by simp[ByteArray.size]
 go_enter func269,ntmps269
 go_wp2_with (first
  | (have _:=HB2;go_at_call 248;refine(cA.out _ HB2.out).mono ?_;rintro e w9 ⟨⟨v9,rfl⟩,hg9,hb9⟩)
  | (have _:=HB1;go_at_call 209;refine(c2.out _).mono ?_;rintro e w2 ⟨rfl,hb2⟩;have HR2:Hid (w2.heap[w.heap.size]?=some (Oc #[I6 K,I6 D,Sx U] 96)):=(hb2.block _ (Jaw HR1.out)).trans HR1.out;have HP2:Hid (w2.heap[w.heap.size+1]?=some (Oc #[I6 K2,I6 D2,Sx U2] 96)):=(hb2.block _ (Jaw HP1.out)).trans HP1.out;have HB2:=hdz (HB1.out.trans (hb2.mono HB1.out.size));have o0:=cQ HR2.out 0 rfl;have o1:=cQ HR2.out 1 rfl;have o2:=cQ HR2.out 2 rfl;have p0:=cQ HP2.out 0 rfl;have p1:=cQ HP2.out 1 rfl;have p2:=cQ HP2.out 2 rfl;have yf:w2.cell? (Ad β 0)=some (addV a):=chp ((HB2.out.block β (Jaw HX.out)).trans HX.out) 0;unfold addV at yf;clear hb2)
  | (go_at_call 209;refine(c1.out _).mono ?_;rintro e w1 ⟨rfl,hb1⟩;obtain⟨b1,b2,b3⟩:=Jb3 hb1;have HR1:=hdz b1;have HP1:=hdz b2;have HB1:=hdz b3;have o0:=cQ HR1.out 0 rfl;have o1:=cQ HR1.out 1 rfl;have o2:=cQ HR1.out 2 rfl;have p0:=cQ HP1.out 0 rfl;have p1:=cQ HP1.out 1 rfl;have p2:=cQ HP1.out 2 rfl;clear b1 b2 b3 hb1))
 go_end0;exact Jec HB2.out (by omega) hg9 hb9
theorem Jq1(M a β:Nat)(s:NSt)(K D K2 D2:Int)(U U2:List UInt8)(w:World)(HG:Hid (gath M w a s))(hlt:a+3<w.heap.size)(HX:Hid (w.heap[β]?=some (Oc #[addV a] 258)))(c1:Hid (∀wx,Cg 209 #[.agg #[I6 K2,I6 D2,Sx U2]] wx (Rt wx (.bool false))))(c2:Hid (∀wx,Cg 209 #[.agg #[I6 K,I6 D,Sx U]] wx (Rt wx (.bool false))))(c3:Hid (∀wx,Cg 159 #[.agg #[I6 K2,I6 D2,Sx U2]] wx (Rt wx (.bool true))))(cA:Hid (∀wx,Bw w wx->Cg 248 #[.agg #[I6 K,I6 D,Sx U],.pointer (some (Ad (a+1) 0)),.pointer (some (Ad (a+2) 0)),.pointer (some (Ad (a+3) 0)),Pd a 0] wx λe w'=>(∃v,e=.returned v)/\gath M w' a (addP s ⟨K,D,U⟩)/\BelowG M a wx w')) :
    Cg 269 #[.agg #[I6 K,I6 D,Sx U],.agg #[I6 K2,I6 D2,Sx U2],Pd β 0] w (Jg0 M a s [⟨K,D,U⟩] w):=by
 have hz:(ByteArray.mk U2.toArray).size=U2.length:=by simp[ByteArray.size]
 go_enter func269,ntmps269
 go_wp2_with (first
  | (have _:=HB3;go_at_call 248;refine(cA.out _ HB3.out).mono ?_;rintro e w9 ⟨⟨v9,rfl⟩,hg9,hb9⟩)
  | (have _:=HB2;go_at_call 159;refine(c3.out _).mono ?_;rintro e w3 ⟨rfl,hb3⟩;have HR3:Hid (w3.heap[w.heap.size]?=some (Oc #[I6 K,I6 D,Sx U] 96)):=(hb3.block _ (Jaw HR2.out)).trans HR2.out;have HP3:Hid (w3.heap[w.heap.size+1]?=some (Oc #[I6 K2,I6 D2,Sx U2] 96)):=(hb3.block _ (Jaw HP2.out)).trans HP2.out;have HB3:=hdz (HB2.out.trans (hb3.mono HB2.out.size));have o0:=cQ HR3.out 0 rfl;have o1:=cQ HR3.out 1 rfl;have o2:=cQ HR3.out 2 rfl;have p0:=cQ HP3.out 0 rfl;have p1:=cQ HP3.out 1 rfl;have p2:=cQ HP3.out 2 rfl;have yf:w3.cell? (Ad β 0)=some (addV a):=chp ((HB3.out.block β (Jaw HX.out)).trans HX.out) 0;unfold addV at yf;clear hb3)
  | (have _:=HB1;go_at_call 209;refine(c2.out _).mono ?_;rintro e w2 ⟨rfl,hb2⟩;have HR2:Hid (w2.heap[w.heap.size]?=some (Oc #[I6 K,I6 D,Sx U] 96)):=(hb2.block _ (Jaw HR1.out)).trans HR1.out;have HP2:Hid (w2.heap[w.heap.size+1]?=some (Oc #[I6 K2,I6 D2,Sx U2] 96)):=(hb2.block _ (Jaw HP1.out)).trans HP1.out;have HB2:=hdz (HB1.out.trans (hb2.mono HB1.out.size));have o0:=cQ HR2.out 0 rfl;have o1:=cQ HR2.out 1 rfl;have o2:=cQ HR2.out 2 rfl;have p0:=cQ HP2.out 0 rfl;have p1:=cQ HP2.out 1 rfl;have p2:=cQ HP2.out 2 rfl;clear hb2)
  | (go_at_call 209;refine(c1.out _).mono ?_;rintro e w1 ⟨rfl,hb1⟩;obtain⟨b1,b2,b3⟩:=Jb3 hb1;have HR1:=hdz b1;have HP1:=hdz b2;have HB1:=hdz b3;have o0:=cQ HR1.out 0 rfl;have o1:=cQ HR1.out 1 rfl;have o2:=cQ HR1.out 2 rfl;have p0:=cQ HP1.out 0 rfl;have p1:=cQ HP1.out 1 rfl;have p2:=cQ HP1.out 2 rfl;clear b1 b2 b3 hb1))
 go_end0;exact Jec HB3.out (by omega) hg9 hb9
theorem Jsf(M a β:Nat)(s:NSt)(K D K2 D2:Int)(U U2:List UInt8)(w:World)(HG:Hid (gath M w a s))(hlt:a+3<w.heap.size)(HX:Hid (w.heap[β]?=some (Oc #[addV a] 258)))(c1:Hid (∀wx,Cg 209 #[.agg #[I6 K2,I6 D2,Sx U2]] wx (Rt wx (.bool false))))(c2:Hid (∀wx,Cg 209 #[.agg #[I6 K,I6 D,Sx U]] wx (Rt wx (.bool false))))(c3:Hid (∀wx,Cg 159 #[.agg #[I6 K2,I6 D2,Sx U2]] wx (Rt wx (.bool false)))) :
    Cg 269 #[.agg #[I6 K,I6 D,Sx U],.agg #[I6 K2,I6 D2,Sx U2],Pd β 0] w (Jg0 M a s [] w):=by
 have hz:(ByteArray.mk U2.toArray).size=U2.length:=by simp[ByteArray.size]
 go_enter func269,ntmps269
 go_wp2_with (first
  | (have _:=HB2;go_at_call 159;refine(c3.out _).mono ?_;rintro e w3 ⟨rfl,hb3⟩;have HR3:Hid (w3.heap[w.heap.size]?=some (Oc #[I6 K,I6 D,Sx U] 96)):=(hb3.block _ (Jaw HR2.out)).trans HR2.out;have HP3:Hid (w3.heap[w.heap.size+1]?=some (Oc #[I6 K2,I6 D2,Sx U2] 96)):=(hb3.block _ (Jaw HP2.out)).trans HP2.out;have HB3:=hdz (HB2.out.trans (hb3.mono HB2.out.size));have o0:=cQ HR3.out 0 rfl;have o1:=cQ HR3.out 1 rfl;have o2:=cQ HR3.out 2 rfl;have p0:=cQ HP3.out 0 rfl;have p1:=cQ HP3.out 1 rfl;have p2:=cQ HP3.out 2 rfl;clear hb3)
  | (have _:=HB1;go_at_call 209;refine(c2.out _).mono ?_;rintro e w2 ⟨rfl,hb2⟩;have HR2:Hid (w2.heap[w.heap.size]?=some (Oc #[I6 K,I6 D,Sx U] 96)):=(hb2.block _ (Jaw HR1.out)).trans HR1.out;have HP2:Hid (w2.heap[w.heap.size+1]?=some (Oc #[I6 K2,I6 D2,Sx U2] 96)):=(hb2.block _ (Jaw HP1.out)).trans HP1.out;have HB2:=hdz (HB1.out.trans (hb2.mono HB1.out.size));have o0:=cQ HR2.out 0 rfl;have o1:=cQ HR2.out 1 rfl;have o2:=cQ HR2.out 2 rfl;have p0:=cQ HP2.out 0 rfl;have p1:=cQ HP2.out 1 rfl;have p2:=cQ HP2.out 2 rfl;clear hb2)
  | (go_at_call 209;refine(c1.out _).mono ?_;rintro e w1 ⟨rfl,hb1⟩;obtain⟨b1,b2,b3⟩:=Jb3 hb1;have HR1:=hdz b1;have HP1:=hdz b2;have HB1:=hdz b3;have o0:=cQ HR1.out 0 rfl;have o1:=cQ HR1.out 1 rfl;have o2:=cQ HR1.out 2 rfl;have p0:=cQ HP1.out 0 rfl;have p1:=cQ HP1.out 1 rfl;have p2:=cQ HP1.out 2 rfl;clear b1 b2 b3 hb1))
 go_end0;exact⟨⟨_,rfl⟩,JbF HG.out HB3.out,BelowG.of HB3.out (by omega)⟩
theorem JtF(M a β:Nat)(s:NSt)(K D K2 D2:Int)(U U2:List UInt8)(w:World)(HG:Hid (gath M w a s))(hlt:a+3<w.heap.size)(HX:Hid (w.heap[β]?=some (Oc #[addV a] 258)))(c1:Hid (∀wx,Cg 208 #[.agg #[I6 K,I6 D,Sx U]] wx (Rt wx (.bool true))))(cA:Hid (∀wx,Bw w wx->Cg 248 #[.agg #[I6 K,I6 D,Sx U],.pointer (some (Ad (a+1) 0)),.pointer (some (Ad (a+2) 0)),.pointer (some (Ad (a+3) 0)),Pd a 0] wx λe w'=>(∃v,e=.returned v)/\gath M w' a (addP s ⟨K,D,U⟩)/\BelowG M a wx w')) :
    Cg 210 #[.agg #[I6 K,I6 D,Sx U],.agg #[I6 K2,I6 D2,Sx U2],Pd β 0] w (Jg0 M a s [⟨K,D,U⟩] w):=by
 have hz:(ByteArray.mk U2.toArray).size=U2.length:=by simp[ByteArray.size]
 go_enter func210,ntmps210
 go_wp2_with (first
  | (have _:=HB1;go_at_call 248;refine(cA.out _ HB1.out).mono ?_;rintro e w9 ⟨⟨v9,rfl⟩,hg9,hb9⟩)
  | (go_at_call 208;refine(c1.out _).mono ?_;rintro e w1 ⟨rfl,hb1⟩;obtain⟨b1,b2,b3⟩:=Jb3 hb1;have HR1:=hdz b1;have HP1:=hdz b2;have HB1:=hdz b3;have o0:=cQ HR1.out 0 rfl;have o1:=cQ HR1.out 1 rfl;have o2:=cQ HR1.out 2 rfl;have p0:=cQ HP1.out 0 rfl;have p1:=cQ HP1.out 1 rfl;have p2:=cQ HP1.out 2 rfl;have yf:w1.cell? (Ad β 0)=some (addV a):=chp ((HB1.out.block β (Jaw HX.out)).trans HX.out) 0;unfold addV at yf;clear b1 b2 b3 hb1))
 go_end0;exact Jec HB1.out (by omega) hg9 hb9
theorem JtE(M a β:Nat)(s:NSt)(K D K2 D2:Int)(U U2:List UInt8)(w:World)(HG:Hid (gath M w a s))(hlt:a+3<w.heap.size)(HX:Hid (w.heap[β]?=some (Oc #[addV a] 258)))(c1:Hid (∀wx,Cg 208 #[.agg #[I6 K,I6 D,Sx U]] wx (Rt wx (.bool false))))(c2:Hid (∀wx,Cg 159 #[.agg #[I6 K2,I6 D2,Sx U2]] wx (Rt wx (.bool true))))(cA:Hid (∀wx,Bw w wx->Cg 248 #[.agg #[I6 K,I6 D,Sx U],.pointer (some (Ad (a+1) 0)),.pointer (some (Ad (a+2) 0)),.pointer (some (Ad (a+3) 0)),Pd a 0] wx λe w'=>(∃v,e=.returned v)/\gath M w' a (addP s ⟨K,D,U⟩)/\BelowG M a wx w')) :
    Cg 210 #[.agg #[I6 K,I6 D,Sx U],.agg #[I6 K2,I6 D2,Sx U2],Pd β 0] w (Jg0 M a s [⟨K,D,U⟩] w):=by
 have hz:(ByteArray.mk U2.toArray).size=U2.length:=by simp[ByteArray.size]
 go_enter func210,ntmps210
 go_wp2_with (first
  | (have _:=HB2;go_at_call 248;refine(cA.out _ HB2.out).mono ?_;rintro e w9 ⟨⟨v9,rfl⟩,hg9,hb9⟩)
  | (have _:=HB1;go_at_call 159;refine(c2.out _).mono ?_;rintro e w2 ⟨rfl,hb2⟩;have HR2:Hid (w2.heap[w.heap.size]?=some (Oc #[I6 K,I6 D,Sx U] 96)):=(hb2.block _ (Jaw HR1.out)).trans HR1.out;have HP2:Hid (w2.heap[w.heap.size+1]?=some (Oc #[I6 K2,I6 D2,Sx U2] 96)):=(hb2.block _ (Jaw HP1.out)).trans HP1.out;have HB2:=hdz (HB1.out.trans (hb2.mono HB1.out.size));have o0:=cQ HR2.out 0 rfl;have o1:=cQ HR2.out 1 rfl;have o2:=cQ HR2.out 2 rfl;have p0:=cQ HP2.out 0 rfl;have p1:=cQ HP2.out 1 rfl;have p2:=cQ HP2.out 2 rfl;have yf:w2.cell? (Ad β 0)=some (addV a):=chp ((HB2.out.block β (Jaw HX.out)).trans HX.out) 0;unfold addV at yf;clear hb2)
  | (go_at_call 208;refine(c1.out _).mono ?_;rintro e w1 ⟨rfl,hb1⟩;obtain⟨b1,b2,b3⟩:=Jb3 hb1;have HR1:=hdz b1;have HP1:=hdz b2;have HB1:=hdz b3;have o0:=cQ HR1.out 0 rfl;have o1:=cQ HR1.out 1 rfl;have o2:=cQ HR1.out 2 rfl;have p0:=cQ HP1.out 0 rfl;have p1:=cQ HP1.out 1 rfl;have p2:=cQ HP1.out 2 rfl;clear b1 b2 b3 hb1))
 go_end0;exact Jec HB2.out (by omega) hg9 hb9
theorem Jv5(M a β:Nat)(s:NSt)(K D K2 D2:Int)(U U2:List UInt8)(w:World)(HG:Hid (gath M w a s))(hlt:a+3<w.heap.size)(HX:Hid (w.heap[β]?=some (Oc #[addV a] 258)))(c1:Hid (∀wx,Cg 208 #[.agg #[I6 K,I6 D,Sx U]] wx (Rt wx (.bool false))))(c2:Hid (∀wx,Cg 159 #[.agg #[I6 K2,I6 D2,Sx U2]] wx (Rt wx (.bool false))))(c3:Hid (∀wx,Cg 209 #[.agg #[I6 K2,I6 D2,Sx U2]] wx (Rt wx (.bool true))))(cA:Hid (∀wx,Bw w wx->Cg 248 #[.agg #[I6 K2,I6 D2,Sx U2],.pointer (some (Ad (a+1) 0)),.pointer (some (Ad (a+2) 0)),.pointer (some (Ad (a+3) 0)),Pd a 0] wx λe w'=>(∃v,e=.returned v)/\gath M w' a (addP s ⟨K2,D2,U2⟩)/\BelowG M a wx w')) :
    Cg 210 #[.agg #[I6 K,I6 D,Sx U],.agg #[I6 K2,I6 D2,Sx U2],Pd β 0] w (Jg0 M a s [⟨K2,D2,U2⟩] w):=by
 have hz:(ByteArray.mk U2.toArray).size=U2.length:=by simp[ByteArray.size]
 go_enter func210,ntmps210
 go_wp2_with (first
  | (have _:=HB3;go_at_call 248;refine(cA.out _ HB3.out).mono ?_;rintro e w9 ⟨⟨v9,rfl⟩,hg9,hb9⟩)
  | (have _:=HB2;go_at_call 209;refine(c3.out _).mono ?_;rintro e w3 ⟨rfl,hb3⟩;have HR3:Hid (w3.heap[w.heap.size]?=some (Oc #[I6 K,I6 D,Sx U] 96)):=(hb3.block _ (Jaw HR2.out)).trans HR2.out;have HP3:Hid (w3.heap[w.heap.size+1]?=some (Oc #[I6 K2,I6 D2,Sx U2] 96)):=(hb3.block _ (Jaw HP2.out)).trans HP2.out;have HB3:=hdz (HB2.out.trans (hb3.mono HB2.out.size));have o0:=cQ HR3.out 0 rfl;have o1:=cQ HR3.out 1 rfl;have o2:=cQ HR3.out 2 rfl;have p0:=cQ HP3.out 0 rfl;have p1:=cQ HP3.out 1 rfl;have p2:=cQ HP3.out 2 rfl;have yf:w3.cell? (Ad β 0)=some (addV a):=chp ((HB3.out.block β (Jaw HX.out)).trans HX.out) 0;unfold addV at yf;clear hb3)
  | (have _:=HB1;go_at_call 159;refine(c2.out _).mono ?_;rintro e w2 ⟨rfl,hb2⟩;have HR2:Hid (w2.heap[w.heap.size]?=some (Oc #[I6 K,I6 D,Sx U] 96)):=(hb2.block _ (Jaw HR1.out)).trans HR1.out;have HP2:Hid (w2.heap[w.heap.size+1]?=some (Oc #[I6 K2,I6 D2,Sx U2] 96)):=(hb2.block _ (Jaw HP1.out)).trans HP1.out;have HB2:=hdz (HB1.out.trans (hb2.mono HB1.out.size));have o0:=cQ HR2.out 0 rfl;have o1:=cQ HR2.out 1 rfl;have o2:=cQ HR2.out 2 rfl;have p0:=cQ HP2.out 0 rfl;have p1:=cQ HP2.out 1 rfl;have p2:=cQ HP2.out 2 rfl;clear hb2)
  | (go_at_call 208;refine(c1.out _).mono ?_;rintro e w1 ⟨rfl,hb1⟩;obtain⟨b1,b2,b3⟩:=Jb3 hb1;have HR1:=hdz b1;have HP1:=hdz b2;have HB1:=hdz b3;have o0:=cQ HR1.out 0 rfl;have o1:=cQ HR1.out 1 rfl;have o2:=cQ HR1.out 2 rfl;have p0:=cQ HP1.out 0 rfl;have p1:=cQ HP1.out 1 rfl;have p2:=cQ HP1.out 2 rfl;clear b1 b2 b3 hb1))
 go_end0;exact Jec HB3.out (by omega) hg9 hb9
theorem Jv4(M a β:Nat)(s:NSt)(K D K2 D2:Int)(U U2:List UInt8)(w:World)(HG:Hid (gath M w a s))(hlt:a+3<w.heap.size)(HX:Hid (w.heap[β]?=some (Oc #[addV a] 258)))(c1:Hid (∀wx,Cg 208 #[.agg #[I6 K,I6 D,Sx U]] wx (Rt wx (.bool false))))(c2:Hid (∀wx,Cg 159 #[.agg #[I6 K2,I6 D2,Sx U2]] wx (Rt wx (.bool false))))(c3:Hid (∀wx,Cg 209 #[.agg #[I6 K2,I6 D2,Sx U2]] wx (Rt wx (.bool false))))(c4:Hid (∀wx,Cg 159 #[.agg #[I6 K,I6 D,Sx U]] wx (Rt wx (.bool true))))(cA:Hid (∀wx,Bw w wx->Cg 248 #[.agg #[I6 K2,I6 D2,Sx U2],.pointer (some (Ad (a+1) 0)),.pointer (some (Ad (a+2) 0)),.pointer (some (Ad (a+3) 0)),Pd a 0] wx λe w'=>(∃v,e=.returned v)/\gath M w' a (addP s ⟨K2,D2,U2⟩)/\BelowG M a wx w')) :
    Cg 210 #[.agg #[I6 K,I6 D,Sx U],.agg #[I6 K2,I6 D2,Sx U2],Pd β 0] w (Jg0 M a s [⟨K2,D2,U2⟩] w):=by
 have hz:(ByteArray.mk U2.toArray).size=U2.length:=by simp[ByteArray.size]
 go_enter func210,ntmps210
 go_wp2_with (first
  | (have _:=HB4;go_at_call 248;refine(cA.out _ HB4.out).mono ?_;rintro e w9 ⟨⟨v9,rfl⟩,hg9,hb9⟩)
  | (have _:=HB3;go_at_call 159;refine(c4.out _).mono ?_;rintro e w4 ⟨rfl,hb4⟩;have HR4:Hid (w4.heap[w.heap.size]?=some (Oc #[I6 K,I6 D,Sx U] 96)):=(hb4.block _ (Jaw HR3.out)).trans HR3.out;have HP4:Hid (w4.heap[w.heap.size+1]?=some (Oc #[I6 K2,I6 D2,Sx U2] 96)):=(hb4.block _ (Jaw HP3.out)).trans HP3.out;have HB4:=hdz (HB3.out.trans (hb4.mono HB3.out.size));have o0:=cQ HR4.out 0 rfl;have o1:=cQ HR4.out 1 rfl;have o2:=cQ HR4.out 2 rfl;have p0:=cQ HP4.out 0 rfl;have p1:=cQ HP4.out 1 rfl;have p2:=cQ HP4.out 2 rfl;have yf:w4.cell? (Ad β 0)=some (addV a):=chp ((HB4.out.block β (Jaw HX.out)).trans HX.out) 0;unfold addV at yf;clear hb4)
  | (have _:=HB2;go_at_call 209;refine(c3.out _).mono ?_;rintro e w3 ⟨rfl,hb3⟩;have HR3:Hid (w3.heap[w.heap.size]?=some (Oc #[I6 K,I6 D,Sx U] 96)):=(hb3.block _ (Jaw HR2.out)).trans HR2.out;have HP3:Hid (w3.heap[w.heap.size+1]?=some (Oc #[I6 K2,I6 D2,Sx U2] 96)):=(hb3.block _ (Jaw HP2.out)).trans HP2.out;have HB3:=hdz (HB2.out.trans (hb3.mono HB2.out.size));have o0:=cQ HR3.out 0 rfl;have o1:=cQ HR3.out 1 rfl;have o2:=cQ HR3.out 2 rfl;have p0:=cQ HP3.out 0 rfl;have p1:=cQ HP3.out 1 rfl;have p2:=cQ HP3.out 2 rfl;clear hb3)
  | (have _:=HB1;go_at_call 159;refine(c2.out _).mono ?_;rintro e w2 ⟨rfl,hb2⟩;have HR2:Hid (w2.heap[w.heap.size]?=some (Oc #[I6 K,I6 D,Sx U] 96)):=(hb2.block _ (Jaw HR1.out)).trans HR1.out;have HP2:Hid (w2.heap[w.heap.size+1]?=some (Oc #[I6 K2,I6 D2,Sx U2] 96)):=(hb2.block _ (Jaw HP1.out)).trans HP1.out;have HB2:=hdz (HB1.out.trans (hb2.mono HB1.out.size));have o0:=cQ HR2.out 0 rfl;have o1:=cQ HR2.out 1 rfl;have o2:=cQ HR2.out 2 rfl;have p0:=cQ HP2.out 0 rfl;have p1:=cQ HP2.out 1 rfl;have p2:=cQ HP2.out 2 rfl;clear hb2)
  | (go_at_call 208;refine(c1.out _).mono ?_;rintro e w1 ⟨rfl,hb1⟩;obtain⟨b1,b2,b3⟩:=Jb3 hb1;have HR1:=hdz b1;have HP1:=hdz b2;have HB1:=hdz b3;have o0:=cQ HR1.out 0 rfl;have o1:=cQ HR1.out 1 rfl;have o2:=cQ HR1.out 2 rfl;have p0:=cQ HP1.out 0 rfl;have p1:=cQ HP1.out 1 rfl;have p2:=cQ HP1.out 2 rfl;clear b1 b2 b3 hb1))
 go_end0;exact Jec HB4.out (by omega) hg9 hb9
theorem JtD(M a β:Nat)(s:NSt)(K D K2 D2:Int)(U U2:List UInt8)(w:World)(HG:Hid (gath M w a s))(hlt:a+3<w.heap.size)(HX:Hid (w.heap[β]?=some (Oc #[addV a] 258)))(c1:Hid (∀wx,Cg 208 #[.agg #[I6 K,I6 D,Sx U]] wx (Rt wx (.bool false))))(c2:Hid (∀wx,Cg 159 #[.agg #[I6 K2,I6 D2,Sx U2]] wx (Rt wx (.bool false))))(c3:Hid (∀wx,Cg 209 #[.agg #[I6 K2,I6 D2,Sx U2]] wx (Rt wx (.bool false))))(c4:Hid (∀wx,Cg 159 #[.agg #[I6 K,I6 D,Sx U]] wx (Rt wx (.bool false)))) :
    Cg 210 #[.agg #[I6 K,I6 D,Sx U],.agg #[I6 K2,I6 D2,Sx U2],Pd β 0] w (Jg0 M a s [] w):=by
 have hz:(ByteArray.mk U2.toArray).size=U2.length:=by simp[ByteArray.size]
 go_enter func210,ntmps210
 go_wp2_with (first
  | (have _:=HB3;go_at_call 159;refine(c4.out _).mono ?_;rintro e w4 ⟨rfl,hb4⟩;have HR4:Hid (w4.heap[w.heap.size]?=some (Oc #[I6 K,I6 D,Sx U] 96)):=(hb4.block _ (Jaw HR3.out)).trans HR3.out;have HP4:Hid (w4.heap[w.heap.size+1]?=some (Oc #[I6 K2,I6 D2,Sx U2] 96)):=(hb4.block _ (Jaw HP3.out)).trans HP3.out;have HB4:=hdz (HB3.out.trans (hb4.mono HB3.out.size));have o0:=cQ HR4.out 0 rfl;have o1:=cQ HR4.out 1 rfl;have o2:=cQ HR4.out 2 rfl;have p0:=cQ HP4.out 0 rfl;have p1:=cQ HP4.out 1 rfl;have p2:=cQ HP4.out 2 rfl;clear hb4)
  | (have _:=HB2;go_at_call 209;refine(c3.out _).mono ?_;rintro e w3 ⟨rfl,hb3⟩;have HR3:Hid (w3.heap[w.heap.size]?=some (Oc #[I6 K,I6 D,Sx U] 96)):=(hb3.block _ (Jaw HR2.out)).trans HR2.out;have HP3:Hid (w3.heap[w.heap.size+1]?=some (Oc #[I6 K2,I6 D2,Sx U2] 96)):=(hb3.block _ (Jaw HP2.out)).trans HP2.out;have HB3:=hdz (HB2.out.trans (hb3.mono HB2.out.size));have o0:=cQ HR3.out 0 rfl;have o1:=cQ HR3.out 1 rfl;have o2:=cQ HR3.out 2 rfl;have p0:=cQ HP3.out 0 rfl;have p1:=cQ HP3.out 1 rfl;have p2:=cQ HP3.out 2 rfl;clear hb3)
  | (have _:=HB1;go_at_call 159;refine(c2.out _).mono ?_;rintro e w2 ⟨rfl,hb2⟩;have HR2:Hid (w2.heap[w.heap.size]?=some (Oc #[I6 K,I6 D,Sx U] 96)):=(hb2.block _ (Jaw HR1.out)).trans HR1.out;have HP2:Hid (w2.heap[w.heap.size+1]?=some (Oc #[I6 K2,I6 D2,Sx U2] 96)):=(hb2.block _ (Jaw HP1.out)).trans HP1.out;have HB2:=hdz (HB1.out.trans (hb2.mono HB1.out.size));have o0:=cQ HR2.out 0 rfl;have o1:=cQ HR2.out 1 rfl;have o2:=cQ HR2.out 2 rfl;have p0:=cQ HP2.out 0 rfl;have p1:=cQ HP2.out 1 rfl;have p2:=cQ HP2.out 2 rfl;clear hb2)
  | (go_at_call 208;refine(c1.out _).mono ?_;rintro e w1 ⟨rfl,hb1⟩;obtain⟨b1,b2,b3⟩:=Jb3 hb1;have HR1:=hdz b1;have HP1:=hdz b2;have HB1:=hdz b3;have o0:=cQ HR1.out 0 rfl;have o1:=cQ HR1.out 1 rfl;have o2:=cQ HR1.out 2 rfl;have p0:=cQ HP1.out 0 rfl;have p1:=cQ HP1.out 1 rfl;have p2:=cQ HP1.out 2 rfl;clear b1 b2 b3 hb1))
 go_end0;exact⟨⟨_,rfl⟩,JbF HG.out HB4.out,BelowG.of HB4.out (by omega)⟩
theorem JmG(M a:Nat)(s:NSt)(l:List Pt)(w:World)(hg:gath M w a s){T:Int}{n:Nat}(hB:Bd s T n)(hS:∀p∈l,Jce p)(hT:T+wts l<1000000000)(hn:n<10000000)(p:Pt)(hp:p∈l)(wx:World)(hb:Bw w wx) :
    Cg 248 #[JaX p,.pointer (some (Ad (a+1) 0)),.pointer (some (Ad (a+2) 0)),.pointer (some (Ad (a+3) 0)),Pd a 0] wx λe w'=>(∃v,e=.returned v)/\gath M w' a (addP s p)/\BelowG M a wx w':=by
 refine add_bd a s p wx (JbF hg hb) hB (hS p hp) ?_ hn;have h1:wtP p<=wts l:=by
  obtain⟨l1,l2,rfl⟩:=List.append_of_mem hp;have h2:=JfT (ps:=l1) λq hq=>hS q (by simp[hq]);have h3:=JfT (ps:=l2) λq hq=>hS q (by simp[hq]);unfold wts at h2 h3 ⊢;simp only[List.map_append,List.sum_append,List.map_cons,List.sum_cons];omega
 omega
theorem JmD(M a β:Nat)(s:NSt)(one other:Pt)(w:World)(hg:gath M w a s)(hx:w.heap[β]?=some (Oc #[addV a] 258)){T:Int}{n:Nat}(hB:Bd s T n)(hS:∀p∈JbN (one,other),Jce p)(hT:T+wts (JbN (one,other))<1000000000)(hn:n<10000000) :
    Cg 269 #[JaX one,JaX other,Pd β 0] w (Jg0 M a s (JbN (one,other)) w):=by
 have cA:=JmG M a s _ w hg hB hS hT hn;have cO:=JdB other;have cP:=JdB one;have cK:=Jco other;have hlt:=JbP hg;obtain⟨K,D,U⟩:=one;obtain⟨K2,D2,U2⟩:=other
 by_cases h1:U2≠[]
 . have ht:JbN (⟨K,D,U⟩,⟨K2,D2,U2⟩)=[⟨U2.length,0,[]⟩]:=by unfold JbN;rw[if_pos (by simp[Jag,h1])]
   rw[show decide ((⟨K2,D2,U2⟩:Pt).put≠[])=true from decide_eq_true h1]at cO;rw[ht]at cA ⊢;exact Jus M a β s K D K2 D2 U U2 w hg hlt hx cO (cA _ (List.mem_singleton.2 rfl))
 . rw [show decide ((⟨K2,D2,U2⟩:Pt).put≠[])=false from decide_eq_false h1]at cO
   by_cases h2:U≠[]
   . have ht:JbN (⟨K,D,U⟩,⟨K2,D2,U2⟩)=[⟨K,D,U⟩]:=by unfold JbN;rw[if_neg (by simpa[Jag] using h1),if_pos (by simp[Jag,h2])]
     rw[show decide ((⟨K,D,U⟩:Pt).put≠[])=true from decide_eq_true h2]at cP;rw[ht]at cA ⊢;exact Jur M a β s K D K2 D2 U U2 w hg hlt hx cO cP (cA _ (List.mem_singleton.2 rfl))
   . rw [show decide ((⟨K,D,U⟩:Pt).put≠[])=false from decide_eq_false h2]at cP
     by_cases h3:0<K2
     . have ht:JbN (⟨K,D,U⟩,⟨K2,D2,U2⟩)=[⟨K,D,U⟩]:=by unfold JbN;rw[if_neg (by simpa[Jag] using h1),if_pos (by simp[JbZ,h3])]
       rw[show decide (0<(⟨K2,D2,U2⟩:Pt).keep)=true from decide_eq_true h3]at cK;rw[ht]at cA ⊢;exact Jq1 M a β s K D K2 D2 U U2 w hg hlt hx cO cP cK (cA _ (List.mem_singleton.2 rfl))
     . have ht:JbN (⟨K,D,U⟩,⟨K2,D2,U2⟩)=[]:=by
         unfold JbN;rw[if_neg (by simpa[Jag] using h1),if_neg];simp only[Jag,JbZ,Bool.or_eq_true,decide_eq_true_eq,not_or];exact⟨h2,h3⟩
       rw[show decide (0<(⟨K2,D2,U2⟩:Pt).keep)=false from decide_eq_false h3]at cK;rw[ht];exact Jsf M a β s K D K2 D2 U U2 w hg hlt hx cO cP cK
theorem Jv8(M a β:Nat)(s:NSt)(one two:Pt)(w:World)(hg:gath M w a s)(hx:w.heap[β]?=some (Oc #[addV a] 258)){T:Int}{n:Nat}(hB:Bd s T n)(hS:∀p∈JcI (one,two),Jce p)(hT:T+wts (JcI (one,two))<1000000000)(hn:n<10000000) :
    Cg 210 #[JaX one,JaX two,Pd β 0] w (Jg0 M a s (JcI (one,two)) w):=by
 have cA:=JmG M a s _ w hg hB hS hT hn;have c1:=JdV one;have c2:=Jco two;have c3:=JdB two;have c4:=Jco one;have hlt:=JbP hg;obtain⟨K,D,U⟩:=one;obtain⟨K2,D2,U2⟩:=two
 by_cases h1:0<D
 . have ht:JcI (⟨K,D,U⟩,⟨K2,D2,U2⟩)=[⟨K,D,U⟩]:=by unfold JcI;rw[if_pos (by simp[JaU,h1])]
   rw[show decide (0<(⟨K,D,U⟩:Pt).drop)=true from decide_eq_true h1]at c1;rw[ht]at cA ⊢;exact JtF M a β s K D K2 D2 U U2 w hg hlt hx c1 (cA _ (List.mem_singleton.2 rfl))
 . rw [show decide (0<(⟨K,D,U⟩:Pt).drop)=false from decide_eq_false h1]at c1
   by_cases h2:0<K2
   . have ht:JcI (⟨K,D,U⟩,⟨K2,D2,U2⟩)=[⟨K,D,U⟩]:=by unfold JcI;rw[if_pos (by simp[JbZ,h2])]
     rw[show decide (0<(⟨K2,D2,U2⟩:Pt).keep)=true from decide_eq_true h2]at c2;rw[ht]at cA ⊢;exact JtE M a β s K D K2 D2 U U2 w hg hlt hx c1 c2 (cA _ (List.mem_singleton.2 rfl))
   . rw [show decide (0<(⟨K2,D2,U2⟩:Pt).keep)=false from decide_eq_false h2]at c2
     have hf:¬((JaU (⟨K,D,U⟩:Pt) || JbZ (⟨K2,D2,U2⟩:Pt))=true):=by
      simp only[JaU,JbZ,Bool.or_eq_true,decide_eq_true_eq,not_or];exact⟨h1,h2⟩
     by_cases h3:U2≠[]
     . have ht:JcI (⟨K,D,U⟩,⟨K2,D2,U2⟩)=[⟨K2,D2,U2⟩]:=by unfold JcI;rw[if_neg hf,if_pos (by simp[Jag,h3])]
       rw[show decide ((⟨K2,D2,U2⟩:Pt).put≠[])=true from decide_eq_true h3]at c3;rw[ht]at cA ⊢;exact Jv5 M a β s K D K2 D2 U U2 w hg hlt hx c1 c2 c3 (cA _ (List.mem_singleton.2 rfl))
     . rw [show decide ((⟨K2,D2,U2⟩:Pt).put≠[])=false from decide_eq_false h3]at c3
       by_cases h4:0<K
       . have ht:JcI (⟨K,D,U⟩,⟨K2,D2,U2⟩)=[⟨K2,D2,U2⟩]:=by unfold JcI;rw[if_neg hf,if_pos (by simp[JbZ,h4])]
         rw[show decide (0<(⟨K,D,U⟩:Pt).keep)=true from decide_eq_true h4]at c4;rw[ht]at cA ⊢;exact Jv4 M a β s K D K2 D2 U U2 w hg hlt hx c1 c2 c3 c4 (cA _ (List.mem_singleton.2 rfl))
       . have ht:JcI (⟨K,D,U⟩,⟨K2,D2,U2⟩)=[]:=by
           unfold JcI;rw[if_neg hf,if_neg];simp only[Jag,JbZ,Bool.or_eq_true,decide_eq_true_eq,not_or];exact⟨h3,h4⟩
         rw[show decide (0<(⟨K,D,U⟩:Pt).keep)=false from decide_eq_false h4]at c4;rw[ht];exact JtD M a β s K D K2 D2 U U2 w hg hlt hx c1 c2 c3 c4
variable {M a g1 g2 n : Nat}{bx : List (Nat × Obj)}{w W W' : World}{v1 v2 : Value}{A B : List Pt}{s : NSt}{T : Int}{t : Pt × Pt → List Pt}{x : Pt × Pt}{l : List (Pt × Pt)}
theorem Jsh(M a β β2:Nat)(s:NSt)(other one:Pt)(w:World)(hg:gath M w a s)(hx:w.heap[β]?=some (Oc #[addV a] 258))(hx2:w.heap[β2]?=some (Oc #[.func (.func 269) #[] #[Pd β 0]] 263)){T:Int}{n:Nat}(hB:Bd s T n)(hS:∀p∈JbN (one,other),Jce p)(hT:T+wts (JbN (one,other))<1000000000)(hn:n<10000000) :
    Cg 270 #[JaX other,JaX one,Pd β2 0] w (Jg0 M a s (JbN (one,other)) w):=by
 have hlt:=JbP hg;have hlt2:=Jaw hx2;have cT:Hid (∀wx,Bw w wx->Cg 269 #[JaX one,JaX other,Pd β 0] wx (Jg0 M a s (JbN (one,other)) wx)):=λwx hb =>
  JmD M a β s one other wx (JbF hg hb) ((hb.block β (Jaw hx)).trans hx) hB hS hT hn
 obtain⟨K,D,U⟩:=one;obtain⟨K2,D2,U2⟩:=other;have y2:=cQ hx2 0 rfl;generalize JbN (⟨K,D,U⟩,⟨K2,D2,U2⟩)=L at *;unfold JaX at cT ⊢;clear hg hx hx2 hB hS hT
 go_enter func270,ntmps270
 have hW:Bw w ((w.alloc (Oc #[I6 K2,I6 D2,Sx U2] 96)).alloc (Oc #[I6 K,I6 D,Sx U] 96)):=((brf _ w).alloc (nlr _) _).alloc (by rw[wsa];omega) _;have HW:=hdz hW;clear hW
 go_wp2_with (go_at_call 269;refine(cT.out _ HW.out).mono ?_;rintro e w1 ⟨⟨v1,rfl⟩,hg1,hb1⟩)
 go_end0;exact⟨⟨_,rfl⟩,hg1,(BelowG.of HW.out (by omega)).trans hb1⟩
inductive Side (la lb:Pt->Bool):List Pt->List Pt->List (Pt×Pt)->Prop
 | nil:Side la lb [] [] []
 | left {p:Pt} {a b:List Pt} {l:List (Pt×Pt)}:la p=true->Side la lb a b l->Side la lb (p :: a) b ((p,noP) :: l)
 | last {q:Pt} {b:List Pt} {l:List (Pt×Pt)}:lb q=true->Side la lb [] b l->Side la lb [] (q :: b) ((noP,q) :: l)
 | right {p q:Pt} {a b:List Pt} {l:List (Pt×Pt)}:la p=false->lb q=true->Side la lb (p :: a) b l->Side la lb (p :: a) (q :: b) ((noP,q) :: l)
 | both {p q:Pt} {a b:List Pt} {l:List (Pt×Pt)} (n:Nat):la p=false->lb q=false->oneP p->oneP q->0<n->min (Jaf p) (Jaf q)=n->Jaf p<1000000000->Jaf q<1000000000 ->
     Side la lb ((cutP p n).2++a) ((cutP q n).2++b) l->Side la lb (p :: a) (q :: b) (((cutP p n).1,(cutP q n).1) :: l)
def Jhr (L:List (Nat×Obj)) (w:World):Prop:=∀x∈L,w.heap[x.1]?=some x.2
def JjE (a g1 g2:Nat) (L:List (Nat×Obj)):Prop:=∀x∈L,a+4<=x.1/\x.1≠g1/\x.1≠g2/\(∀c fz,x.2≠.cells c 5 fz)/\∀c fz,x.2≠.cells c 96 fz
structure sideI (M a g1 g2:Nat) (bx:List (Nat×Obj)) (w:World) (v1 v2:Value) (A B:List Pt) (s:NSt) (W:World):Prop where
 below:Below a w W
 g:gath M W a s
 r1:winP W g1 v1 A
 r2:winP W g2 v2 B
 b:Jhr bx W
theorem sideI.grow(h:sideI M a g1 g2 bx w v1 v2 A B s W)(hb:Bw W W'):sideI M a g1 g2 bx w v1 v2 A B s W' :=
 ⟨h.below.trans (hb.mono (by have:=JbP h.g;omega)),JbF h.g hb,Jhz h.r1 hb,Jhz h.r2 hb,λx hx=>(hb.block _ (Jaw (h.b x hx))).trans (h.b x hx)⟩
theorem JvT{g:Nat}{w':World}{v:Value}{ps:List Pt}(h:winP w g v ps)(hb:BelowG M a w w')(h1:a+4<=g)(h2:g<M):winP w' g v ps:=by
 refine Jcy h hb.size λhg=>?_;obtain⟨o,ho⟩:∃o,w.heap[g]?=some o:=⟨_,Array.getElem?_eq_getElem hg⟩;rw[ho];exact hb.kept g o ho (by omega) (by omega) (by omega) (λ_ _ hM=>absurd hM (by omega)) (λ_ _ hM=>absurd hM (by omega))
theorem sideI.took{s':NSt}(h:sideI M a g1 g2 bx w v1 v2 A B s W)(hb:BelowG M a W W')(hg:gath M W' a s')(ho:JjE a g1 g2 bx)(h1:a+4<=g1)(h2:g1<M)(h3:a+4<=g2)(h4:g2<M):sideI M a g1 g2 bx w v1 v2 A B s' W' :=
 ⟨h.below.trans hb.below,hg,JvT h.r1 hb h1 h2,JvT h.r2 hb h3 h4,λx hx=>by
  obtain⟨o1,_,_,o2,o3⟩:=ho x hx;exact hb.kept _ _ (h.b x hx) (by omega) (by omega) (by omega) (λc fz _=>o2 c fz) (λc fz _=>o3 c fz)⟩
structure BdS (t:Pt×Pt->List Pt) (l:List (Pt×Pt)) (s:NSt) (T:Int) (n:Nat):Prop where
 bd:Bd s T n
 w:T+wts (l.flatMap t)<1000000000
 n:n+l.length<10000000
 sound:∀x∈l,∀p∈t x,Jce p
 one:∀x∈l,(t x).length<=1
theorem Bd.more(h:Bd s T n):Bd s T (n+1):=⟨h.put,h.d0,h.dT,h.keep,by have:=h.len;omega⟩
theorem BdS.head(h:BdS t (x :: l) s T n):(∀p∈t x,Jce p)/\T+wts (t x)<1000000000/\n<10000000:=by
 refine⟨h.sound x (by simp),?_,by have:=h.n;simp at this;omega⟩;have h1:=h.w;have h2:0<=wts (l.flatMap t):=JfT λp hp=>by
  obtain⟨y,hy,hp⟩:=List.mem_flatMap.1 hp;exact h.sound y (by simp[hy]) p hp
 rw[List.flatMap_cons]at h1;unfold wts at h1 h2 ⊢;rw[List.map_append,List.sum_append]at h1;omega
theorem BdS.tail(h:BdS t (x :: l) s T n):BdS t l ((t x).foldl addP s) (T+wts (t x)) (n+1):=by
 refine⟨?_,?_,by have:=h.n;simp at this;omega,λy hy=>h.sound y (by simp[hy]),λy hy=>h.one y (by simp[hy])⟩
 . have h1:=h.one x (by simp)
   have h2:=h.sound x (by simp);generalize t x=L at *
   match L,h1 with
   | [],_=>simpa[wts] using h.bd.more
   | [p],_ =>
    have:=h.bd.add p (h2 p (by simp));simpa[wts] using this
 . have h1:=h.w
   rw[List.flatMap_cons]at h1;unfold wts at h1 ⊢;rw[List.map_append,List.sum_append]at h1;omega
end
section
variable {p : Pt}
abbrev Cel:=Int×UInt8
def putC (u:List UInt8):List Cel:=u.map λc=>(-1,c)
def Jew (at':Int):Nat->List Cel
 | 0=>[]
 | k+1=>(at',0) :: Jew (at'+1) k
def midP (at':Int):List Pt->List Cel
 | []=>[]
 | p :: ps=>Jew at' p.keep.toNat++(putC p.put++midP (at'+p.keep+p.drop) ps)
theorem JoD(u v:List UInt8):putC (u++v)=putC u++putC v:=by simp[putC]
theorem JfK:∀(a b:Nat)(i:Int),Jew i (a+b)=Jew i a++Jew (i+a) b
 | 0,b,i=>by simp[Jew]
 | a+1,b,i=>by
  rw[show a+1+b=(a+b)+1 by omega,Jew,Jew,JfK a b];simp only[List.cons_append]
  congr 3
  omega
theorem Jni(h:oneP p):(∃u,u≠[]/\p=⟨0,0,u⟩)\/(∃n:Nat,p=⟨(n:Int)+1,0,[]⟩)\/∃n:Nat,p=⟨0,(n:Int)+1,[]⟩:=by
 rcases Jbr h with h|⟨d,n,rfl⟩
 . exact .inl h
 . cases d with
   | true=>exact .inr (.inr ⟨n,rfl⟩)
   | false=>exact .inr (.inl ⟨n,rfl⟩)
theorem Jjt(u:List UInt8):Jaf ⟨0,0,u⟩=(u.length:Int):=by simp[Jaf]
theorem JnE(h:oneP p){n:Nat}(h0:0<n)(hn:(n:Int)<=Jaf p)(ps:List Pt):Jam (p :: ps)=n+Jam ((cutP p n).2++ps)/\(p.put=[]->Jav (p :: ps)=n+Jav ((cutP p n).2++ps))/\(p.put≠[]->Jav (p :: ps)=Jav ((cutP p n).2++ps)):=by
 rw[Ja5,Jbh];have hL:∀l,Jav (l++ps)=Jav l+Jav ps:=λl=>Jc3 l ps;have hL1:Jav (p :: ps)=lenP p+Jav ps:=by simp[Jav]
 rw[hL,hL1];obtain⟨c1,c2,c3,c4⟩:=JhH h (n:=n) (by omega) hn;have hlen:Jaf p=lenP p+p.put.length:=rfl
 by_cases e:Jaf p=n
 . have e2:=c4.2 e
   rw[e2];refine⟨by simp[Jam];omega,λhp=>?_,λhp=>?_⟩
   . rw[hp]at hlen;simp only[Jav,List.map_nil,List.sum_nil];simp at hlen;omega
   . have:lenP p=0:=by rcases h with ⟨h1,h2,h3⟩|⟨h1,h2,h3⟩|⟨h1,h2,h3⟩<;>simp_all [lenP]
     simp only[Jav,List.map_nil,List.sum_nil];omega
 . have hne:(cutP p n).2≠[]:=λh=>e (c4.1 h)
   have h1:∃q,(cutP p n).2=[q]/\q.put.length=(p.put.length - if p.put=[] then 0 else n):=by
    unfold cutP;rw[if_neg e]
    rcases h with ⟨h1,h2,h3⟩|⟨h1,h2,h3⟩|⟨h1,h2,h3⟩
    . rw[if_pos h1];exact⟨_,rfl,by simp[h3]⟩
    . rw[if_neg (by omega),if_pos h2];exact⟨_,rfl,by simp[h3]⟩
    . rw[if_neg (by omega),if_neg (by omega)];exact⟨_,rfl,by simp[h3]⟩
   obtain⟨q,hq,hq2⟩:=h1;obtain⟨d1,d2⟩:=c3 q (by rw[hq];simp);rw[hq];have hlq:Jaf q=lenP q+q.put.length:=rfl;refine⟨by simp[Jam];omega,λhp=>?_,λhp=>?_⟩
   . rw[if_pos hp,hp]at hq2
     rw[hp]at hlen;simp only[List.length_nil]at hlen hq2;simp only[Jav,List.map_cons,List.map_nil,List.sum_cons,List.sum_nil];omega
   . rw[if_neg hp]at hq2
     have:lenP p=0:=by rcases h with ⟨h1,h2,h3⟩|⟨h1,h2,h3⟩|⟨h1,h2,h3⟩<;>simp_all [lenP]
     simp only[Jav,List.map_cons,List.map_nil,List.sum_cons,List.sum_nil];omega
end
section
structure ActP {X:Type} (act:X->Pt->X):Prop where
 none:∀x,act x ⟨0,0,[]⟩=x
 puts:∀x u v,act (act x ⟨0,0,u⟩) ⟨0,0,v⟩=act x ⟨0,0,u++v⟩
 drops:∀x (a b:Int),0<=a->0<=b->act (act x ⟨0,a,[]⟩) ⟨0,b,[]⟩=act x ⟨0,a+b,[]⟩
 keeps:∀x (a b:Int),0<a->0<b->act (act x ⟨a,0,[]⟩) ⟨b,0,[]⟩=act x ⟨a+b,0,[]⟩
 split:∀x k d u,act x ⟨k,d,u⟩=act (act (act x ⟨0,0,u⟩) ⟨0,d,[]⟩) ⟨k,0,[]⟩
 swap:∀x d u,act (act x ⟨0,d,[]⟩) ⟨0,0,u⟩=act (act x ⟨0,0,u⟩) ⟨0,d,[]⟩
theorem Jmw{X:Type}{act:X->Pt->X}(h:ActP act)(s:NSt)(x:X):(JaG s).foldl act x=act (act (s.out.foldl act x) ⟨0,0,s.put⟩) ⟨0,s.drop,[]⟩:=by
 unfold JaG;rw[List.foldl_append,List.foldl_append]
 by_cases hp:s.put=[]<;>by_cases hd:s.drop=0<;>simp[hp,hd,h.none]
theorem JvO{X:Type}{act:X->Pt->X}(h:ActP act)(l:List Pt)(k:Int)(hk:0<k)(x:X):(Jbo l k).foldl act x=act (l.foldl act x) ⟨k,0,[]⟩:=by
 unfold Jbo
 cases hq:l.getLast? with
 | none=>simp
 | some q =>
  simp only
  split
  . rename_i hq0
    obtain⟨init,rfl⟩:∃init,l=init++[q]:=List.getLast?_eq_some_iff.1 hq;rw[List.dropLast_concat,List.foldl_append,List.foldl_append];simp only[List.foldl_cons,List.foldl_nil];rw[h.split _ (q.keep+k),h.split _ q.keep q.drop q.put,h.keeps _ _ _ hq0 hk]
  . simp
theorem Jmy{X:Type}{act:X->Pt->X}(h:ActP act)(s:NSt)(p:Pt)(hs:0<=s.drop)(hk:0<=p.keep)(hd:0<=p.drop)(x:X):(JaG (addP s p)).foldl act x=act ((JaG s).foldl act x) p:=by
 have e1:act ((JaG s).foldl act x) p=act (act (act (s.out.foldl act x) ⟨0,0,s.put++p.put⟩) ⟨0,s.drop+p.drop,[]⟩) ⟨p.keep,0,[]⟩:=by
  rw[Jmw h,h.split _ p.keep p.drop p.put,h.swap,h.puts,h.drops _ _ _ hs hd]
 rw[e1];unfold addP
 split
 . rename_i h0
   rw[Jmw h,h0,h.none]
 . rw[Jkp,JvO h _ _ (by omega),Jmw h]
theorem Jgn{X:Type}{act:X->Pt->X}(h:ActP act)(ps:List Pt)(hs:∀p∈ps,0<=p.keep/\0<=p.drop)(x:X):(Jap ps).foldl act x=ps.foldl act x:=by
 have key:∀(ps:List Pt),(∀p∈ps,0<=p.keep/\0<=p.drop)->∀s,OneS s->(JaG (ps.foldl addP s)).foldl act x=ps.foldl act ((JaG s).foldl act x):=by
  intro ps
  induction ps with
  | nil=>intros;rfl
  | cons p ps ih =>
   intro hs s h1;have hp:=hs p (by simp);rw[List.foldl_cons,ih (λq hq=>hs q (by simp[hq])) _ (Jpw h1 p hp.1 hp.2),Jmy h s p h1.drop hp.1 hp.2];rfl
 exact key ps hs nst0 ⟨by simp[nst0],by simp[nst0]⟩
def actM (x:List Cel×Int) (p:Pt):List Cel×Int:=(x.1++(putC p.put++Jew (x.2+p.drop) p.keep.toNat),x.2+p.drop+p.keep)
theorem actM_ok:ActP actM:=by
 constructor
 . intro x;simp[actM,putC,Jew]
 . intro x u v;simp[actM,JoD,Jew]
 . intro x a b _ _;simp[actM,Jew,putC];omega
 . intro x a b ha hb
   simp only[actM,putC,List.map_nil,List.nil_append,Int.add_zero];rw[show(a+b).toNat=a.toNat+b.toNat by omega,JfK,List.append_assoc,show x.2+(a.toNat:Int)=x.2+a by omega];simp;omega
 . intro x k d u;simp[actM,Jew,putC]
 . intro x d u;simp[actM,Jew,putC]
theorem Jmz:∀(ps:List Pt),(∀p∈ps,oneP p)->∀(l:List Cel)(i:Int),ps.foldl actM (l,i)=(l++midP i ps,i+Jav ps)
 | [],_,l,i=>by simp[midP,Jav]
 | p :: ps,h,l,i=>by
  have ih:=Jmz ps (λq hq=>h q (by simp[hq]));rw[List.foldl_cons,actM,ih];have hL:Jav (p :: ps)=lenP p+Jav ps:=by simp[Jav]
  rw[hL]
  rcases Jni (h p (by simp)) with ⟨u,hu,rfl⟩|⟨m,rfl⟩|⟨m,rfl⟩
  . simp[midP,Jew,lenP,putC]
  . simp[midP,lenP,putC];omega
  . simp[midP,Jew,lenP,putC];omega
theorem JaW{ps:List Pt}(h:∀p∈ps,oneP p):∀p∈ps,0<=p.keep/\0<=p.drop:=by
 intro p hp
 rcases h p hp with ⟨h1,h2,h3⟩|⟨h1,h2,h3⟩|⟨h1,h2,h3⟩<;>exact⟨by omega,by omega⟩
theorem JuS(ps:List Pt)(h:∀p∈ps,oneP p):midP 0 (Jap ps)=midP 0 ps:=by
 have e:=Jgn actM_ok ps (JaW h) ([],0);rw[Jmz ps h,Jmz _ (Jgd ps (JaW h))]at e;simpa using congrArg Prod.fst e
variable {la : Pt → Bool}
def JcW (la:Pt->Bool) (A:List Pt):Int:=(A.map λp=>if la p then 0 else Jaf p).sum
theorem Jd8(la:Pt->Bool)(p:Pt)(A:List Pt):JcW la (p :: A)=(if la p then 0 else Jaf p)+JcW la A:=by simp[JcW]
theorem JoO(la:Pt->Bool)(A B:List Pt):JcW la (A++B)=JcW la A+JcW la B:=by simp[JcW]
theorem Jg7(la:Pt->Bool):∀(A:List Pt),(∀p∈A,oneP p)->0<=JcW la A
 | [],_=>by simp[JcW]
 | p :: A,h=>by
  have h1:=Jbg (h p (by simp));have h2:=Jg7 la A λq hq=>h q (by simp[hq]);rw[Jd8]
  split<;>omega
def Jnr (la:Pt->Bool):Prop:=∀p (n:Int),oneP p->la p=false->∀r∈(cutP p n).2,la r=false
theorem JdQ:Jnr Jag:=by
 intro p n hp hl r hr;have hu:p.put=[]:=by simpa[Jag] using hl
 unfold cutP at hr
 split at hr
 . cases hr
 . split at hr
   . obtain rfl:=List.mem_singleton.1 hr;simp[Jag,hu]
   . split at hr
     . obtain rfl:=List.mem_singleton.1 hr;simp[Jag,hu]
     . obtain rfl:=List.mem_singleton.1 hr;simp[Jag,hu]
theorem Jtc:Jnr JaU:=by
 intro p n hp hl r hr;have hu:¬0<p.drop:=by simpa[JaU] using hl
 unfold cutP at hr
 split at hr
 . cases hr
 . split at hr
   . obtain rfl:=List.mem_singleton.1 hr;simpa[JaU] using hu
   . obtain rfl:=List.mem_singleton.1 hr;simpa[JaU] using hu
def okX (x:Pt×Pt):Prop:=(oneP x.1\/x.1=noP)/\(oneP x.2\/x.2=noP)
def Jio (l:List (Pt×Pt)):Int:=(l.map λx=>Jaf x.1+Jaf x.2).sum
theorem JpQ(hk:Jnr la){p:Pt}(hp:oneP p)(hl:la p=false){n:Nat}(h0:0<n)(hn:(n:Int)<=Jaf p)(A:List Pt):JcW la (p :: A)=n+JcW la ((cutP p n).2++A):=by
 rw[Jd8,JoO,if_neg (by rw[hl];simp)];obtain⟨c1,c2,c3,c4⟩:=JhH hp (n:=n) (by omega) hn;have hkk:=hk p n hp hl
 have hlen:(cutP p n).2.length<=1:=by
  unfold cutP
  split
  . simp
  . split
    . simp
    . split<;>simp
 generalize (cutP p n).2=R at *
 match R,hlen with
 | [],_=>have:=c4.1 rfl;simp[JcW];omega
 | [r],_ =>
  have h1:=c3 r (by simp);have h2:=hkk r (by simp);simp only[JcW,List.map_cons,List.map_nil,List.sum_cons,List.sum_nil,h2];simp;omega
theorem JiV{lb:Pt->Bool}(hka:Jnr la)(hkb:Jnr lb):∀(f:Nat)(A B:List Pt),(∀p∈A,oneP p/\Jaf p<1000000000)->(∀p∈B,oneP p/\Jaf p<1000000000)->JcW la A=JcW lb B->Jam A+Jam B<=f ->
    Side la lb A B (Ja7 la lb f A B)/\(∀x∈Ja7 la lb f A B,okX x)/\Jio (Ja7 la lb f A B)=Jam A+Jam B/\(Ja7 la lb f A B).length<=Jam A+Jam B:=by
 have hnil:∀(l:List Pt),(∀p∈l,oneP p/\Jaf p<1000000000)->Jam l=0->l=[]:=by
  intro l hl hw
  cases l with
  | nil=>rfl
  | cons p l =>
   have:=Jbg (hl p (by simp)).1;rw[Ja5]at hw;omega
 have hlen0:Jaf noP=0:=by simp[Jaf,noP]
 have hw0:Jam []=0:=by simp[Jam]
 have hpw:∀x l,Jio (x :: l)=Jaf x.1+Jaf x.2+Jio l:=by intro x l;simp[Jio]
 intro f
 induction f with
 | zero =>
  intro A B ha hb _ hw;obtain rfl:=hnil A ha (by omega);obtain rfl:=hnil B hb (by omega);exact⟨.nil,by simp[Ja7],by simp[Ja7,Jio,Jam],by simp[Ja7]⟩
 | succ f ih =>
  intro A B ha hb hm hw
  cases A with
  | nil =>
   cases B with
   | nil=>exact⟨.nil,by simp[Ja7],by simp[Ja7,Jio,Jam],by simp[Ja7]⟩
   | cons q B =>
    have hq:=(hb q (by simp)).1;have hq0:=Jbg hq;have hb':∀p∈B,oneP p/\Jaf p<1000000000:=λp hp=>hb p (by simp[hp]);have hn2:=Jg7 lb B λp hp=>(hb' p hp).1;have hm':(0:Int)=JcW lb (q :: B):=hm;rw[Jd8]at hm';have hl:lb q=true:=by
     cases h:lb q with
     | true=>rfl
     | false=>rw[h]at hm';simp at hm';omega
    rw[hl]at hm';have e:Ja7 la lb (f+1) [] (q :: B)=(noP,q) :: Ja7 la lb f [] B:=by rw[Ja7,if_pos hl]
    rw[Ja5]at hw;obtain⟨i1,i2,i3,i4⟩:=ih [] B (by simp) hb' (by simpa[JcW] using hm') (by omega);rw[e,Ja5,hpw];refine⟨.last hl i1,?_,by simp only[hlen0];omega,by simp only[List.length_cons];omega⟩;intro x hx
    rcases List.mem_cons.1 hx with rfl|hx
    . exact⟨.inr rfl,.inl hq⟩
    . exact i2 x hx
  | cons p A =>
   have hp:=(ha p (by simp)).1;have hp0:=Jbg hp;have ha':∀p∈A,oneP p/\Jaf p<1000000000:=λq hq=>ha q (by simp[hq])
   cases hl:la p with
   | true =>
    have e:Ja7 la lb (f+1) (p :: A) B=(p,noP) :: Ja7 la lb f A B:=by cases B<;>(rw[Ja7];rw[if_pos hl])
    rw[Jd8,hl]at hm;rw[Ja5]at hw;obtain⟨i1,i2,i3,i4⟩:=ih A B ha' hb (by simpa using hm) (by omega);rw[e,Ja5,hpw];refine⟨.left hl i1,?_,by simp only[hlen0];omega,by simp only[List.length_cons];omega⟩;intro x hx
    rcases List.mem_cons.1 hx with rfl|hx
    . exact⟨.inl hp,.inr rfl⟩
    . exact i2 x hx
   | false =>
    have hn1:=Jg7 la A λp hp=>(ha' p hp).1
    cases B with
    | nil =>
     rw[Jd8,hl]at hm;simp[JcW]at hm;unfold JcW at hn1;omega
    | cons q B =>
     have hq:=(hb q (by simp)).1;have hq0:=Jbg hq;have hb':∀p∈B,oneP p/\Jaf p<1000000000:=λp hp=>hb p (by simp[hp])
     cases hlq:lb q with
     | true =>
      have e:Ja7 la lb (f+1) (p :: A) (q :: B)=(noP,q) :: Ja7 la lb f (p :: A) B:=by rw[Ja7,if_neg (by rw[hl];simp),if_pos hlq]
      rw[Jd8 lb,hlq]at hm;rw[Ja5 q]at hw;obtain⟨i1,i2,i3,i4⟩:=ih (p :: A) B ha hb' (by simpa using hm) (by omega);rw[e,Ja5 q,hpw];refine⟨.right hl hlq i1,?_,by simp only[hlen0];omega,by simp only[List.length_cons];omega⟩;intro x hx
      rcases List.mem_cons.1 hx with rfl|hx
      . exact⟨.inr rfl,.inl hq⟩
      . exact i2 x hx
     | false =>
      obtain⟨k,hk⟩:∃k:Nat,min (Jaf p) (Jaf q)=(k:Int):=⟨(min (Jaf p) (Jaf q)).toNat,by omega⟩;have e:Ja7 la lb (f+1) (p :: A) (q :: B)=((cutP p k).1,(cutP q k).1) :: Ja7 la lb f ((cutP p k).2++A) ((cutP q k).2++B):=by
       rw[Ja7,if_neg (by rw[hl];simp),if_neg (by rw[hlq];simp),hk]
      have k0:0<k:=by omega
      have kp:(k:Int)<=Jaf p:=by omega
      have kq:(k:Int)<=Jaf q:=by omega
      have w1:=(JnE hp k0 kp A).1;have w2:=(JnE hq k0 kq B).1;have m1:=JpQ hka hp hl k0 kp A;have m2:=JpQ hkb hq hlq k0 kq B;obtain⟨c1,c2,c3,_⟩:=JhH hp (n:=k) (by omega) kp;obtain⟨d1,d2,d3,_⟩:=JhH hq (n:=k) (by omega) kq;have bp:=(ha p (by simp)).2;have bq:=(hb q (by simp)).2;obtain ⟨i1,i2,i3,i4⟩:=ih ((cutP p k).2++A) ((cutP q k).2++B) (λx hx=>by
       rcases List.mem_append.1 hx with hx|hx
       . exact⟨(c3 x hx).1,by rw[(c3 x hx).2];omega⟩
       . exact ha' x hx) (λx hx=>by
       rcases List.mem_append.1 hx with hx|hx
       . exact⟨(d3 x hx).1,by rw[(d3 x hx).2];omega⟩
       . exact hb' x hx) (by omega) (by omega)
      rw[e,hpw];refine⟨.both k hl hlq hp hq k0 hk bp bq i1,?_,by simp only[c2,d2];omega,by simp only[List.length_cons];omega⟩;intro x hx
      rcases List.mem_cons.1 hx with rfl|hx
      . exact⟨.inl c1,.inl d1⟩
      . exact i2 x hx
def JmH (t:Pt×Pt->List Pt):Prop:=∀x,okX x->(t x).length<=1/\∀p∈t x,Jce p/\wtP p<=Jaf x.1+Jaf x.2
theorem Jh8{p:Pt}(h:oneP p\/p=noP):Jce p/\wtP p=Jaf p/\0<=Jaf p/\(p.put.length:Int)<=Jaf p:=by
 rcases h with h|rfl
 . have h1:=JaW (ps:=[p]) (by simpa using h) p (by simp)
   refine⟨h1,rfl,by have:=Jbg h;omega,?_⟩;unfold Jaf;omega
 . exact⟨⟨by simp[noP],by simp[noP]⟩,rfl,by simp[Jaf,noP],by simp[Jaf,noP]⟩
theorem JiL:JmH JbN:=by
 intro x ⟨h1,h2⟩;obtain⟨a1,a2,a3,a4⟩:=Jh8 h1;obtain⟨b1,b2,b3,b4⟩:=Jh8 h2;unfold JbN
 split
 . refine⟨by simp,λp hp=>?_⟩
   obtain rfl:=List.mem_singleton.1 hp;refine⟨⟨by simp,by simp⟩,?_⟩;simp only[wtP,List.length_nil];omega
 . split
   . refine⟨by simp,λp hp=>?_⟩
     obtain rfl:=List.mem_singleton.1 hp;exact⟨a1,by omega⟩
   . exact⟨by simp,by simp⟩
theorem Jkr:JmH λx=>JbN (x.2,x.1):=by
 intro x ⟨h1,h2⟩;have:=JiL (x.2,x.1) ⟨h2,h1⟩;exact⟨this.1,λp hp=>⟨(this.2 p hp).1,by have:=(this.2 p hp).2;simp only at this;omega⟩⟩
theorem Jsp:JmH JcI:=by
 intro x ⟨h1,h2⟩;obtain⟨a1,a2,a3,a4⟩:=Jh8 h1;obtain⟨b1,b2,b3,b4⟩:=Jh8 h2;unfold JcI
 split
 . refine⟨by simp,λp hp=>?_⟩
   obtain rfl:=List.mem_singleton.1 hp;exact⟨a1,by omega⟩
 . split
   . refine⟨by simp,λp hp=>?_⟩
     obtain rfl:=List.mem_singleton.1 hp;exact⟨b1,by omega⟩
   . exact⟨by simp,by simp⟩
theorem Jp5{t:Pt×Pt->List Pt}(ht:JmH t):∀(l:List (Pt×Pt)),(∀x∈l,okX x)->wts (l.flatMap t)<=Jio l
 | [],_=>by simp[wts,Jio]
 | x :: l,h=>by
  have ih:=Jp5 ht l λy hy=>h y (by simp[hy]);obtain⟨h1,h2⟩:=ht x (h x (by simp));have hx:=h x (by simp);obtain⟨_,_,a3,_⟩:=Jh8 hx.1;obtain⟨_,_,b3,_⟩:=Jh8 hx.2;have e:Jio (x :: l)=Jaf x.1+Jaf x.2+Jio l:=by simp[Jio]
  have e2:wts (t x)<=Jaf x.1+Jaf x.2:=by
   generalize t x=L at *
   match L,h1 with
   | [],_=>simp[wts];omega
   | [p],_=>have:=(h2 p (by simp)).2;simpa[wts] using this
  rw[List.flatMap_cons,e];unfold wts at ih e2 ⊢;rw[List.map_append,List.sum_append];omega
theorem JtN{t:Pt×Pt->List Pt}(ht:JmH t){l:List (Pt×Pt)}(h:∀x∈l,okX x)(hw:Jio l<1000000000)(hl:l.length<10000000):BdS t l nst0 0 0 :=
 ⟨bd0,by have:=Jp5 ht l h;omega,by omega,λx hx p hp=>((ht x (h x hx)).2 p hp).1,λx hx=>(ht x (h x hx)).1⟩
end
section
attribute [local go_sem] Oper.semAt_some
variable {M a g1 g2 o c b : Nat}{bx : List (Nat × Obj)}{w W W' : World}{v2 v1 : Value}{p : Pt}{A B : List Pt}{s : NSt}
theorem sideI.tail1(h:sideI M a g1 g2 bx w (.slice (some (Ad g1 o)) (A.length+1) c) v2 (p :: A) B s W)(hb:Bw W W') :
    sideI M a g1 g2 bx w (.slice (some (Ad g1 (o+3))) A.length (c - 1)) v2 A B s W'/\(c=1->sideI M a g1 g2 bx w (.slice (some (Ad g1 o)) A.length 0) v2 A B s W'):=by
 obtain⟨h1,h2⟩:=Ji8 h.r1 hb;have hg:=h.grow hb;exact⟨⟨hg.below,hg.g,h1,hg.r2,hg.b⟩,λhc=>⟨hg.below,hg.g,h2 hc,hg.r2,hg.b⟩⟩
theorem sideI.tail2(h:sideI M a g1 g2 bx w v1 (.slice (some (Ad g2 o)) (B.length+1) c) A (p :: B) s W)(hb:Bw W W') :
    sideI M a g1 g2 bx w v1 (.slice (some (Ad g2 (o+3))) B.length (c - 1)) A B s W'/\(c=1->sideI M a g1 g2 bx w v1 (.slice (some (Ad g2 o)) B.length 0) A B s W'):=by
 obtain⟨h1,h2⟩:=Ji8 h.r2 hb;have hg:=h.grow hb;exact⟨⟨hg.below,hg.g,hg.r1,h1,hg.b⟩,λhc=>⟨hg.below,hg.g,hg.r1,h2 hc,hg.b⟩⟩
def sideR (la lb:Pt->Bool) (t:Pt×Pt->List Pt) (M a g1 g2:Nat) (bx:List (Nat×Obj)) (w:World) (S:NSt) (k:Nat) (u1 u2:Value) (W:World):Prop :=
 ∃A B l s T n,l.length=k/\Side la lb A B l/\sideI M a g1 g2 bx w u1 u2 A B s W/\BdS t l s T n/\runS t l s=S
theorem Jdn{la lb:Pt->Bool}{t:Pt×Pt->List Pt}{S:NSt}{u1 u2:Value}{x:Pt×Pt}{l:List (Pt×Pt)}{T:Int}{n:Nat}
    (hS:Side la lb A B l) (hI:sideI M a g1 g2 bx w u1 u2 A B s W) (hB:BdS t (x :: l) s T n) (hR:runS t (x :: l) s=S) (hg:gath M W' a ((t x).foldl addP s)) (hb:BelowG M a W W') (ho:JjE a g1 g2 bx) (h1:a+4<=g1) (h2:g1<M) (h3:a+4<=g2) (h4:g2<M) :
    sideR la lb t M a g1 g2 bx w S l.length u1 u2 W' :=
 ⟨A,B,l,_,_,_,rfl,hS,hI.took hb hg ho h1 h2 h3 h4,hB.tail,hR⟩
theorem box_set{w:World}{b:Nat}{y0 y1 y2:Value}{T:TypeId}(h:w.heap[b]?=some (Oc #[y0,y1,y2] T))(x0 x1 x2:Value) :
    (((w.setCell (Ad b 0) x0).setCell (Ad b 1) x1).setCell (Ad b 2) x2).heap[b]?=some (Oc #[x0,x1,x2] T):=by
 simp[World.setCell,Array.getElem?_modify,h]
theorem JdY{k:Nat}{x0 x1 x2:Value}(h:k≠b):(((w.setCell (Ad b 0) x0).setCell (Ad b 1) x1).setCell (Ad b 2) x2).heap[k]?=w.heap[k]?:=by
 rw[Below.heap_setCell _ _ _ _ (by show k≠b;exact h),Below.heap_setCell _ _ _ _ (by show k≠b;exact h),Below.heap_setCell _ _ _ _ (by show k≠b;exact h)]
theorem ButO.above3{g:Nat}(h:ButO g w W)(hb:w.heap.size<=b)(x0 x1 x2:Value):ButO g w (((W.setCell (Ad b 0) x0).setCell (Ad b 1) x1).setCell (Ad b 2) x2) :=
 h.trans' (by simp) (λk hk=>JdY (by omega)) ⟨rfl,rfl,rfl⟩
structure But2 (g1 g2:Nat) (w w':World):Prop where
 os:w'.os=w.os
 tape:w'.tape=w.tape
 output:w'.output=w.output
 size:w.heap.size<=w'.heap.size
 block:∀k,k<w.heap.size->k≠g1->k≠g2->w'.heap[k]?=w.heap[k]?
theorem But2.of1{w':World}(h:ButO g1 w w'):But2 g1 g2 w w':=⟨h.os,h.tape,h.output,h.size,λk hk hg _=>h.block k hk hg⟩
theorem But2.cut2{a b c:World}(h:But2 g1 g2 a b)(k:ButO g2 b c):But2 g1 g2 a c :=
 ⟨k.os.trans h.os,k.tape.trans h.tape,k.output.trans h.output,Nat.le_trans h.size k.size,λi hi hg1 hg2=>(k.block i (Nat.lt_of_lt_of_le hi h.size) hg2).trans (h.block i hi hg1 hg2)⟩
theorem But2.above3(h:But2 g1 g2 w W)(hb:w.heap.size<=b)(x0 x1 x2:Value):But2 g1 g2 w (((W.setCell (Ad b 0) x0).setCell (Ad b 1) x1).setCell (Ad b 2) x2) :=
 ⟨h.os,h.tape,h.output,by simpa using h.size,λk hk e1 e2=>(JdY (by omega)).trans (h.block k hk e1 e2)⟩
theorem sideI.both{v1' v2':Value}{A' B':List Pt}(h:sideI M a g1 g2 bx w v1 v2 A B s W)(hb:But2 g1 g2 W W')(ho:JjE a g1 g2 bx)(h1:a+4<=g1)(h2:g1<M)(h3:a+4<=g2)(h4:g2<M)(r1:winP W' g1 v1' A')(r2:winP W' g2 v2' B') :
    sideI M a g1 g2 bx w v1' v2' A' B' s W':=by
 have hM:=h.g.le;have hT:=h.g.top;have hlt:=JbP h.g;have hbl:Below (a+4) W W':=⟨hb.os,hb.tape,hb.output,hb.size,λk hk=>hb.block k (by omega) (by omega) (by omega)⟩;have own:∀{e size n:Nat} {v:Value} {xs:List Value},W.ownsRow M e size v n xs->W'.ownsRow M e size v n xs:=by
  intro e size n v xs h;obtain⟨h0,hrow⟩:=h;refine⟨h0,?_⟩
  rcases hrow with hx|⟨g',cap,cur,rfl,hg,hgg,rest⟩
  . exact .inl hx
  . exact .inr ⟨g',cap,cur,rfl,hg,(hb.block g' (Jaw hgg) (by omega) (by omega)).trans hgg,rest⟩
 refine⟨h.below.trans (hbl.mono (by omega)),?_,r1,r2,λx hx=>(hb.block _ (Jaw (h.b x hx)) (ho x hx).2.1 (ho x hx).2.2.1).trans (h.b x hx)⟩;obtain⟨⟨p,c,h1,h2⟩,h3,⟨p',c',h4,h5⟩,h6,h7,h8,h9⟩:=h.g
 exact ⟨⟨p,c,(zC hbl a 0 (by show a<a+4;omega)).trans h1,own h2⟩,(hbl.frozen (p:=(Ad a 0)) (by show a<a+4;omega)).trans h3,
  ⟨p',c',(zC hbl (a+1) 0 (by show a+1<a+4;omega)).trans h4,own h5⟩,(hbl.frozen (p:=(Ad (a+1) 0)) (by show a+1<a+4;omega)).trans h6,
  (zC hbl (a+2) 0 (by show a+2<a+4;omega)).trans h7,(hbl.frozen (p:=(Ad (a+2) 0)) (by show a+2<a+4;omega)).trans h8,(zC hbl (a+3) 0 (by show a+3<a+4;omega)).trans h9,hM,Nat.le_trans hT hb.size⟩
end
section
attribute [local go_sem] Oper.semAt_some
theorem JlG(fL fR fT:FuncId)(la lb:Pt->Bool)(t:Pt×Pt->List Pt)(M a g1 g2 β:Nat)(bx:List (Nat×Obj))(v1 v2:Value)(A0 B0:List Pt)(l0:List (Pt×Pt))(s0:NSt)(w:World){T0:Int}{n0:Nat}(hI0:sideI M a g1 g2 bx w v1 v2 A0 B0 s0 w)(hS0:Side la lb A0 B0 l0)(hB0:BdS t l0 s0 T0 n0)(ho0:JjE a g1 g2 bx)(h1:a+4<=g1)(h2:g1<M)(h3:a+4<=g2)(h4:g2<M)(hne0:g1≠g2)
    (cT0:∀(s:NSt) (x:Pt×Pt) (T:Int) (n:Nat) (W:World),gath M W a s->Jhr bx W->Bd s T n->(∀p∈t x,Jce p)->T+wts (t x)<1000000000->n<10000000->Cg fT #[JaX x.1,JaX x.2,Pd β 0] W (Jg0 M a s (t x) W))
    (eL0:∀(xs:Array Value) (wx:World),Sem.run prog (callFunc fL xs) wx=Sem.run prog (pure (.enter fL xs)) wx) (eR0:∀(xs:Array Value) (wx:World),Sem.run prog (callFunc fR xs) wx=Sem.run prog (pure (.enter fR xs)) wx) (eT0:∀(xs:Array Value) (wx:World),Sem.run prog (callFunc fT xs) wx=Sem.run prog (pure (.enter fT xs)) wx)
    (cA0:∀(p:Pt) (wx:World),Cg fL #[JaX p] wx (Rt wx (.bool (la p))))
    (cB0:∀(p:Pt) (wx:World),Cg fR #[JaX p] wx (Rt wx (.bool (lb p)))) :
    Cg 206 #[v1,v2,.func (.func fL) #[] #[],.func (.func fR) #[] #[],.func (.func fT) #[] #[Pd β 0]] w λe w'=>(∃v,e=.returned v)/\gath M w' a (runS t l0 s0)/\Jhr bx w'/\Below a w w':=by
 obtain⟨S,hS⟩:∃S,runS t l0 s0=S:=⟨_,rfl⟩;rw[hS];have eL:=hdz eL0;have eR:=hdz eR0;have eT:=hdz eT0;have cA:=hdz cA0;have cB:=hdz cB0;have cT:=hdz λ(s:NSt) (x:Pt×Pt) (T:Int) (n:Nat) (l:List (Pt×Pt)) (W:World) (hg:gath M W a s) (hb:Jhr bx W) (hB:BdS t (x :: l) s T n)=>cT0 s x T n W hg hb hB.bd hB.head.1 hB.head.2.1 hB.head.2.2;have hst:sideR la lb t M a g1 g2 bx w S l0.length v1 v2 w:=⟨A0,B0,l0,s0,T0,n0,rfl,hS0,hI0,hB0,hS⟩;have HST:=hdz hst;have HO:=hdz ho0;have HNE:=hdz hne0;clear eL0 eR0 eT0 cA0 cB0 cT0 hI0 hS0 hB0 ho0 hS hst hne0
 go_enter func206,ntmps206
 go_wp2
 go_loopg [0,1] l0.length (λk u1 u2 wr=>sideR la lb t M a g1 g2 bx w S k u1 u2 wr)
 case atStart=>exact HST.out
 case round =>
  obtain⟨A,B,l,s,T,n,hk,hSd,hI,hB,hR⟩:=hrel;have hwz:=hI.below.size;have HK:=hdz hk;have HI:=hdz hI;have HB:=hdz hB;have HR:=hdz hR;clear HST;clear hk hB hR
  cases hSd with
  | nil =>
   obtain⟨p1,c1,rfl,_,_,_⟩:=hI.r1;obtain⟨p2,c2,rfl,_,_,_⟩:=hI.r2;clear hI;go_wp2;go_end0;have hx:=HI.out;exact⟨⟨_,rfl⟩,by rw[←HR.out];exact hx.g,hx.b,hx.below⟩
  | left =>
   rename_i p A l hl hS'
   obtain⟨o,c,rfl,e1,e2,eg,e3,k0,k1,k2⟩:=Jcz hI.r1;obtain⟨p2,c2,rfl,_,_,_⟩:=hI.r2;have cL:Hid (∀wx,Cg fL #[JaX p] wx (Rt wx (.bool true))):=λwx=>by
    have:=cA.out p wx;rw[hl]at this;exact this
   have CT:=hdz λW' (hb:Bw wr W')=>cT.out s (p,noP) T n l W' (HI.out.grow hb).g (HI.out.grow hb).b HB.out;have HS:=hdz hS';have HT:Hid (∀W',Bw wr W'->_/\_):=λW' hb=>sideI.tail1 HI.out hb;obtain⟨K,D,U⟩:=p;simp only at k0 k1 k2;have HKC:Hid (wr.cell? (Ad g1 o)=some (I6 K)/\wr.cell? (Ad g1 (o+1))=some (I6 D)/\wr.cell? (Ad g1 (o+2))=some (Sx U)):=⟨k0,k1,k2⟩;have HEG:=hdz eg;have hi0:(0:Int)<(A.length:Int)+1:=by omega
   have hi1:(1:Int)<=(A.length:Int)+1:=by omega
   unfold noP at CT;unfold JaX at cL CT;clear hI hS' hl;go_wp2;rw[eL.out];go_simp;refine(cL.out _).mono ?_;rintro e w1 ⟨rfl,hb1⟩;obtain⟨b1,b2,b3⟩:=Jb3 hb1;have HR1:=hdz b1;have HP1:=hdz b2;have HB1:=hdz b3;clear b1 b2 b3 hb1;have r0:=cQ HR1.out 0 rfl;have r1:=cQ HR1.out 1 rfl;have r2:=cQ HR1.out 2 rfl;have rF0:=fZ HR1.out 0;have rF1:=fZ HR1.out 1;have rF2:=fZ HR1.out 2;have q0:=cQ HP1.out 0 rfl;have q1:=cQ HP1.out 1 rfl;have q2:=cQ HP1.out 2 rfl;have qF0:=fZ HP1.out 0;have qF1:=fZ HP1.out 1;have qF2:=fZ HP1.out 2;have x0:w1.cell? (Ad g1 o)=some (I6 K):=(HB1.out.cell HEG.out).trans HKC.out.1;have x1:w1.cell? (Ad g1 (o+1))=some (I6 D):=(HB1.out.cell HEG.out).trans HKC.out.2.1;have x2:w1.cell? (Ad g1 (o+2))=some (Sx U):=(HB1.out.cell HEG.out).trans HKC.out.2.2;go_wp2;obtain⟨s0,s1,s2,hsz,hoth⟩:=JeE r0 r1 r2 (I6 K) (I6 D) (Sx U)
   go_region
   all_goals go_wp2
   all_goals (rw[eT.out];go_simp;have HBW:Hid (Bw wr _):=((((HB1.out.setCell (p:=(Ad wr.heap.size 0)) (nlr _) (I6 K)).setCell (p:=(Ad wr.heap.size 1)) (nlr _) (I6 D)).setCell (p:=(Ad wr.heap.size 2)) (nlr _) (Sx U)).drew);refine(CT.out _ HBW.out).mono ?_;rintro e w5 ⟨⟨v5,rfl⟩,hg5,hb5⟩;go_wp2)
   . have hc1:c=1:=by assumption
     subst hc1
     go_roundg l.length
     case measure=>have:=HK.out;simp only[List.length_cons]at this;omega
     case rel=>exact Jdn HS.out ((HT.out _ HBW.out).2 rfl) HB.out HR.out hg5 hb5 HO.out h1 h2 h3 h4
   . go_roundg l.length
     case measure=>have:=HK.out;simp only[List.length_cons]at this;omega
     case rel=>exact Jdn HS.out (HT.out _ HBW.out).1 HB.out HR.out hg5 hb5 HO.out h1 h2 h3 h4
  | last =>
   rename_i p B l hl hS'
   obtain⟨p2,c2,rfl,_,_,_⟩:=hI.r1;obtain⟨o,c,rfl,e1,e2,eg,e3,k0,k1,k2⟩:=Jcz hI.r2;have cL:Hid (∀wx,Cg fR #[JaX p] wx (Rt wx (.bool true))):=λwx=>by
    have:=cB.out p wx;rw[hl]at this;exact this
   have CT:=hdz λW' (hb:Bw wr W')=>cT.out s (noP,p) T n l W' (HI.out.grow hb).g (HI.out.grow hb).b HB.out;have HS:=hdz hS';have HT:Hid (∀W',Bw wr W'->_/\_):=λW' hb=>sideI.tail2 HI.out hb;obtain⟨K,D,U⟩:=p;simp only at k0 k1 k2;have HKC:Hid (wr.cell? (Ad g2 o)=some (I6 K)/\wr.cell? (Ad g2 (o+1))=some (I6 D)/\wr.cell? (Ad g2 (o+2))=some (Sx U)):=⟨k0,k1,k2⟩;have HEG:=hdz eg;have hi0:(0:Int)<(B.length:Int)+1:=by omega
   have hi1:(1:Int)<=(B.length:Int)+1:=by omega
   unfold noP at CT;unfold JaX at cL CT;clear hI hS' hl;go_wp2;rw[eR.out];go_simp;refine(cL.out _).mono ?_;rintro e w1 ⟨rfl,hb1⟩;obtain⟨b1,b2,b3⟩:=Jb3 hb1;have HR1:=hdz b1;have HP1:=hdz b2;have HB1:=hdz b3;clear b1 b2 b3 hb1;have r0:=cQ HR1.out 0 rfl;have r1:=cQ HR1.out 1 rfl;have r2:=cQ HR1.out 2 rfl;have rF0:=fZ HR1.out 0;have rF1:=fZ HR1.out 1;have rF2:=fZ HR1.out 2;have q0:=cQ HP1.out 0 rfl;have q1:=cQ HP1.out 1 rfl;have q2:=cQ HP1.out 2 rfl;have qF0:=fZ HP1.out 0;have qF1:=fZ HP1.out 1;have qF2:=fZ HP1.out 2;have x0:w1.cell? (Ad g2 o)=some (I6 K):=(HB1.out.cell HEG.out).trans HKC.out.1;have x1:w1.cell? (Ad g2 (o+1))=some (I6 D):=(HB1.out.cell HEG.out).trans HKC.out.2.1;have x2:w1.cell? (Ad g2 (o+2))=some (Sx U):=(HB1.out.cell HEG.out).trans HKC.out.2.2;go_wp2;obtain⟨s0,s1,s2,hsz,hoth⟩:=JeE q0 q1 q2 (I6 K) (I6 D) (Sx U)
   go_region
   all_goals go_wp2
   all_goals (rw[eT.out];go_simp;have HBW:Hid (Bw wr _):=((((HB1.out.setCell (p:=(Ad (wr.heap.size+1) 0)) (Nat.le_succ _) (I6 K)).setCell (p:=(Ad (wr.heap.size+1) 1)) (Nat.le_succ _) (I6 D)).setCell (p:=(Ad (wr.heap.size+1) 2)) (Nat.le_succ _) (Sx U)).drew);refine(CT.out _ HBW.out).mono ?_;rintro e w5 ⟨⟨v5,rfl⟩,hg5,hb5⟩;go_wp2)
   . have hc1:c=1:=by assumption
     subst hc1
     go_roundg l.length
     case measure=>have:=HK.out;simp only[List.length_cons]at this;omega
     case rel=>exact Jdn HS.out ((HT.out _ HBW.out).2 rfl) HB.out HR.out hg5 hb5 HO.out h1 h2 h3 h4
   . go_roundg l.length
     case measure=>have:=HK.out;simp only[List.length_cons]at this;omega
     case rel=>exact Jdn HS.out (HT.out _ HBW.out).1 HB.out HR.out hg5 hb5 HO.out h1 h2 h3 h4
  | right =>
   rename_i pa p A B l hla hl hS'
   obtain⟨oa,ca,rfl,ea1,ea2,eag,ea3,ka0,ka1,ka2⟩:=Jcz hI.r1;obtain⟨o,c,rfl,e1,e2,eg,e3,k0,k1,k2⟩:=Jcz hI.r2;have cLA:Hid (∀wx,Cg fL #[JaX pa] wx (Rt wx (.bool false))):=λwx=>by
    have:=cA.out pa wx;rw[hla]at this;exact this
   have cL:Hid (∀wx,Cg fR #[JaX p] wx (Rt wx (.bool true))):=λwx=>by
    have:=cB.out p wx;rw[hl]at this;exact this
   have CT:=hdz λW' (hb:Bw wr W')=>cT.out s (noP,p) T n l W' (HI.out.grow hb).g (HI.out.grow hb).b HB.out;have HS:=hdz hS';have HT:Hid (∀W',Bw wr W'->_/\_):=λW' hb=>sideI.tail2 HI.out hb;obtain⟨KA,DA,UA⟩:=pa;simp only at ka0 ka1 ka2;have HKA:Hid (wr.cell? (Ad g1 oa)=some (I6 KA)/\wr.cell? (Ad g1 (oa+1))=some (I6 DA)/\wr.cell? (Ad g1 (oa+2))=some (Sx UA)):=⟨ka0,ka1,ka2⟩;have hia:(0:Int)<(A.length:Int)+1:=by omega
   unfold JaX at cLA;obtain⟨K,D,U⟩:=p;simp only at k0 k1 k2;have HKC:Hid (wr.cell? (Ad g2 o)=some (I6 K)/\wr.cell? (Ad g2 (o+1))=some (I6 D)/\wr.cell? (Ad g2 (o+2))=some (Sx U)):=⟨k0,k1,k2⟩;have HEG:=hdz eg;have hi0:(0:Int)<(B.length:Int)+1:=by omega
   have hi1:(1:Int)<=(B.length:Int)+1:=by omega
   unfold noP at CT;unfold JaX at cL CT;clear hI hS' hl hla;go_wp2;rw[eL.out];go_simp;refine(cLA.out _).mono ?_;rintro e w1 ⟨rfl,hb1⟩;obtain⟨b1,b2,b3⟩:=Jb3 hb1;have HR1:=hdz b1;have HP1:=hdz b2;have HB1:=hdz b3;clear b1 b2 b3 hb1;have x0:w1.cell? (Ad g2 o)=some (I6 K):=(HB1.out.cell HEG.out).trans HKC.out.1;have x1:w1.cell? (Ad g2 (o+1))=some (I6 D):=(HB1.out.cell HEG.out).trans HKC.out.2.1;have x2:w1.cell? (Ad g2 (o+2))=some (Sx U):=(HB1.out.cell HEG.out).trans HKC.out.2.2;go_wp2;rw[eR.out];go_simp;have _:=HB1;refine(cL.out _).mono ?_;rintro e w2 ⟨rfl,hb2⟩;have HR2:Hid (w2.heap[wr.heap.size]?=some (Oc #[I6 0,I6 0,.string ⟨#[]⟩] 96)):=(hb2.block _ (Jaw HR1.out)).trans HR1.out;have HP2:Hid (w2.heap[wr.heap.size+1]?=some (Oc #[I6 0,I6 0,.string ⟨#[]⟩] 96)):=(hb2.block _ (Jaw HP1.out)).trans HP1.out;have HB2:=hdz (HB1.out.trans (hb2.mono HB1.out.size));clear hb2;have r0:=cQ HR2.out 0 rfl;have r1:=cQ HR2.out 1 rfl;have r2:=cQ HR2.out 2 rfl;have rF0:=fZ HR2.out 0;have rF1:=fZ HR2.out 1;have rF2:=fZ HR2.out 2;have q0:=cQ HP2.out 0 rfl;have q1:=cQ HP2.out 1 rfl;have q2:=cQ HP2.out 2 rfl;have qF0:=fZ HP2.out 0;have qF1:=fZ HP2.out 1;have qF2:=fZ HP2.out 2;have x0:w2.cell? (Ad g2 o)=some (I6 K):=(HB2.out.cell HEG.out).trans HKC.out.1;have x1:w2.cell? (Ad g2 (o+1))=some (I6 D):=(HB2.out.cell HEG.out).trans HKC.out.2.1;have x2:w2.cell? (Ad g2 (o+2))=some (Sx U):=(HB2.out.cell HEG.out).trans HKC.out.2.2;go_wp2;obtain⟨s0,s1,s2,hsz,hoth⟩:=JeE q0 q1 q2 (I6 K) (I6 D) (Sx U)
   go_region
   all_goals go_wp2
   all_goals (rw[eT.out];go_simp;have HBW:Hid (Bw wr _):=((((HB2.out.setCell (p:=(Ad (wr.heap.size+1) 0)) (Nat.le_succ _) (I6 K)).setCell (p:=(Ad (wr.heap.size+1) 1)) (Nat.le_succ _) (I6 D)).setCell (p:=(Ad (wr.heap.size+1) 2)) (Nat.le_succ _) (Sx U)).drew);refine(CT.out _ HBW.out).mono ?_;rintro e w5 ⟨⟨v5,rfl⟩,hg5,hb5⟩;go_wp2)
   . have hc1:c=1:=by assumption
     subst hc1
     go_roundg l.length
     case measure=>have:=HK.out;simp only[List.length_cons]at this;omega
     case rel=>exact Jdn HS.out ((HT.out _ HBW.out).2 rfl) HB.out HR.out hg5 hb5 HO.out h1 h2 h3 h4
   . go_roundg l.length
     case measure=>have:=HK.out;simp only[List.length_cons]at this;omega
     case rel=>exact Jdn HS.out (HT.out _ HBW.out).1 HB.out HR.out hg5 hb5 HO.out h1 h2 h3 h4
  | both =>
   rename_i p q A B l m hla hlb o1 o2 m0 hm b1 b2 hS'
   obtain⟨oa,ca,rfl,ea1,ea2,eag,ea3,ka0,ka1,ka2⟩:=Jcz hI.r1;obtain⟨ob,cb,rfl,eb1,eb2,ebg,eb3,kb0,kb1,kb2⟩:=Jcz hI.r2;have hlp:=Jbg o1;have hlq:=Jbg o2;have cLA:Hid (∀wx,Cg fL #[JaX p] wx (Rt wx (.bool false))):=λwx=>by
    have:=cA.out p wx;rw[hla]at this;exact this
   have cLB:Hid (∀wx,Cg fR #[JaX q] wx (Rt wx (.bool false))):=λwx=>by
    have:=cB.out q wx;rw[hlb]at this;exact this
   have cNP:Hid (∀wx,Cg 250 #[JaX p] wx (Rt wx (I6 (Jaf p)))):=λwx=>JdT p wx (by rcases o1 with ⟨h1,h2,h3⟩|⟨h1,h2,h3⟩|⟨h1,h2,h3⟩<;>exact⟨by omega,by omega⟩) (by unfold Jaf at b1;omega);have cNQ:Hid (∀wx,Cg 250 #[JaX q] wx (Rt wx (I6 (Jaf q)))):=λwx=>JdT q wx (by rcases o2 with ⟨h1,h2,h3⟩|⟨h1,h2,h3⟩|⟨h1,h2,h3⟩<;>exact⟨by omega,by omega⟩) (by unfold Jaf at b2;omega);have CC1:=hdz λW' (h:winP W' g1 (.slice (some (Ad g1 oa)) (A.length+1) ca) (p :: A))=>JtB g1 _ p A m W' h o1 m0 (by omega) b1;have CC2:=hdz λW' (h:winP W' g2 (.slice (some (Ad g2 ob)) (B.length+1) cb) (q :: B))=>JtB g2 _ q B m W' h o2 m0 (by omega) b2;have CT:=hdz λW' (hg:gath M W' a s) (hb:Jhr bx W')=>cT.out s ((cutP p m).1,(cutP q m).1) T n l W' hg hb HB.out;have HS:=hdz hS';have hm1:(m:Int)<1000000000:=by omega
   clear hS' hla hlb o1 o2 hlp hlq b1 b2;generalize Jaf p=LP at *;generalize Jaf q=LQ at *;obtain⟨R1,hR1⟩:∃R,(cutP p m).2++A=R:=⟨_,rfl⟩;obtain⟨R2,hR2⟩:∃R,(cutP q m).2++B=R:=⟨_,rfl⟩;obtain⟨x1,hx1⟩:∃x,(cutP p m).1=x:=⟨_,rfl⟩;obtain⟨x2,hx2⟩:∃x,(cutP q m).1=x:=⟨_,rfl⟩;rw[hR1,hx1]at CC1;rw[hR2,hx2]at CC2;rw[hx1,hx2]at CT HB HR;rw[hR1,hR2]at HS;rw[hx1,hx2]at HK;clear hR1 hR2 hx1 hx2;obtain⟨K1,D1,U1⟩:=x1;obtain⟨K2,D2,U2⟩:=x2;have HW1:=hdz hI.r1;have HW2:=hdz hI.r2;have HEG1:=hdz eag;have HEG2:=hdz ebg;obtain⟨KA,DA,UA⟩:=p;obtain⟨KB,DB,UB⟩:=q;simp only at ka0 ka1 ka2 kb0 kb1 kb2;have HKA:Hid (wr.cell? (Ad g1 oa)=some (I6 KA)/\wr.cell? (Ad g1 (oa+1))=some (I6 DA)/\wr.cell? (Ad g1 (oa+2))=some (Sx UA)):=⟨ka0,ka1,ka2⟩;have HKB:Hid (wr.cell? (Ad g2 ob)=some (I6 KB)/\wr.cell? (Ad g2 (ob+1))=some (I6 DB)/\wr.cell? (Ad g2 (ob+2))=some (Sx UB)):=⟨kb0,kb1,kb2⟩;have hia:(0:Int)<(A.length:Int)+1:=by omega
   have hib:(0:Int)<(B.length:Int)+1:=by omega
   unfold JaX at cLA cLB cNP cNQ CC1 CC2 CT;clear hI ea3 eb3;go_wp2;rw[eL.out];go_simp;refine(cLA.out _).mono ?_;rintro e w1 ⟨rfl,hb1⟩;obtain⟨y1,y2,y3⟩:=Jb3 hb1;have HR1:=hdz y1;have HP1:=hdz y2;have HB1:=hdz y3;clear y1 y2 y3 hb1;have xb0:w1.cell? (Ad g2 ob)=some (I6 KB):=(HB1.out.cell HEG2.out).trans HKB.out.1;have xb1:w1.cell? (Ad g2 (ob+1))=some (I6 DB):=(HB1.out.cell HEG2.out).trans HKB.out.2.1;have xb2:w1.cell? (Ad g2 (ob+2))=some (Sx UB):=(HB1.out.cell HEG2.out).trans HKB.out.2.2;go_wp2;rw[eR.out];go_simp;have _:=HB1;refine(cLB.out _).mono ?_;rintro e w2 ⟨rfl,hb2⟩;have HR2:Hid (w2.heap[wr.heap.size]?=some (Oc #[I6 0,I6 0,.string ⟨#[]⟩] 96)):=(hb2.block _ (Jaw HR1.out)).trans HR1.out;have HP2:Hid (w2.heap[wr.heap.size+1]?=some (Oc #[I6 0,I6 0,.string ⟨#[]⟩] 96)):=(hb2.block _ (Jaw HP1.out)).trans HP1.out;have HB2:=hdz (HB1.out.trans (hb2.mono HB1.out.size));clear hb2;have xa0:w2.cell? (Ad g1 oa)=some (I6 KA):=(HB2.out.cell HEG1.out).trans HKA.out.1;have xa1:w2.cell? (Ad g1 (oa+1))=some (I6 DA):=(HB2.out.cell HEG1.out).trans HKA.out.2.1;have xa2:w2.cell? (Ad g1 (oa+2))=some (Sx UA):=(HB2.out.cell HEG1.out).trans HKA.out.2.2;have xc0:w2.cell? (Ad g2 ob)=some (I6 KB):=(HB2.out.cell HEG2.out).trans HKB.out.1;have xc1:w2.cell? (Ad g2 (ob+1))=some (I6 DB):=(HB2.out.cell HEG2.out).trans HKB.out.2.1;have xc2:w2.cell? (Ad g2 (ob+2))=some (Sx UB):=(HB2.out.cell HEG2.out).trans HKB.out.2.2;go_wp2
   go_region_with (first
    | (have _:=HB3;go_at_call 250;refine(cNQ.out _).mono ?_;rintro e w4 ⟨rfl,hb4⟩;have HR4:Hid (w4.heap[wr.heap.size]?=some (Oc #[I6 0,I6 0,.string ⟨#[]⟩] 96)):=(hb4.block _ (Jaw HR3.out)).trans HR3.out;have HP4:Hid (w4.heap[wr.heap.size+1]?=some (Oc #[I6 0,I6 0,.string ⟨#[]⟩] 96)):=(hb4.block _ (Jaw HP3.out)).trans HP3.out;have HB4:=hdz (HB3.out.trans (hb4.mono HB3.out.size));clear hb4)
    | (have _:=HB2;go_at_call 250;refine(cNP.out _).mono ?_;rintro e w3 ⟨rfl,hb3⟩;have HR3:Hid (w3.heap[wr.heap.size]?=some (Oc #[I6 0,I6 0,.string ⟨#[]⟩] 96)):=(hb3.block _ (Jaw HR2.out)).trans HR2.out;have HP3:Hid (w3.heap[wr.heap.size+1]?=some (Oc #[I6 0,I6 0,.string ⟨#[]⟩] 96)):=(hb3.block _ (Jaw HP2.out)).trans HP2.out;have HB3:=hdz (HB2.out.drew.trans (hb3.mono HB2.out.size));clear hb3;have xd0:w3.cell? (Ad g2 ob)=some (I6 KB):=(HB3.out.cell HEG2.out).trans HKB.out.1;have xd1:w3.cell? (Ad g2 (ob+1))=some (I6 DB):=(HB3.out.cell HEG2.out).trans HKB.out.2.1;have xd2:w3.cell? (Ad g2 (ob+2))=some (Sx UB):=(HB3.out.cell HEG2.out).trans HKB.out.2.2))
   all_goals (
    go_wp2_with (first
     | (have _:=HT5;go_at_call 251;have HT6:Hid (ButO g1 wr (((w5.setCell (Ad wr.heap.size 0) (I6 K1)).setCell (Ad wr.heap.size 1) (I6 D1)).setCell (Ad wr.heap.size 2) (Sx U1))):=HT5.out.above3 (nlr _) _ _ _;have HR6:Hid ((((w5.setCell (Ad wr.heap.size 0) (I6 K1)).setCell (Ad wr.heap.size 1) (I6 D1)).setCell (Ad wr.heap.size 2) (Sx U1)).heap[wr.heap.size]?=some (Oc #[I6 K1,I6 D1,Sx U1] 96)):=box_set HR5.out _ _ _;have HP6:Hid ((((w5.setCell (Ad wr.heap.size 0) (I6 K1)).setCell (Ad wr.heap.size 1) (I6 D1)).setCell (Ad wr.heap.size 2) (Sx U1)).heap[wr.heap.size+1]?=some (Oc #[I6 0,I6 0,.string ⟨#[]⟩] 96)):=(JdY (by omega)).trans HP5.out;have HQ6:Hid (winP (((w5.setCell (Ad wr.heap.size 0) (I6 K1)).setCell (Ad wr.heap.size 1) (I6 D1)).setCell (Ad wr.heap.size 2) (Sx U1)) g1 _ R1):=Jcy HQ5.out (by simp) λ_=>JdY (by have:=HEG1.out;omega);refine(CC2.out _ (Jcy HW2.out HT6.out.size λhg=>HT6.out.block g2 hg (Ne.symm HNE.out))).mono ?_;rintro e w7 ⟨v7,rfl,hw7,hb7⟩;have HQ7:=hdz hw7;have hbz:ButO g2 (((w5.setCell (Ad wr.heap.size 0) (I6 K1)).setCell (Ad wr.heap.size 1) (I6 D1)).setCell (Ad wr.heap.size 2) (Sx U1)) w7:=⟨hb7.os,hb7.tape,hb7.output,hb7.size,hb7.block⟩;obtain⟨p7,c7,rfl,_⟩:=hw7;have HO7:=hdz (Jul HQ6.out hbz HNE.out);have HR7:Hid (w7.heap[wr.heap.size]?=some (Oc #[I6 K1,I6 D1,Sx U1] 96)):=(hbz.block _ (Jaw HR6.out) (by have:=HEG2.out;omega)).trans HR6.out;have HP7:Hid (w7.heap[wr.heap.size+1]?=some (Oc #[I6 0,I6 0,.string ⟨#[]⟩] 96)):=(hbz.block _ (Jaw HP6.out) (by have:=HEG2.out;omega)).trans HP6.out;have HT7:=hdz ((But2.of1 HT6.out).cut2 hbz);clear hb7 hbz;have t0:=cQ HR7.out 0 rfl;have t1:=cQ HR7.out 1 rfl;have t2:=cQ HR7.out 2 rfl;have q0:=cQ HP7.out 0 rfl;have q1:=cQ HP7.out 1 rfl;have q2:=cQ HP7.out 2 rfl;have qF0:=fZ HP7.out 0;have qF1:=fZ HP7.out 1;have qF2:=fZ HP7.out 2)
     | (have _:=HB4;go_at_call 251;refine(CC1.out _ (Jcy HW1.out HB4.out.size λhg=>HB4.out.block g1 hg)).mono ?_;rintro e w5 ⟨v5,rfl,hw5,hb5⟩;have HQ5:=hdz hw5;have hbz:ButO g1 w4 w5:=⟨hb5.os,hb5.tape,hb5.output,hb5.size,hb5.block⟩;obtain⟨p5,c5,rfl,_⟩:=hw5;have HR5:Hid (w5.heap[wr.heap.size]?=some (Oc #[I6 0,I6 0,.string ⟨#[]⟩] 96)):=(hbz.block _ (Jaw HR4.out) (by have:=HEG1.out;omega)).trans HR4.out;have HP5:Hid (w5.heap[wr.heap.size+1]?=some (Oc #[I6 0,I6 0,.string ⟨#[]⟩] 96)):=(hbz.block _ (Jaw HP4.out) (by have:=HEG1.out;omega)).trans HP4.out;have HT5:=hdz ((ButO.of HB4.out).trans hbz);clear hb5 hbz;have r0:=cQ HR5.out 0 rfl;have r1:=cQ HR5.out 1 rfl;have r2:=cQ HR5.out 2 rfl;have rF0:=fZ HR5.out 0;have rF1:=fZ HR5.out 1;have rF2:=fZ HR5.out 2))
    all_goals (rw[eT.out];go_simp;have _:=HT7;have HI8:Hid (sideI M a g1 g2 bx w _ _ R1 R2 s (((w7.setCell (Ad (wr.heap.size+1) 0) (I6 K2)).setCell (Ad (wr.heap.size+1) 1) (I6 D2)).setCell (Ad (wr.heap.size+1) 2) (Sx U2))):=HI.out.both (HT7.out.above3 (Nat.le_succ _) _ _ _) HO.out h1 h2 h3 h4 (Jcy HO7.out (by simp) λ_=>JdY (by have:=HEG1.out;omega)) (Jcy HQ7.out (by simp) λ_=>JdY (by have:=HEG2.out;omega));refine(CT.out _ HI8.out.g HI8.out.b).mono ?_;rintro e w9 ⟨⟨v9,rfl⟩,hg9,hb9⟩;go_wp2)
    go_roundg l.length
    case measure=>have:=HK.out;simp only[List.length_cons]at this;omega
    case rel=>exact Jdn HS.out HI8.out HB.out HR.out hg9 hb9 HO.out h1 h2 h3 h4)
end
section
variable {ps : List Pt}
theorem Jc9:(∀(xs:Array Value)(wx:World),Sem.run prog (callFunc 209 xs) wx=Sem.run prog (pure (.enter 209 xs)) wx)/\(∀(xs:Array Value)(wx:World),Sem.run prog (callFunc 208 xs) wx=Sem.run prog (pure (.enter 208 xs)) wx)/\(∀(xs:Array Value)(wx:World),Sem.run prog (callFunc 269 xs) wx=Sem.run prog (pure (.enter 269 xs)) wx)/\(∀(xs:Array Value)(wx:World),Sem.run prog (callFunc 270 xs) wx=Sem.run prog (pure (.enter 270 xs)) wx)/\(∀(xs:Array Value)(wx:World),Sem.run prog (callFunc 210 xs) wx=Sem.run prog (pure (.enter 210 xs)) wx):=by
 refine⟨?_,?_,?_,?_,?_⟩<;>intro xs wx<;>go_simp
theorem Jh6{w4 X5 w5 w6:World}{a:Nat}{v1 v2:Value}{N1 N2:List Pt}(bx:List (Nat×Obj))(hG:∀M w2,Bw w4 w2->a+4<=M->M<=w2.heap.size->gath M w2 a nst0)(hz:w4.heap.size=a+4)
    (hb:Jhr bx X5) (hk:∀x∈bx,a+4<=x.1/\(∀c fz,x.2≠.cells c 5 fz)/\∀c fz,x.2≠.cells c 96 fz) (h45:Bw w4 X5)
    (o1:w5.ownsRow X5.heap.size 96 3 v1 N1.length (JaM N1)) (b5:Bw X5 w5) (s5:X5.heap.size+4<=w5.heap.size)
    (o2:w6.ownsRow w5.heap.size 96 3 v2 N2.length (JaM N2)) (b6:Bw w5 w6) (s6:w5.heap.size+4<=w6.heap.size) :
    ∃g1 g2,sideI w6.heap.size a g1 g2 bx w6 v1 v2 N1 N2 nst0 w6/\JjE a g1 g2 bx/\a+4<=g1/\g1<w6.heap.size/\a+4<=g2/\g2<w6.heap.size/\g1≠g2:=by
 have s4:=h45.size;obtain⟨g1,hg1,r1⟩:=Jpy o1;obtain⟨g2,hg2,r2⟩:=Jpy o2;have b46:Bw w4 w6:=(h45.trans (b5.mono s4)).trans (b6.mono (by omega));have b56:Bw X5 w6:=b5.trans (b6.mono (by omega));refine⟨g1,g2,⟨.refl _ _,hG _ _ b46 (by omega) (nlr _),Jhz r1 b6,r2,λx hx=>(b56.block _ (Jaw (hb x hx))).trans (hb x hx)⟩,λx hx=>?_,by omega,by omega,by omega,by omega,by omega⟩;obtain⟨k1,k2,k3⟩:=hk x hx;have:=Jaw (hb x hx);exact⟨k1,by omega,by omega,k2,k3⟩
theorem Jmx(f:Pt->Int)(l:List Pt):∀x:Int,l.foldl (λx p=>x+f p) x=x+(l.map f).sum:=by
 induction l with
 | nil=>intro x;simp
 | cons p l ih=>intro x;rw[List.foldl_cons,ih,List.map_cons,List.sum_cons];omega
theorem JuO(ps:List Pt)(h:∀p∈ps,0<=p.keep/\0<=p.drop):wts (Jap ps)=wts ps:=by
 have ok:ActP (λ(x:Int) p=>x+wtP p):=by
  constructor
  . intro x;simp[wtP]
  . intro x u v;simp only[wtP,List.length_append];push_cast;omega
  . intro x a b _ _;simp only[wtP,List.length_nil];omega
  . intro x a b _ _;simp only[wtP,List.length_nil];omega
  . intro x k d u;simp only[wtP,List.length_nil];omega
  . intro x d u;simp only[wtP,List.length_nil];omega
 have:=Jgn ok ps h 0;rw[Jmx,Jmx]at this;simpa[wts] using this
theorem JuP(ps:List Pt)(h:∀p∈ps,0<=p.keep/\0<=p.drop):((Jap ps).map isP).sum=(ps.map isP).sum:=by
 have ok:ActP (λ(x:Int) p=>x+isP p):=by
  constructor
  . intro x;simp[isP]
  . intro x u v;simp only[isP,List.length_append];push_cast;omega
  . intro x a b _ _;simp only[isP,List.length_nil];omega
  . intro x a b _ _;simp only[isP,List.length_nil];omega
  . intro x k d u;simp only[isP,List.length_nil];omega
  . intro x d u;simp only[isP,List.length_nil];omega
 have:=Jgn ok ps h 0;rw[Jmx,Jmx]at this;simpa using this
theorem Jh0:∀(A:List Pt),(∀p∈A,oneP p)->(Jam A:Int)=wts A
 | [],_=>by simp[Jam,wts]
 | p :: A,h=>by
  have ih:=Jh0 A λq hq=>h q (by simp[hq]);have h1:=Jbg (h p (by simp));have e:wts (p :: A)=wtP p+wts A:=by simp[wts]
  have e2:wtP p=Jaf p:=rfl;rw[Ja5,e,e2];omega
theorem Je4:∀(A:List Pt),(∀p∈A,oneP p)->JcW Jag A=Jav A
 | [],_=>by simp[JcW,Jav]
 | p :: A,h=>by
  have ih:=Je4 A λq hq=>h q (by simp[hq]);have e:Jav (p :: A)=lenP p+Jav A:=by simp[Jav]
  rw[Jd8,ih,e]
  rcases h p (by simp) with ⟨h1,h2,h3⟩|⟨h1,h2,h3⟩|⟨h1,h2,h3⟩
  . simp[Jag,h3,Jaf,lenP]
  . simp[Jag,h3,Jaf,lenP]
  . simp[Jag,h3,lenP,h1,h2]
theorem Jnk:∀(A:List Pt),(∀p∈A,oneP p)->JcW JaU A=(A.map isP).sum
 | [],_=>by simp[JcW]
 | p :: A,h=>by
  have ih:=Jnk A λq hq=>h q (by simp[hq]);rw[Jd8,ih,List.map_cons,List.sum_cons]
  rcases h p (by simp) with ⟨h1,h2,h3⟩|⟨h1,h2,h3⟩|⟨h1,h2,h3⟩
  . simp[JaU,h2,h3,Jaf,isP]
  . simp[JaU,h2,h3,isP,h1]
  . simp[JaU,h2,Jaf,isP]
theorem JpA(t:Pt×Pt->List Pt)(l:List (Pt×Pt)):∀s,runS t l s=(l.flatMap t).foldl addP s:=by
 induction l with
 | nil=>intro s;rfl
 | cons x l ih=>intro s;rw[List.flatMap_cons,List.foldl_append];exact ih _
theorem Jjb{t:Pt×Pt->List Pt}{l:List (Pt×Pt)}(hB:BdS t l nst0 0 0):(runS t l nst0).out.length<1000000000/\(runS t l nst0).put.length<1000000000:=by
 rw[JpA];have hb:=bds (l.flatMap t) λp hp=>by
  obtain⟨x,hx,hp⟩:=List.mem_flatMap.1 hp;exact hB.sound x hx p hp
 have h1:(l.flatMap t).length<=l.length:=by
  have key:∀(l:List (Pt×Pt)),(∀x∈l,(t x).length<=1)->(l.flatMap t).length<=l.length:=by
   intro l
   induction l with
   | nil=>intro _;simp
   | cons x l ih =>
    intro h;have h1:=h x (by simp);have h2:=ih λy hy=>h y (by simp[hy]);rw[List.flatMap_cons,List.length_append,List.length_cons];omega
  exact key l hB.one
 have h2:=hb.len;have h3:=hb.put;have h4:=hB.w;have h5:=hB.n;exact⟨by omega,by omega⟩
structure fineP (ps:List Pt):Prop where
 one:∀p∈ps,oneP p
 w:wts ps<2000000
 len:ps.length<10000000
theorem Jdj(h:fineP ps):(∀p∈Jap ps,oneP p/\Jaf p<1000000000)/\Jam (Jap ps)<2000000/\Jav (Jap ps)=Jav ps/\((Jap ps).map isP).sum=(ps.map isP).sum:=by
 have hs:=JaW h.one;have h1:=Jgd ps hs;have h2:=Jh0 _ h1;rw[JuO ps hs]at h2;have h3:=h.w;refine⟨λp hp=>⟨h1 p hp,?_⟩,by omega,Jjn ps,JuP ps hs⟩;obtain⟨l1,l2,e⟩:=List.append_of_mem hp;have h4:=Jh0 _ h1;rw[e,Jbh,Ja5]at h4;rw[e]at h2;have h5:=Jbg (h1 p hp);rw[Jbh,Ja5]at h2;omega
theorem JcL(h:fineP ps):(JaS ps).1=Jav ps/\(JaS ps).2=(ps.map isP).sum:=by
 have hs:=JaW h.one;obtain⟨h1,h2,_,_⟩:=JkE ps (λp hp=>hs p hp) (by have:=h.w;omega);refine⟨?_,h2⟩;rw[h1,Jkw];exact Jge ps hs
end
section
attribute [local go_sem] Oper.semAt_some
def Jbj (first:Bool) (a b:List Pt):NSt:=if first then runS JbN (Ja7 Jag Jag (Jam (Jap a)+Jam (Jap b)) (Jap a) (Jap b)) nst0 else runS (λx=>JbN (x.2,x.1)) (Ja7 Jag Jag (Jam (Jap b)+Jam (Jap a)) (Jap b) (Jap a)) nst0
def Jj7 (a b:List Pt):NSt:=runS JcI (Ja7 JaU Jag (Jam (Jap a)+Jam (Jap b)) (Jap a) (Jap b)) nst0
def Jom (a b:List Pt):Int:=if Jcw a b=0 then (if (JaS b).1=(JaS a).1 then 0 else 2) else Jcw a b
def JtH (a b:List Pt):Int:=if Jcw a b=0 then (if (JaS b).1=(JaS a).2 then 0 else 2) else Jcw a b
theorem Jux(v1 v2:Value)(a b:List Pt)(w:World)(hT:Lib.Utf8Tabs 3 4 w)(h1:opAt w v1 a)(h2:opAt w v2 b)(w1:∀p∈a,wfP p)(w2:∀p∈b,wfP p)(f1:fineP a)(f2:fineP b)(he:Jcw a b=0)(hl:(JaS b).1=(JaS a).1) :
    Cg 259 #[v1,v2,.bool true] w λe w'=>∃v',e=.returned (.tuple #[v',.nilIface])/\opN w.heap.size w' v' (JaG (Jbj true a b))/\Bw w w':=by
 have cB:Hid _:=Jcj v1 v2 a b w hT h1 h2 w1 w2 f1.len f2.len;have hV:errV (Jcw a b)=.nilIface:=by unfold errV;rw[if_pos he]
 rw[hV]at cB;have cL1:=hdz λwx (hb:Bw w wx)=>Jct v1 a wx (JaV h1 hb) f1.len;have cL2:=hdz λwx (hb:Bw w wx)=>Jct v2 b wx (JaV h2 hb) f2.len;have cN1:=hdz λwx (hb:Bw w wx)=>JeZ v1 a wx (JaV h1 hb) (JaW f1.one) (by have:=f1.w;omega) f1.len;have cN2:=hdz λwx (hb:Bw w wx)=>JeZ v2 b wx (JaV h2 hb) (JaW f2.one) (by have:=f2.w;omega) f2.len;obtain⟨n1,n2,n3,n4⟩:=Jdj f1;obtain⟨m1,m2,m3,m4⟩:=Jdj f2;have hmeas:JcW Jag (Jap a)=JcW Jag (Jap b):=by
  have e1:=(JcL f1).1;have e2:=(JcL f1).2;have e3:=(JcL f2).1;rw[Je4 _ (λp hp=>(m1 p hp).1),Je4 _ (λp hp=>(n1 p hp).1)];omega
 obtain⟨hSd,hok,hpw,hln⟩:=JiV JdQ JdQ (Jam (Jap a)+Jam (Jap b)) (Jap a) (Jap b) n1 m1 hmeas (nlr _);have hBd:BdS JbN (Ja7 Jag Jag (Jam (Jap a)+Jam (Jap b)) (Jap a) (Jap b)) nst0 0 0:=JtN JiL hok (by rw[hpw];omega) (by omega);have HSD:=hdz hSd;have HBD:=hdz hBd;have hS:runS JbN (Ja7 Jag Jag (Jam (Jap a)+Jam (Jap b)) (Jap a) (Jap b)) nst0=Jbj true a b:=rfl;have HSM:Hid _:=Jjb hBd;rw[hS]at HSM;obtain⟨S,hSe⟩:∃S,Jbj true a b=S:=⟨_,rfl⟩;rw[hSe]at HSM ⊢;have HS:Hid (runS JbN (Ja7 Jag Jag (Jam (Jap a)+Jam (Jap b)) (Jap a) (Jap b)) nst0=S):=hSe;rw[hl]at cL2;generalize (JaS a).1=A1 at *;generalize (JaS a).2=A2 at *;generalize (JaS b).2=B2 at *;obtain⟨p1,c1,rfl,_⟩:=h1;obtain⟨p2,c2,rfl,_⟩:=h2;clear hT w1 w2 f1 f2 he hV hSd hBd hok hpw hln hmeas hS hSe n1 n2 n3 n4 m1 m2 m3 m4 hl
 go_enter func259,ntmps259
 go_wp2_with (first
  | (have _:=HG4;go_at_call 9999)
  | (have _:=HB2;go_at_call 100;refine(cL2.out _ HB2.out).mono ?_;rintro e w3 ⟨rfl,hb3⟩;have HB3:=hdz (HB2.out.trans (hb3.mono HB2.out.size));clear hb3)
  | (go_at_call 100;refine(cL1.out _ HB1.out).mono ?_;rintro e w2 ⟨rfl,hb2⟩;have HB2:=hdz (HB1.out.trans (hb2.mono HB1.out.size));clear hb2)
  | (go_at_call 204;refine Calls.mono cB.out ?_;rintro e w1 ⟨rfl,hb1⟩;have HB1:=hdz hb1;clear hb1)
  | (have _:=HB3;go_at_call 205;refine(Jgg w3).mono ?_;rintro e w4 ⟨rfl,hG4,hz4,hb4⟩;have HG4:=hdz hG4;have HZ4:=hdz hz4;have HB4:=hdz (HB3.out.trans (hb4.mono HB3.out.size));clear hG4 hz4 hb4))
 obtain⟨X5,hX5⟩:∃X,X=((w4.alloc (Oc #[.func (.func 248) #[] #[.pointer (some (Ad (w3.heap.size+1) 0)),.pointer (some (Ad (w3.heap.size+2) 0)),.pointer (some (Ad (w3.heap.size+3) 0)),Pd w3.heap.size 0]] 258)).alloc (Oc #[.func (.func 269) #[] #[Pd w4.heap.size 0]] 263)):=⟨_,rfl⟩;rw[←hX5];have H45:Hid (Bw w4 X5):=by rw[hX5];exact(zA _ _).alloc (by simp) _
 have HX5:Hid (Bw w X5):=HB4.out.trans (H45.out.mono HB4.out.size)
 have HBX:Hid (Jhr [(w4.heap.size,Oc #[addV w3.heap.size] 258),(w4.heap.size+1,Oc #[.func (.func 269) #[] #[Pd w4.heap.size 0]] 263)] X5):=by
  intro x hx;simp only[List.mem_cons,List.not_mem_nil,or_false]at hx;rw[hX5]
  rcases hx with rfl|rfl
  . exact(heap_alloc_old _ _ (by simp)).trans (heap_alloc_new _ _)
  . have:=heap_alloc_new (w4.alloc (Oc #[.func (.func 248) #[] #[.pointer (some (Ad (w3.heap.size+1) 0)),.pointer (some (Ad (w3.heap.size+2) 0)),.pointer (some (Ad (w3.heap.size+3) 0)),Pd w3.heap.size 0]] 258)) (Oc #[.func (.func 269) #[] #[Pd w4.heap.size 0]] 263)
    rwa[World.size_alloc]at this
 have HKX:Hid (∀x∈([(w4.heap.size,Oc #[addV w3.heap.size] 258),(w4.heap.size+1,Oc #[.func (.func 269) #[] #[Pd w4.heap.size 0]] 263)]:List (Nat×Obj)),w3.heap.size+4<=x.1/\(∀c fz,x.2≠.cells c 5 fz)/\∀c fz,x.2≠.cells c 96 fz):=by
  intro x hx;simp only[List.mem_cons,List.not_mem_nil,or_false]at hx;rcases hx with rfl|rfl<;>exact⟨by have:=HZ4.out;simp only;omega,λc fz e=>(by cases e),λc fz e=>(by cases e)⟩
 clear hX5;have yX:X5.cell? (Ad (w4.heap.size+1) 0)=some (.func (.func 269) #[] #[Pd w4.heap.size 0]):=chp (HBX.out (w4.heap.size+1,Oc #[.func (.func 269) #[] #[Pd w4.heap.size 0]] 263) (by simp)) 0
 go_region_with (first
  | (have _:=HO6;go_at_call 206;obtain⟨g1,g2,hI,ho,i1,i2,i3,i4,i5⟩:=Jh6 [(w4.heap.size,Oc #[addV w3.heap.size] 258),(w4.heap.size+1,Oc #[.func (.func 269) #[] #[Pd w4.heap.size 0]] 263)] HG4.out HZ4.out HBX.out HKX.out H45.out HO5.out HB5.out HS5.out HO6.out HB6.out HS6.out;refine(JlG 209 209 269 Jag Jag JbN _ _ g1 g2 w4.heap.size [(w4.heap.size,Oc #[addV w3.heap.size] 258),(w4.heap.size+1,Oc #[.func (.func 269) #[] #[Pd w4.heap.size 0]] 263)] _ _ _ _ _ nst0 w6 hI HSD.out HBD.out ho i1 i2 i3 i4 i5 (λs x T n W hg hbx hB hS hT hn=>JmD _ _ _ s x.1 x.2 W hg (hbx (w4.heap.size,Oc #[addV w3.heap.size] 258) (by simp)) hB hS hT hn) Jc9.1 Jc9.1 Jc9.2.2.1 JdB JdB).mono ?_;rintro e w7 ⟨⟨v7,rfl⟩,hg7,hx7,hb7⟩;rw[HS.out]at hg7;have HG7:=hdz hg7;have HB7:=hdz hb7;clear hI ho i1 i2 i3 i4 i5 hg7 hx7 hb7)
  | (have _:=HO5;go_at_call 207;refine(cN2.out _ HW5.out).mono ?_;rintro e w6 ⟨v6,rfl,o6,b6,s6⟩;have HO6:=hdz o6;have HB6:=hdz b6;have HS6:=hdz s6;have HW6:=hdz (HW5.out.trans (HB6.out.mono HW5.out.size));have HB56:=hdz (HB5.out.trans (HB6.out.mono HB5.out.size));obtain⟨pp6,cc6,rfl⟩:=Jak o6;clear o6 b6 s6;have yw6:w6.cell? (Ad (w4.heap.size+1) 0)=some (.func (.func 269) #[] #[Pd w4.heap.size 0]):=chp ((HB56.out.block _ (Jaw (HBX.out (w4.heap.size+1,Oc #[.func (.func 269) #[] #[Pd w4.heap.size 0]] 263) (by simp)))).trans (HBX.out (w4.heap.size+1,Oc #[.func (.func 269) #[] #[Pd w4.heap.size 0]] 263) (by simp))) 0)
  | (go_at_call 207;refine(cN1.out _ (by first|exact HX5.out.drew|exact HX5.out)).mono ?_;rintro e w5 ⟨v5,rfl,o5,b5,s5⟩;have HO5:=hdz o5;have HB5:Hid (Bw X5 w5):=(by first|exact b5|exact(brf _ X5).drew.trans b5);have HS5:=hdz s5;have HW5:=hdz (HX5.out.trans (HB5.out.mono HX5.out.size));obtain⟨pp5,cc5,rfl⟩:=Jak o5;clear o5 b5 s5;have yw5:w5.cell? (Ad (w4.heap.size+1) 0)=some (.func (.func 269) #[] #[Pd w4.heap.size 0]):=chp ((HB5.out.block _ (Jaw (HBX.out (w4.heap.size+1,Oc #[.func (.func 269) #[] #[Pd w4.heap.size 0]] 263) (by simp)))).trans (HBX.out (w4.heap.size+1,Oc #[.func (.func 269) #[] #[Pd w4.heap.size 0]] 263) (by simp))) 0))
 all_goals (
  go_wp2_with (have _:=HG7;go_at_call 249;refine(Jhl w3.heap.size S w7 HG7.out HSM.out.1 HSM.out.2).mono ?_;rintro e w8 ⟨v8,rfl,o8,b8⟩)
  obtain⟨p8,c8,rfl⟩:=Jak o8
  go_ret2
  exact⟨_,rfl,Jg6 HW6.out.size o8,(HW6.out.trans (HB7.out.mono HB3.out.size)).trans (b8.below.mono HB3.out.size)⟩)
theorem Juw(v1 v2:Value)(a b:List Pt)(w:World)(hT:Lib.Utf8Tabs 3 4 w)(h1:opAt w v1 a)(h2:opAt w v2 b)(w1:∀p∈a,wfP p)(w2:∀p∈b,wfP p)(f1:fineP a)(f2:fineP b)(he:Jcw a b=0)(hl:(JaS b).1=(JaS a).1) :
    Cg 259 #[v1,v2,.bool false] w λe w'=>∃v',e=.returned (.tuple #[v',.nilIface])/\opN w.heap.size w' v' (JaG (Jbj false a b))/\Bw w w':=by
 have cB:Hid _:=Jcj v1 v2 a b w hT h1 h2 w1 w2 f1.len f2.len;have hV:errV (Jcw a b)=.nilIface:=by unfold errV;rw[if_pos he]
 rw[hV]at cB;have cL1:=hdz λwx (hb:Bw w wx)=>Jct v1 a wx (JaV h1 hb) f1.len;have cL2:=hdz λwx (hb:Bw w wx)=>Jct v2 b wx (JaV h2 hb) f2.len;have cN1:=hdz λwx (hb:Bw w wx)=>JeZ v2 b wx (JaV h2 hb) (JaW f2.one) (by have:=f2.w;omega) f2.len;have cN2:=hdz λwx (hb:Bw w wx)=>JeZ v1 a wx (JaV h1 hb) (JaW f1.one) (by have:=f1.w;omega) f1.len;obtain⟨n1,n2,n3,n4⟩:=Jdj f1;obtain⟨m1,m2,m3,m4⟩:=Jdj f2;have hmeas:JcW Jag (Jap b)=JcW Jag (Jap a):=by
  have e1:=(JcL f1).1;have e2:=(JcL f1).2;have e3:=(JcL f2).1;rw[Je4 _ (λp hp=>(n1 p hp).1),Je4 _ (λp hp=>(m1 p hp).1)];omega
 obtain⟨hSd,hok,hpw,hln⟩:=JiV JdQ JdQ (Jam (Jap b)+Jam (Jap a)) (Jap b) (Jap a) m1 n1 hmeas (nlr _);have hBd:BdS (λx=>JbN (x.2,x.1)) (Ja7 Jag Jag (Jam (Jap b)+Jam (Jap a)) (Jap b) (Jap a)) nst0 0 0:=JtN Jkr hok (by rw[hpw];omega) (by omega);have HSD:=hdz hSd;have HBD:=hdz hBd;have hS:runS (λx=>JbN (x.2,x.1)) (Ja7 Jag Jag (Jam (Jap b)+Jam (Jap a)) (Jap b) (Jap a)) nst0=Jbj false a b:=rfl;have HSM:Hid _:=Jjb hBd;rw[hS]at HSM;obtain⟨S,hSe⟩:∃S,Jbj false a b=S:=⟨_,rfl⟩;rw[hSe]at HSM ⊢;have HS:Hid (runS (λx=>JbN (x.2,x.1)) (Ja7 Jag Jag (Jam (Jap b)+Jam (Jap a)) (Jap b) (Jap a)) nst0=S):=hSe;rw[hl]at cL2;generalize (JaS a).1=A1 at *;generalize (JaS a).2=A2 at *;generalize (JaS b).2=B2 at *;obtain⟨p1,c1,rfl,_⟩:=h1;obtain⟨p2,c2,rfl,_⟩:=h2;clear hT w1 w2 f1 f2 he hV hSd hBd hok hpw hln hmeas hS hSe n1 n2 n3 n4 m1 m2 m3 m4 hl
 go_enter func259,ntmps259
 go_wp2_with (first
  | (have _:=HG4;go_at_call 9999)
  | (have _:=HB2;go_at_call 100;refine(cL2.out _ HB2.out).mono ?_;rintro e w3 ⟨rfl,hb3⟩;have HB3:=hdz (HB2.out.trans (hb3.mono HB2.out.size));clear hb3)
  | (go_at_call 100;refine(cL1.out _ HB1.out).mono ?_;rintro e w2 ⟨rfl,hb2⟩;have HB2:=hdz (HB1.out.trans (hb2.mono HB1.out.size));clear hb2)
  | (go_at_call 204;refine Calls.mono cB.out ?_;rintro e w1 ⟨rfl,hb1⟩;have HB1:=hdz hb1;clear hb1)
  | (have _:=HB3;go_at_call 205;refine(Jgg w3).mono ?_;rintro e w4 ⟨rfl,hG4,hz4,hb4⟩;have HG4:=hdz hG4;have HZ4:=hdz hz4;have HB4:=hdz (HB3.out.trans (hb4.mono HB3.out.size));clear hG4 hz4 hb4))
 obtain⟨X5,hX5⟩:∃X,X=((w4.alloc (Oc #[.func (.func 248) #[] #[.pointer (some (Ad (w3.heap.size+1) 0)),.pointer (some (Ad (w3.heap.size+2) 0)),.pointer (some (Ad (w3.heap.size+3) 0)),Pd w3.heap.size 0]] 258)).alloc (Oc #[.func (.func 269) #[] #[Pd w4.heap.size 0]] 263)):=⟨_,rfl⟩;rw[←hX5];have H45:Hid (Bw w4 X5):=by rw[hX5];exact(zA _ _).alloc (by simp) _
 have HX5:Hid (Bw w X5):=HB4.out.trans (H45.out.mono HB4.out.size)
 have HBX:Hid (Jhr [(w4.heap.size,Oc #[addV w3.heap.size] 258),(w4.heap.size+1,Oc #[.func (.func 269) #[] #[Pd w4.heap.size 0]] 263)] X5):=by
  intro x hx;simp only[List.mem_cons,List.not_mem_nil,or_false]at hx;rw[hX5]
  rcases hx with rfl|rfl
  . exact(heap_alloc_old _ _ (by simp)).trans (heap_alloc_new _ _)
  . have:=heap_alloc_new (w4.alloc (Oc #[.func (.func 248) #[] #[.pointer (some (Ad (w3.heap.size+1) 0)),.pointer (some (Ad (w3.heap.size+2) 0)),.pointer (some (Ad (w3.heap.size+3) 0)),Pd w3.heap.size 0]] 258)) (Oc #[.func (.func 269) #[] #[Pd w4.heap.size 0]] 263)
    rwa[World.size_alloc]at this
 have HKX:Hid (∀x∈([(w4.heap.size,Oc #[addV w3.heap.size] 258),(w4.heap.size+1,Oc #[.func (.func 269) #[] #[Pd w4.heap.size 0]] 263)]:List (Nat×Obj)),w3.heap.size+4<=x.1/\(∀c fz,x.2≠.cells c 5 fz)/\∀c fz,x.2≠.cells c 96 fz):=by
  intro x hx;simp only[List.mem_cons,List.not_mem_nil,or_false]at hx;rcases hx with rfl|rfl<;>exact⟨by have:=HZ4.out;simp only;omega,λc fz e=>(by cases e),λc fz e=>(by cases e)⟩
 clear hX5;refine(cN1.out _ HX5.out).mono ?_;rintro e w5 ⟨v5,rfl,o5,b5,s5⟩;have HO5:=hdz o5;have HB5:Hid (Bw X5 w5):=(by first | exact b5 | exact(brf _ X5).drew.trans b5);have HS5:=hdz s5;have HW5:Hid (Bw w w5):=HX5.out.trans (HB5.out.mono HX5.out.size);obtain⟨pp5,cc5,rfl⟩:=Jak o5;clear o5 b5 s5
 go_wp2_with (first
  | (have _:=HG7;go_at_call 249;refine(Jhl w3.heap.size S w7 HG7.out HSM.out.1 HSM.out.2).mono ?_;rintro e w8 ⟨v8,rfl,o8,b8⟩)
  | (have _:=HO6;go_at_call 206;obtain⟨g1,g2,hI,ho,i1,i2,i3,i4,i5⟩:=Jh6 [(w4.heap.size,Oc #[addV w3.heap.size] 258),(w4.heap.size+1,Oc #[.func (.func 269) #[] #[Pd w4.heap.size 0]] 263)] HG4.out HZ4.out HBX.out HKX.out H45.out HO5.out HB5.out HS5.out HO6.out HB6.out HS6.out;refine(JlG 209 209 270 Jag Jag (λx=>JbN (x.2,x.1)) _ _ g1 g2 (w4.heap.size+1) [(w4.heap.size,Oc #[addV w3.heap.size] 258),(w4.heap.size+1,Oc #[.func (.func 269) #[] #[Pd w4.heap.size 0]] 263)] _ _ _ _ _ nst0 w6 hI HSD.out HBD.out ho i1 i2 i3 i4 i5 (λs x T n W hg hbx hB hS hT hn=>Jsh _ _ w4.heap.size _ s x.1 x.2 W hg (hbx (w4.heap.size,Oc #[addV w3.heap.size] 258) (by simp)) (hbx (w4.heap.size+1,Oc #[.func (.func 269) #[] #[Pd w4.heap.size 0]] 263) (by simp)) hB hS hT hn) Jc9.1 Jc9.1 Jc9.2.2.2.1 JdB JdB).mono ?_;rintro e w7 ⟨⟨v7,rfl⟩,hg7,hx7,hb7⟩;rw[HS.out]at hg7;have HG7:=hdz hg7;have HB7:=hdz hb7;clear hI ho i1 i2 i3 i4 i5 hg7 hx7 hb7)
  | (have _:=HO5;go_at_call 207;refine(cN2.out _ HW5.out).mono ?_;rintro e w6 ⟨v6,rfl,o6,b6,s6⟩;have HO6:=hdz o6;have HB6:=hdz b6;have HS6:=hdz s6;have HW6:=hdz (HW5.out.trans (HB6.out.mono HW5.out.size));have HB56:=hdz (HB5.out.trans (HB6.out.mono HB5.out.size));obtain⟨pp6,cc6,rfl⟩:=Jak o6;clear o6 b6 s6))
 obtain⟨p8,c8,rfl⟩:=Jak o8
 go_ret2
 exact⟨_,rfl,Jg6 HW6.out.size o8,(HW6.out.trans (HB7.out.mono HB3.out.size)).trans (b8.below.mono HB3.out.size)⟩
theorem Jrx(v1 v2:Value)(a b:List Pt)(w:World)(hT:Lib.Utf8Tabs 3 4 w)(h1:opAt w v1 a)(h2:opAt w v2 b)(w1:∀p∈a,wfP p)(w2:∀p∈b,wfP p)(f1:fineP a)(f2:fineP b)(he:Jcw a b=0)(hl:(JaS b).1=(JaS a).2) :
    Cg 160 #[v1,v2] w λe w'=>∃v',e=.returned (.tuple #[v',.nilIface])/\opN w.heap.size w' v' (JaG (Jj7 a b))/\Bw w w':=by
 have cB:Hid _:=Jcj v1 v2 a b w hT h1 h2 w1 w2 f1.len f2.len;have hV:errV (Jcw a b)=.nilIface:=by unfold errV;rw[if_pos he]
 rw[hV]at cB;have cL1:=hdz λwx (hb:Bw w wx)=>Jct v1 a wx (JaV h1 hb) f1.len;have cL2:=hdz λwx (hb:Bw w wx)=>Jct v2 b wx (JaV h2 hb) f2.len;have cN1:=hdz λwx (hb:Bw w wx)=>JeZ v1 a wx (JaV h1 hb) (JaW f1.one) (by have:=f1.w;omega) f1.len;have cN2:=hdz λwx (hb:Bw w wx)=>JeZ v2 b wx (JaV h2 hb) (JaW f2.one) (by have:=f2.w;omega) f2.len;obtain⟨n1,n2,n3,n4⟩:=Jdj f1;obtain⟨m1,m2,m3,m4⟩:=Jdj f2;have hmeas:JcW JaU (Jap a)=JcW Jag (Jap b):=by
  have e1:=(JcL f1).1;have e2:=(JcL f1).2;have e3:=(JcL f2).1;rw[Je4 _ (λp hp=>(m1 p hp).1),Jnk _ (λp hp=>(n1 p hp).1)];omega
 obtain⟨hSd,hok,hpw,hln⟩:=JiV Jtc JdQ (Jam (Jap a)+Jam (Jap b)) (Jap a) (Jap b) n1 m1 hmeas (nlr _);have hBd:BdS JcI (Ja7 JaU Jag (Jam (Jap a)+Jam (Jap b)) (Jap a) (Jap b)) nst0 0 0:=JtN Jsp hok (by rw[hpw];omega) (by omega);have HSD:=hdz hSd;have HBD:=hdz hBd;have hS:runS JcI (Ja7 JaU Jag (Jam (Jap a)+Jam (Jap b)) (Jap a) (Jap b)) nst0=Jj7 a b:=rfl;have HSM:Hid _:=Jjb hBd;rw[hS]at HSM;obtain⟨S,hSe⟩:∃S,Jj7 a b=S:=⟨_,rfl⟩;rw[hSe]at HSM ⊢;have HS:Hid (runS JcI (Ja7 JaU Jag (Jam (Jap a)+Jam (Jap b)) (Jap a) (Jap b)) nst0=S):=hSe;rw[hl]at cL2;generalize (JaS a).1=A1 at *;generalize (JaS a).2=A2 at *;generalize (JaS b).2=B2 at *;obtain⟨p1,c1,rfl,_⟩:=h1;obtain⟨p2,c2,rfl,_⟩:=h2;clear hT w1 w2 f1 f2 he hV hSd hBd hok hpw hln hmeas hS hSe n1 n2 n3 n4 m1 m2 m3 m4 hl
 go_enter func160,ntmps160
 go_wp2_with (first
  | (have _:=HG4;go_at_call 9999)
  | (have _:=HB2;go_at_call 100;refine(cL2.out _ HB2.out).mono ?_;rintro e w3 ⟨rfl,hb3⟩;have HB3:=hdz (HB2.out.trans (hb3.mono HB2.out.size));clear hb3)
  | (go_at_call 100;refine(cL1.out _ HB1.out).mono ?_;rintro e w2 ⟨rfl,hb2⟩;have HB2:=hdz (HB1.out.trans (hb2.mono HB1.out.size));clear hb2)
  | (go_at_call 204;refine Calls.mono cB.out ?_;rintro e w1 ⟨rfl,hb1⟩;have HB1:=hdz hb1;clear hb1)
  | (have _:=HB3;go_at_call 205;refine(Jgg w3).mono ?_;rintro e w4 ⟨rfl,hG4,hz4,hb4⟩;have HG4:=hdz hG4;have HZ4:=hdz hz4;have HB4:=hdz (HB3.out.trans (hb4.mono HB3.out.size));clear hG4 hz4 hb4))
 obtain⟨X5,hX5⟩:∃X,X=(w4.alloc (Oc #[.func (.func 248) #[] #[.pointer (some (Ad (w3.heap.size+1) 0)),.pointer (some (Ad (w3.heap.size+2) 0)),.pointer (some (Ad (w3.heap.size+3) 0)),Pd w3.heap.size 0]] 258)):=⟨_,rfl⟩;rw[←hX5];have H45:Hid (Bw w4 X5):=by rw[hX5];exact zA _ _
 have HX5:Hid (Bw w X5):=HB4.out.trans (H45.out.mono HB4.out.size);have HBX:Hid (Jhr [(w4.heap.size,Oc #[addV w3.heap.size] 258)] X5):=by
  intro x hx;simp only[List.mem_singleton]at hx;subst hx;rw[hX5];exact heap_alloc_new _ _
 have HKX:Hid (∀x∈([(w4.heap.size,Oc #[addV w3.heap.size] 258)]:List (Nat×Obj)),w3.heap.size+4<=x.1/\(∀c fz,x.2≠.cells c 5 fz)/\∀c fz,x.2≠.cells c 96 fz):=by
  intro x hx;simp only[List.mem_singleton]at hx;subst hx;exact⟨by have:=HZ4.out;omega,λc fz e=>(by cases e),λc fz e=>(by cases e)⟩
 clear hX5;refine(cN1.out _ HX5.out).mono ?_;rintro e w5 ⟨v5,rfl,o5,b5,s5⟩;have HO5:=hdz o5;have HB5:Hid (Bw X5 w5):=(by first | exact b5 | exact(brf _ X5).drew.trans b5);have HS5:=hdz s5;have HW5:Hid (Bw w w5):=HX5.out.trans (HB5.out.mono HX5.out.size);obtain⟨pp5,cc5,rfl⟩:=Jak o5;clear o5 b5 s5
 go_wp2_with (first
  | (have _:=HG7;go_at_call 249;refine(Jhl w3.heap.size S w7 HG7.out HSM.out.1 HSM.out.2).mono ?_;rintro e w8 ⟨v8,rfl,o8,b8⟩)
  | (have _:=HO6;go_at_call 206;obtain⟨g1,g2,hI,ho,i1,i2,i3,i4,i5⟩:=Jh6 [(w4.heap.size,Oc #[addV w3.heap.size] 258)] HG4.out HZ4.out HBX.out HKX.out H45.out HO5.out HB5.out HS5.out HO6.out HB6.out HS6.out;refine(JlG 208 209 210 JaU Jag JcI _ _ g1 g2 w4.heap.size [(w4.heap.size,Oc #[addV w3.heap.size] 258)] _ _ _ _ _ nst0 w6 hI HSD.out HBD.out ho i1 i2 i3 i4 i5 (λs x T n W hg hbx hB hS hT hn=>Jv8 _ _ _ s x.1 x.2 W hg (hbx (w4.heap.size,Oc #[addV w3.heap.size] 258) (by simp)) hB hS hT hn) Jc9.2.1 Jc9.1 Jc9.2.2.2.2 JdV JdB).mono ?_;rintro e w7 ⟨⟨v7,rfl⟩,hg7,hx7,hb7⟩;rw[HS.out]at hg7;have HG7:=hdz hg7;have HB7:=hdz hb7;clear hI ho i1 i2 i3 i4 i5 hg7 hx7 hb7)
  | (have _:=HO5;go_at_call 207;refine(cN2.out _ HW5.out).mono ?_;rintro e w6 ⟨v6,rfl,o6,b6,s6⟩;have HO6:=hdz o6;have HB6:=hdz b6;have HS6:=hdz s6;have HW6:=hdz (HW5.out.trans (HB6.out.mono HW5.out.size));have HB56:=hdz (HB5.out.trans (HB6.out.mono HB5.out.size));obtain⟨pp6,cc6,rfl⟩:=Jak o6;clear o6 b6 s6))
 obtain⟨p8,c8,rfl⟩:=Jak o8
 go_ret2
 exact⟨_,rfl,Jg6 HW6.out.size o8,(HW6.out.trans (HB7.out.mono HB3.out.size)).trans (b8.below.mono HB3.out.size)⟩
end
section
variable {a b l t : List UInt8}{p : Pt}{ps : List Pt}
def V (l:List UInt8):Prop:=∃rs:List Nat,(∀r∈rs,Jbp r)/\l=encs rs
theorem JdG:V []:=⟨[],by simp,rfl⟩
theorem JdS(ha:V a)(hb:V b):V (a++b):=by
 obtain⟨x,hx,rfl⟩:=ha;obtain⟨y,hy,rfl⟩:=hb;exact⟨x++y,λr hr=>(List.mem_append.1 hr).elim (hx r) (hy r),(Jb1 x y).symm⟩
theorem Joa(h:V l):(scan l).2=true:=by
 obtain⟨x,hx,rfl⟩:=h;rw[JeF x hx]
theorem JfR(h:(scan l).2=true):V l:=⟨Ja0 l,λr hr=>Jd4 hr,(JbD h).symm⟩
theorem Juc(ha:V a)(hab:V (a++b)):V b:=by
 obtain⟨rs,hr,rfl⟩:=ha
 induction rs generalizing b with
 | nil=>exact hab
 | cons r rs ih =>
  obtain⟨qs,hq,e⟩:=hab;rw[JbS,List.append_assoc]at e;have h1:=Jpg (hr r (by simp)) (encs rs++b)
  cases qs with
  | nil =>
   have:=congrArg List.length e;have h2:=List.length_pos_iff.2 (Jqc r);have h3:(encs []).length=0:=rfl;rw[List.length_append]at this;omega
  | cons q qs =>
   rw[JbS]at e;have h2:=Jpg (hq q (by simp)) (encs qs);rw[←e,h1.1]at h2;obtain⟨h2,_⟩:=h2;obtain rfl:r=q:=congrArg Prod.fst h2;exact ih (λx hx=>hr x (by simp[hx])) ⟨qs,λx hx=>hq x (by simp[hx]),List.append_cancel_left e⟩
theorem V_start{b:UInt8}(h:V (b :: l)):Jku b=true:=by
 obtain⟨rs,hr,e⟩:=h
 cases rs with
 | nil=>simp[encs]at e
 | cons r rs =>
  obtain⟨b0,t,e2,h1,_⟩:=Jgh (hr r (by simp));rw[JbS,e2,List.cons_append]at e;have:b=b0:=(List.cons.inj e).1;rw[this];exact h1
theorem Jwq{n:Nat}(hl:V l)(hn:V (l.take n)):V (l.drop n):=Juc hn (by rw[List.take_append_drop];exact hl)
def al:List Pt->List UInt8->Prop
 | [],_=>True
 | p :: ps,t=>V p.put/\V (t.take (lenP p).toNat)/\al ps (t.drop (lenP p).toNat)
structure good (ps:List Pt) (t:List UInt8):Prop where
 one:∀p∈ps,oneP p
 long:Jav ps=t.length
 al:al ps t
theorem Jby(p:Pt)(ps:List Pt):Jav (p :: ps)=lenP p+Jav ps:=by simp[Jav]
theorem Jjk(h:oneP p):0<=lenP p:=by
 rcases h with ⟨h1,h2,h3⟩|⟨h1,h2,h3⟩|⟨h1,h2,h3⟩<;>simp only[lenP]<;>omega
theorem JgY(h:∀p∈ps,oneP p):0<=Jav ps:=by
 induction ps with
 | nil=>simp[Jav]
 | cons p ps ih =>
  have h1:=ih λq hq=>h q (by simp[hq]);have h2:=Jjk (h p (by simp));rw[Jby];omega
theorem oneB_of(h:oneP p):oneB p=true:=by
 unfold oneB;obtain⟨K,D,U⟩:=p
 rcases h with ⟨h1,h2,h3⟩|⟨h1,h2,h3⟩|⟨h1,h2,h3⟩
 . obtain rfl:D=0:=h2
   obtain rfl:U=[]:=h3;simp;exact h1
 . obtain rfl:K=0:=h1
   obtain rfl:U=[]:=h3;have h2:0<D:=h2;have:D≠0:=by omega
   simp[this];exact h2
 . obtain rfl:K=0:=h1
   obtain rfl:D=0:=h2;have h3:U≠[]:=h3;simp[h3]
theorem Jwj{n:Int}(h1:∀p∈ps,oneP p)(h2:∀p∈ps,V p.put)(h3:Jav ps=n):chkE ps n=0:=by
 have e1:chk1 ps=0:=by
  clear h3
  induction ps with
  | nil=>rfl
  | cons p ps ih =>
   rw[chk1,if_pos (oneB_of (h1 p (by simp))),if_pos (Joa (h2 p (by simp)))];exact ih (λq hq=>h1 q (by simp[hq])) λq hq=>h2 q (by simp[hq])
 unfold chkE;rw[if_pos e1];clear e1 h2
 induction ps generalizing n with
 | nil=>simp[Jav]at h3;simp[chk2,←h3]
 | cons p ps ih =>
  rw[Jby]at h3;have h4:=JgY λq hq=>h1 q (List.mem_cons_of_mem _ hq);have h5:p.keep+p.drop=lenP p:=rfl;rw[chk2,if_neg (by omega)];exact ih (λq hq=>h1 q (by simp[hq])) (by omega)
theorem Jpu:∀{ps:List Pt}{t:List UInt8},al ps t->∀p∈ps,V p.put
 | [],_,_,p,hp=>by cases hp
 | q :: ps,t,h,p,hp=>by
  rcases List.mem_cons.1 hp with rfl|hp
  . exact h.1
  . exact Jpu h.2.2 p hp
theorem Jwl:∀{ps:List Pt}{t:List UInt8},al ps t->badO ps t=false
 | [],_,_=>rfl
 | p :: ps,t,h=>by
  rw[badO,Jwl h.2.2,Bool.or_false];have:=h.2.1;generalize t.take (lenP p).toNat=l at this
  cases l with
  | nil=>rfl
  | cons b l=>simp[JcQ,V_start this]
theorem good.chk(h:good ps t):chkE ps (t.length:Int)=0:=Jwj h.one (Jpu h.al) h.long
theorem good.ord(h:good ps t):ordE ps t=0:=by
 unfold ordE;rw[if_pos h.chk,Jwl h.al];rfl
theorem JdZ(p:Pt)(ps:List Pt)(t:List UInt8):Jae (p :: ps) t=Jd9 (p,t.take (lenP p).toNat)++Jae ps (t.drop (lenP p).toNat):=rfl
theorem JhN:∀{ps:List Pt}{t:List UInt8},al ps t->V (Jae ps t)
 | [],_,_=>JdG
 | p :: ps,t,h=>by
  rw[JdZ];refine JdS ?_ (JhN h.2.2);unfold Jd9;refine JdS ?_ h.1
  split
  . exact h.2.1
  . exact JdG
theorem JcN(u:List UInt8)(ps:List Pt)(t:List UInt8):Jae (⟨0,0,u⟩ :: ps) t=u++Jae ps t:=by
 simp[JdZ,Jd9,lenP]
theorem JrE(n:Int)(hn:0<n)(ps:List Pt)(t:List UInt8):Jae (⟨n,0,[]⟩ :: ps) t=t.take n.toNat++Jae ps (t.drop n.toNat):=by
 simp[JdZ,Jd9,lenP,hn]
theorem JrF(n:Int)(ps:List Pt)(t:List UInt8):Jae (⟨0,n,[]⟩ :: ps) t=Jae ps (t.drop n.toNat):=by
 simp[JdZ,Jd9,lenP]
def actA (x:List UInt8×List UInt8) (p:Pt):List UInt8×List UInt8:=(x.1++(p.put++(x.2.drop p.drop.toNat).take p.keep.toNat),(x.2.drop p.drop.toNat).drop p.keep.toNat)
theorem Jm0:ActP actA:=by
 constructor
 . intro x;simp[actA]
 . intro x u v;simp[actA]
 . intro x a b ha hb
   simp only[actA,Int.toNat_zero,List.take_zero,List.append_nil,List.drop_drop,Nat.add_zero];rw[show a.toNat+b.toNat=(a+b).toNat by omega]
 . intro x a b ha hb
   simp only[actA,List.nil_append,Int.toNat_zero,List.drop_zero,List.drop_drop,List.append_assoc];rw[show(a+b).toNat=a.toNat+b.toNat by omega,List.take_add];simp only[Nat.add_zero]
 . intro x k d u;simp[actA]
 . intro x d u;simp[actA]
theorem Jgo:∀(ps:List Pt),(∀p∈ps,oneP p)->∀(o t:List UInt8),ps.foldl actA (o,t)=(o++Jae ps t,t.drop (Jav ps).toNat)
 | [],_,o,t=>by simp[Jae,pcs,Jav]
 | p :: ps,h,o,t=>by
  have h0:=JgY λq hq=>h q (List.mem_cons_of_mem _ hq);rw[List.foldl_cons,actA,Jgo ps λq hq=>h q (by simp[hq])];rw[Jby]
  rcases Jni (h p (by simp)) with ⟨u,hu,rfl⟩|⟨m,rfl⟩|⟨m,rfl⟩
  . rw[JcN];simp[lenP]
  . rw[JrE _ (by omega)]
    simp only[lenP,Int.toNat_zero,List.drop_zero,List.nil_append,List.append_assoc,List.drop_drop];rw[show((m:Int)+1+0+Jav ps).toNat=((m:Int)+1).toNat+(Jav ps).toNat by omega]
  . rw[JrF]
    simp only[lenP,Int.toNat_zero,List.append_nil,List.take_zero,List.drop_drop,Nat.add_zero];rw[show(0+((m:Int)+1)+Jav ps).toNat=((m:Int)+1).toNat+(Jav ps).toNat by omega]
def Cut (E:Int->Prop):Int->List Pt->Prop
 | i,[]=>E i
 | i,p :: ps=>E i/\Cut E (i+lenP p) ps
theorem Jm3{E:Int->Prop}{i:Int}{ps:List Pt}(h:Cut E i ps):E i:=by
 cases ps with
 | nil=>exact h
 | cons p ps=>exact h.1
theorem Jea(E:Int->Prop):∀(a b:List Pt)(i:Int),Cut E i (a++b)↔Cut E i a/\Cut E (i+Jav a) b
 | [],b,i=>by
  simp only[List.nil_append,Jav,List.map_nil,List.sum_nil,Int.add_zero];exact⟨λh=>⟨Jm3 h,h⟩,λh=>h.2⟩
 | p :: a,b,i=>by
  rw[List.cons_append,Jby,←Int.add_assoc];show(E i/\Cut E (i+lenP p) (a++b))↔(E i/\Cut E (i+lenP p) a)/\_;rw[Jea E a b,and_assoc]
theorem Jue{E:Int->Prop}{i:Int}{ps:List Pt}(h:Cut E i ps):E (i+Jav ps):=by
 have:=(Jea E ps [] i).1 (by rw[List.append_nil];exact h);exact this.2
structure CutS (E:Int->Prop) (s:NSt):Prop where
 out:Cut E 0 s.out
 here:E (Jgr s)
 puts:∀p∈s.out,V p.put
 put:V s.put
 one:OneS s
theorem Jhm{E:Int->Prop}{s:NSt}(h:CutS E s):Cut E 0 (JaG s)/\∀p∈JaG s,V p.put:=by
 have h1:=Jue h.out;rw[Int.zero_add]at h1;have h2:=h.here;unfold Jgr at h2;unfold JaG;refine⟨(Jea ..).2 ⟨h.out,?_⟩,?_⟩
 . rw [Int.zero_add]
   have key:Cut E (Jav s.out) (if s.drop=0 then [] else [⟨0,s.drop,[]⟩]):=by
    split
    . exact h1
    . refine⟨h1,?_⟩
      show E (Jav s.out+(0+s.drop));rw[Int.zero_add];exact h2
   split
   . exact key
   . refine⟨h1,?_⟩
     show Cut E (Jav s.out+(0+0)) _;rw[Int.zero_add,Int.add_zero];exact key
 . intro p hp
   rcases List.mem_append.1 hp with hp|hp
   . exact h.puts p hp
   . rcases List.mem_append.1 hp with hp | hp
     . split at hp
       . cases hp
       . rw[List.mem_singleton.1 hp];exact h.put
     . split at hp
       . cases hp
       . rw[List.mem_singleton.1 hp];exact JdG
theorem Jv0{E:Int->Prop}{l:List Pt}{k:Int}(h:Cut E 0 l)(hk:E (Jav l+k)):Cut E 0 (Jbo l k):=by
 have hnew:Cut E 0 (l++[⟨k,0,[]⟩]):=by
  refine(Jea ..).2 ⟨h,Jue h,?_⟩;show E (0+Jav l+(k+0));rw[Int.zero_add,Int.add_zero];exact hk
 unfold Jbo
 cases hq:l.getLast? with
 | none=>exact hnew
 | some q =>
  simp only
  split
  . obtain⟨m,rfl⟩:=List.getLast?_eq_some_iff.1 hq
    obtain⟨h1,h2⟩:=(Jea ..).1 h;rw[List.dropLast_concat];refine(Jea ..).2 ⟨h1,h2.1,?_⟩;have e:Jav (m++[q])=Jav m+lenP q:=by simp[Jav]
    rw[e]at hk;show E (0+Jav m+(q.keep+k+q.drop));have:0+Jav m+(q.keep+k+q.drop)=Jav m+lenP q+k:=by unfold lenP;omega
    rw[this];exact hk
  . exact hnew
theorem Js8{l:List Pt}{k:Int}(h:∀p∈l,V p.put):∀p∈Jbo l k,V p.put:=by
 intro p hp;unfold Jbo at hp
 cases hq:l.getLast? with
 | none =>
  rw[hq]at hp;simp only[List.mem_append,List.mem_singleton]at hp
  rcases hp with hp|rfl
  . exact h p hp
  . exact JdG
 | some q =>
  rw[hq]at hp;simp only at hp
  split at hp
  . simp only[List.mem_append,List.mem_singleton]at hp
    rcases hp with hp|rfl
    . exact h p (List.dropLast_subset l hp)
    . exact h q (List.mem_of_getLast? hq)
  . simp only[List.mem_append,List.mem_singleton]at hp
    rcases hp with hp|rfl
    . exact h p hp
    . exact JdG
theorem Jj4{E:Int->Prop}{s:NSt}(h:CutS E s)(p:Pt)(hk:0<=p.keep)(hd:0<=p.drop)(h1:p.keep=0\/(p.drop=0/\p.put=[]))(hv:V p.put)(he:E (Jgr s+lenP p)):CutS E (addP s p):=by
 have hone:=Jpw h.one p hk hd;have hlong:=Jgm s p;refine⟨?_,by rw[hlong];exact he,?_,?_,hone⟩
 . unfold addP
   split
   . exact h.out
   . rename_i h0
     obtain⟨e1,e2⟩:=h1.resolve_left h0;rw[e1,e2,List.append_nil,Int.add_zero];have hk:E (Jav (JaG s)+p.keep):=by
      rw[JgK];unfold lenP at he;rw[e1,Int.add_zero]at he;exact he
     exact Jv0 (Jhm h).1 hk
 . unfold addP
   split
   . exact h.puts
   . rename_i h0
     obtain⟨e1,e2⟩:=h1.resolve_left h0;rw[e1,e2,List.append_nil,Int.add_zero];exact Js8 (Jhm h).2
 . unfold addP
   split
   . exact JdS h.put hv
   . exact JdG
theorem Ji1(h:oneP p):0<=p.keep/\0<=p.drop/\(p.keep=0\/(p.drop=0/\p.put=[])):=by
 rcases h with ⟨h1,h2,h3⟩|⟨h1,h2,h3⟩|⟨h1,h2,h3⟩
 . exact⟨by omega,by omega,.inr ⟨h2,h3⟩⟩
 . exact⟨by omega,by omega,.inl h1⟩
 . exact⟨by omega,by omega,.inl h1⟩
theorem Jqf{E:Int->Prop}:∀(ps:List Pt)(s:NSt),(∀p∈ps,oneP p)->(∀p∈ps,V p.put)->CutS E s->Cut E (Jgr s) ps->CutS E (ps.foldl addP s)
 | [],s,_,_,h,_=>h
 | p :: ps,s,h1,h2,h,hc=>by
  obtain⟨k1,k2,k3⟩:=Ji1 (h1 p (by simp));have hl:=Jgm s p;refine Jqf ps (addP s p) (λq hq=>h1 q (by simp[hq])) (λq hq=>h2 q (by simp[hq])) (Jj4 h p k1 k2 k3 (h2 p (by simp)) (Jm3 hc.2)) ?_;rw[hl];exact hc.2
def Jn5 (T:List UInt8) (j:Int):Prop:=V (T.take j.toNat)
theorem Jwp{T:List UInt8}:∀{ps:List Pt}{i:Int},0<=i->(∀p∈ps,oneP p)->V (T.take i.toNat)->al ps (T.drop i.toNat)->Cut (Jn5 T) i ps
 | [],i,_,_,h,_=>h
 | p :: ps,i,h0,h1,h,ha=>by
  have hl:=Jjk (h1 p (by simp));have e:(i+lenP p).toNat=i.toNat+(lenP p).toNat:=by omega
  refine⟨h,Jwp (by omega) (λq hq=>h1 q (by simp[hq])) ?_ ?_⟩
  . rw[e,List.take_add];exact JdS h ha.2.1
  . rw[e,←List.drop_drop];exact ha.2.2
theorem Jwh{T:List UInt8}:∀{ps:List Pt}{i:Int},0<=i->(∀p∈ps,oneP p)->(∀p∈ps,V p.put)->Cut (Jn5 T) i ps->al ps (T.drop i.toNat)
 | [],i,_,_,_,_=>trivial
 | p :: ps,i,h0,h1,h2,hc=>by
  have hl:=Jjk (h1 p (by simp));have e:(i+lenP p).toNat=i.toNat+(lenP p).toNat:=by omega
  have h3:V (T.take i.toNat):=hc.1;have h4:V (T.take (i+lenP p).toNat):=Jm3 hc.2;rw[e,List.take_add]at h4;refine⟨h2 p (by simp),Juc h3 h4,?_⟩;have:=Jwh (by omega) (λq hq=>h1 q (by simp[hq])) (λq hq=>h2 q (by simp[hq])) hc.2;rw[e,←List.drop_drop]at this;exact this
theorem cut0(T:List UInt8):CutS (Jn5 T) nst0:=⟨JdG,JdG,by simp[nst0],JdG,⟨by simp[nst0],by simp[nst0]⟩⟩
theorem Jjz{T:List UInt8}{s:NSt}(h:CutS (Jn5 T) s)(hl:Jgr s=T.length):good (JaG s) T:=by
 refine⟨Jiv h.one,by rw[JgK];exact hl,?_⟩;have:=Jwh (i:=0) (by omega) (Jiv h.one) (Jhm h).2 (Jhm h).1;exact this
theorem good.norm(h:good ps t):good (Jap ps) t:=by
 have hc:CutS (Jn5 t) (ps.foldl addP nst0):=Jqf ps nst0 h.one (Jpu h.al) (cut0 t) (Jwp (i:=0) (by omega) h.one JdG h.al);refine Jjz hc ?_;rw[Jny];show Jav []+0+Jav ps=_;rw[h.long];simp[Jav]
theorem JhL(h:∀p∈ps,oneP p)(t:List UInt8):Jae (Jap ps) t=Jae ps t:=by
 have e:=Jgn Jm0 ps (JaW h) ([],t);rw[Jgo ps h,Jgo _ (Jgd ps (JaW h))]at e;simpa using congrArg Prod.fst e
end
section
variable {T D R o x r : List UInt8}{s : NSt}{p : Pt}{ps : List Pt}
structure St (T D R o:List UInt8) (s:NSt):Prop where
 cut:CutS (Jn5 T) s
 eq:T=D++R
 here:V D
 long:Jgr s=D.length
 act:(JaG s).foldl actA ([],T)=(o,R)
theorem St0(T:List UInt8):St T [] T [] nst0:=⟨cut0 T,rfl,JdG,by simp[Jgr,nst0,Jav],rfl⟩
theorem St.none(h:St T D R o s):St T D R (o++[]) s:=by rw[List.append_nil];exact h
theorem St.put(h:St T D R o s){u:List UInt8}(hu:V u):St T D R (o++u) (addP s ⟨0,0,u⟩):=by
 have hl:=Jgm s ⟨0,0,u⟩;have e0:lenP ⟨0,0,u⟩=0:=rfl;rw[e0,Int.add_zero]at hl;refine⟨Jj4 h.cut _ (Int.le_refl _) (Int.le_refl _) (.inl rfl) hu ?_,h.eq,h.here,by rw[hl];exact h.long,?_⟩
 . rw[e0,Int.add_zero];exact h.cut.here
 . rw[Jmy Jm0 s _ h.cut.one.drop (Int.le_refl _) (Int.le_refl _),h.act]
   simp[actA]
theorem St.keep(h:St T D (x++R) o s)(hx:V x):St T (D++x) R (o++x) (addP s ⟨x.length,0,[]⟩):=by
 have hl:=Jgm s ⟨x.length,0,[]⟩;have e0:lenP ⟨x.length,0,[]⟩=x.length:=by simp[lenP]
 rw[e0]at hl;have h0:(0:Int)<=x.length:=by omega
 refine⟨Jj4 h.cut _ h0 (Int.le_refl _) (.inr ⟨rfl,rfl⟩) JdG ?_,by rw[List.append_assoc];exact h.eq,JdS h.here hx,by rw[hl,h.long,List.length_append];push_cast;rfl,?_⟩
 . rw[e0,h.long]
   unfold Jn5;rw[show((D.length:Int)+x.length).toNat=(D++x).length by rw[List.length_append];omega,h.eq,←List.append_assoc,List.take_left']
   . exact JdS h.here hx
   . rfl
 . rw[Jmy Jm0 s _ h.cut.one.drop h0 (Int.le_refl _),h.act]
   simp[actA]
theorem St.drop{T D R o x:List UInt8}{s:NSt}(h:St T D (x++R) o s)(hx:V x):St T (D++x) R o (addP s ⟨0,x.length,[]⟩):=by
 have hl:=Jgm s ⟨0,x.length,[]⟩;have e0:lenP ⟨0,x.length,[]⟩=x.length:=by simp[lenP]
 rw[e0]at hl;have h0:(0:Int)<=x.length:=by omega
 refine⟨Jj4 h.cut _ (Int.le_refl _) h0 (.inl rfl) JdG ?_,by rw[List.append_assoc];exact h.eq,JdS h.here hx,by rw[hl,h.long,List.length_append];push_cast;rfl,?_⟩
 . rw[e0,h.long]
   unfold Jn5;rw[show((D.length:Int)+x.length).toNat=(D++x).length by rw[List.length_append];omega,h.eq,←List.append_assoc,List.take_left']
   . exact JdS h.here hx
   . rfl
 . rw[Jmy Jm0 s _ h.cut.one.drop (Int.le_refl _) h0,h.act]
   simp[actA]
theorem St.full(h:St T D [] o s):St T T [] o s:=by
 have e:=h.eq;rw[List.append_nil]at e;subst e;exact h
theorem St.good{T o:List UInt8}{s:NSt}(h:St T T [] o s):good (JaG s) T/\Jae (JaG s) T=o:=by
 have hg:=Jjz h.cut h.long;refine⟨hg,?_⟩;have e:=h.act;rw[Jgo _ hg.one]at e;simpa using congrArg Prod.fst e
theorem Jb8(d:Bool)(n:Nat):lenP (Jan d n)=(n:Int):=by cases d<;>simp[lenP,Jan]
theorem Jfi(d:Bool)(n:Nat):(Jan d n).put=[]:=by cases d<;>rfl
theorem JuF(d:Bool)(n:Nat):oneP (Jan d (n+1)):=by
 cases d with
 | true=>exact .inr (.inl ⟨rfl,by show(0:Int)<((n+1:Nat):Int);omega,rfl⟩)
 | false=>exact .inl ⟨by show(0:Int)<((n+1:Nat):Int);omega,rfl,rfl⟩
theorem JsW(d:Bool)(n:Nat)(x:List UInt8):Jd9 (Jan d (n+1),x)=if d then [] else x:=by
 cases d<;>simp[Jd9,Jan]
theorem Jde(d:Bool)(n:Nat)(ps:List Pt)(r:List UInt8):Jae (Jan d (n+1) :: ps) r=(if d then [] else r.take (n+1))++Jae ps (r.drop (n+1)):=by
 rw[JdZ,JsW,Jb8];rfl
theorem JnF(d:Bool)(m j:Nat)(hj:j<=m):(m=j/\(cutP (Jan d (m+1)) ((j:Int)+1)).2=[])\/∃i,m=j+i+1/\(cutP (Jan d (m+1)) ((j:Int)+1)).2=[Jan d (i+1)]:=by
 have hl:Jaf (Jan d (m+1))=(m:Int)+1:=by rw[JbJ];push_cast;rfl
 by_cases e:m=j
 . exact .inl ⟨e,by unfold cutP;rw[if_pos (by rw[hl,e])]⟩
 . right
   refine⟨m - j - 1,by omega,?_⟩;unfold cutP;rw[if_neg (by rw[hl];omega)];have e1:((m+1:Nat):Int) - ((j:Int)+1)=((m - j - 1+1:Nat):Int):=by omega
   cases d with
   | true =>
    rw[if_neg (show ¬0<(Jan true (m+1)).keep from Int.lt_irrefl 0),if_pos (show 0<(Jan true (m+1)).drop by show(0:Int)<((m+1:Nat):Int);omega)];show [(⟨0,((m+1:Nat):Int) - ((j:Int)+1),[]⟩:Pt)]=[⟨0,((m - j - 1+1:Nat):Int),[]⟩];rw[e1]
   | false =>
    rw[if_pos (show 0<(Jan false (m+1)).keep by show(0:Int)<((m+1:Nat):Int);omega)];show [(⟨((m+1:Nat):Int) - ((j:Int)+1),0,[]⟩:Pt)]=[⟨((m - j - 1+1:Nat):Int),0,[]⟩];rw[e1]
structure Left (X:List Pt) (r:List UInt8):Prop where
 one:∀p∈X,oneP p
 long:Jav X=r.length
 al:al X r
theorem Left.good{X:List Pt}{r:List UInt8}(h:Left X r):good X r:=⟨h.one,h.long,h.al⟩
theorem Jfb(d:Bool)(m j:Nat)(hj:j<=m)(ps:List Pt)(r:List UInt8)(h:Left (Jan d (m+1) :: ps) r)(hv:V (r.take (j+1))) :
    Left ((cutP (Jan d (m+1)) ((j:Int)+1)).2++ps) (r.drop (j+1))/\Jae (Jan d (m+1) :: ps) r=(if d then [] else r.take (j+1))++Jae ((cutP (Jan d (m+1)) ((j:Int)+1)).2++ps) (r.drop (j+1))/\j+1<=r.length:=by
 have hl:=h.long;rw[Jby,Jb8]at hl;have h0:=JgY λq hq=>h.one q (List.mem_cons_of_mem _ hq);have ha:=h.al.2.2;have hq:=h.al.2.1;rw[Jb8]at ha hq;have ht:((m+1:Nat):Int).toNat=m+1:=by omega
 rw[ht]at ha hq;have hlen:j+1<=r.length:=by omega
 rcases JnF d m j hj with ⟨rfl,e⟩|⟨i,rfl,e⟩
 . rw[e,List.nil_append]
   refine⟨⟨λp hp=>h.one p (by simp[hp]),by rw[List.length_drop];omega,ha⟩,Jde d m ps r,hlen⟩
 . rw [e]
   have e1:r.take (j+i+1+1)=r.take (j+1)++(r.drop (j+1)).take (i+1):=by rw[←List.take_add];congr 1;omega
   have e2:r.drop (j+i+1+1)=(r.drop (j+1)).drop (i+1):=by rw[List.drop_drop];congr 1;omega
   rw[e1]at hq;rw[e2]at ha;refine⟨⟨?_,?_,?_,?_,?_⟩,?_,hlen⟩
   . intro p hp
     rcases List.mem_cons.1 hp with rfl|hp
     . exact JuF d i
     . exact h.one p (by simp at hp;simp[hp])
   . show Jav (Jan d (i+1) :: ps)=_
     rw[Jby,Jb8,List.length_drop];omega
   . rw[Jfi];exact JdG
   . rw[Jb8];exact Juc hv hq
   . rw[Jb8];exact ha
   . show _=_++Jae (Jan d (i+1) :: ps) _
     rw[Jde,Jde,e1,e2]
     cases d<;>simp
def outL:List (Pt×Pt)->List UInt8->List UInt8
 | [],_=>[]
 | (p,q) :: l,r=>p.put++(q.put++((if 0<p.keep/\0<q.keep then r.take p.keep.toNat else [])++outL l (r.drop (lenP p).toNat)))
def tF (F:Bool) (x:Pt×Pt):List Pt:=if F then JbN x else JbN (x.2,x.1)
theorem Jef(t:Pt×Pt->List Pt)(x:Pt×Pt)(l:List (Pt×Pt))(s:NSt):runS t (x :: l) s=runS t l ((t x).foldl addP s):=rfl
theorem Jng(u:List UInt8)(l:List (Pt×Pt))(r:List UInt8):outL ((⟨0,0,u⟩,noP) :: l) r=u++outL l r/\outL ((noP,⟨0,0,u⟩) :: l) r=u++outL l r:=by
 simp[outL,noP,lenP]
theorem Jra(d e:Bool)(j:Nat)(l:List (Pt×Pt))(r:List UInt8):outL ((Jan d (j+1),Jan e (j+1)) :: l) r=(if d || e then [] else r.take (j+1))++outL l (r.drop (j+1)):=by
 have h0:(0:Int)<((j:Int)+1):=by omega
 have h1:((j:Int)+1).toNat=j+1:=by omega
 cases d<;>cases e<;>simp[outL,Jan,lenP,h0,h1]
theorem Jp9(F:Bool)(u:List UInt8)(hu:u≠[]):tF F (if F then (⟨0,0,u⟩,noP) else (noP,⟨0,0,u⟩))=[⟨0,0,u⟩]:=by
 cases F<;>simp[tF,JbN,Jag,noP,hu]
theorem Jix(F:Bool)(u:List UInt8)(hu:u≠[]):tF F (if F then (noP,⟨0,0,u⟩) else (⟨0,0,u⟩,noP))=[⟨u.length,0,[]⟩]:=by
 cases F<;>simp[tF,JbN,Jag,noP,hu]
theorem Jp8(F d e:Bool)(j:Nat):tF F (Jan d (j+1),Jan e (j+1))=if (if F then e else d) then [] else [Jan (if F then d else e) (j+1)]:=by
 have h1:=Jbu d (j+1);have h2:=Jbu e (j+1);have h3:∀b,JbZ (Jan b (j+1)) = !b:=by
  intro b;have h0:(0:Int)<((j:Int)+1):=by omega
  cases b<;>simp[JbZ,Jan,h0]
 cases F<;>cases d<;>cases e<;>simp[tF,JbN,h1,h2,h3]
theorem St.unit(h:St T D (x++R) o s)(hx:V x)(d:Bool)(n:Nat)(hn:x.length=n):St T (D++x) R (o++if d then [] else x) (addP s (Jan d n)):=by
 subst hn
 cases d with
 | true=>rw[if_pos rfl,List.append_nil];exact h.drop hx
 | false=>rw[if_neg (by decide)];exact h.keep hx
theorem JbQ(h:Left (p :: ps) r):Left ps (r.drop (lenP p).toNat)/\V p.put/\V (r.take (lenP p).toNat)/\(lenP p).toNat<=r.length:=by
 have hl:=h.long;rw[Jby]at hl;have h0:=JgY λq hq=>h.one q (List.mem_cons_of_mem _ hq);have h1:=Jjk (h.one p (by simp));exact⟨⟨λq hq=>h.one q (by simp[hq]),by rw[List.length_drop];omega,h.al.2.2⟩,h.al.1,h.al.2.1,by omega⟩
theorem JdP(h:Left [] r):r=[]:=by
 have:=h.long;simp[Jav]at this;exact List.eq_nil_of_length_eq_zero (by omega)
theorem Jfp{u:List UInt8}(h:Left (⟨0,0,u⟩ :: ps) r):Left ps r/\V u:=by
 obtain⟨h1,h2,_⟩:=JbQ h;exact⟨by simpa[lenP] using h1,h2⟩
theorem JdA{d:Bool}{n:Nat}(h:Left (Jan d (n+1) :: ps) []):False:=by
 have:=(JbQ h).2.2.2;rw[Jb8]at this;simp at this
theorem JcA(h:oneP p)(ps:List Pt):Jam ps+1<=Jam (p :: ps):=by
 have:=Jbg h;rw[Ja5];omega
theorem Jp3(F:Bool):∀(f:Nat)(A B:List Pt)(r T D o:List UInt8)(s:NSt),Left A r->Left B r->Jam A+Jam B<=f->St T D (Jae (if F then B else A) r) o s ->
    St T T [] (o++outL (Ja7 Jag Jag f A B) r) (runS (tF F) (Ja7 Jag Jag f A B) s):=by
 have base:∀(T D o:List UInt8) (s:NSt) (g:Nat),St T D (Jae (if F then [] else []) []) o s->St T T [] (o++outL (Ja7 Jag Jag g [] []) []) (runS (tF F) (Ja7 Jag Jag g [] []) s):=by
  intro T D o s g h;have e:Ja7 Jag Jag g [] []=[]:=by cases g<;>rfl
  rw[e];have h2:St T D [] o s:=by cases F<;>exact h
  exact h2.full.none
 have nil_of:∀{l:List Pt} {r:List UInt8},Left l r->Jam l=0->l=[]:=by
  intro l r h hw
  cases l with
  | nil=>rfl
  | cons p l=>have:=JcA (h.one p (by simp)) l;omega
 intro f
 induction f with
 | zero =>
  intro A B r T D o s hA hB hw h;obtain rfl:=nil_of hA (by omega);obtain rfl:=nil_of hB (by omega);obtain rfl:=JdP hA;exact base T D o s 0 h
 | succ f ih =>
  intro A B r T D o s hA hB hw h
  have stepB:∀(v:List UInt8) (B':List Pt),v≠[]->B=⟨0,0,v⟩ :: B'->Ja7 Jag Jag (f+1) A B=(noP,⟨0,0,v⟩) :: Ja7 Jag Jag f A B'->St T T [] (o++outL (Ja7 Jag Jag (f+1) A B) r) (runS (tF F) (Ja7 Jag Jag (f+1) A B) s):=by
   intro v B' hv e es;subst e;obtain⟨hB',hV⟩:=Jfp hB;have hw':=JcA (hB.one ⟨0,0,v⟩ (by simp)) B';rw[es,(Jng v _ r).2,Jef,←List.append_assoc];refine ih A B' r T (if F then D++v else D) (o++v) _ hA hB' (by omega) ?_
   cases F with
   | true =>
    have e:=Jix true v hv;rw[if_pos rfl]at e;rw[e];rw[if_pos rfl,JcN]at h;exact h.keep hV
   | false =>
    have e:=Jp9 false v hv;rw[if_neg (by decide)]at e;rw[e];rw[if_neg (by decide)]at h;exact h.put hV
  cases A with
  | nil =>
   obtain rfl:=JdP hA
   cases B with
   | nil=>exact base T D o s (f+1) h
   | cons q B' =>
    rcases Jbr (hB.one q (by simp)) with ⟨v,hv,rfl⟩|⟨e,k,rfl⟩
    . exact stepB v B' hv rfl (by rw[Ja7,if_pos (Jck hv)])
    . exact absurd hB JdA
  | cons p A' =>
   rcases Jbr (hA.one p (by simp)) with ⟨u,hu,rfl⟩|⟨d,m,rfl⟩
   . obtain ⟨hA',hV⟩:=Jfp hA
     have hw':=JcA (hA.one ⟨0,0,u⟩ (by simp)) A';have es:Ja7 Jag Jag (f+1) (⟨0,0,u⟩ :: A') B=(⟨0,0,u⟩,noP) :: Ja7 Jag Jag f A' B:=by
      have h1:=Jck hu
      cases B<;>simp only[Ja7,h1,if_true]
     rw[es,(Jng u _ r).1,Jef,←List.append_assoc];refine ih A' B r T (if F then D else D++u) (o++u) _ hA' hB (by omega) ?_
     cases F with
     | true =>
      have e:=Jp9 true u hu;rw[if_pos rfl]at e;rw[e];rw[if_pos rfl]at h;exact h.put hV
     | false =>
      have e:=Jix false u hu;rw[if_neg (by decide)]at e;rw[e];rw[if_neg (by decide),JcN]at h;exact h.keep hV
   . cases B with
     | nil =>
      obtain rfl:=JdP hB;exact absurd hA JdA
     | cons q B' =>
      rcases Jbr (hB.one q (by simp)) with ⟨v,hv,rfl⟩|⟨e,k,rfl⟩
      . exact stepB v B' hv rfl (by
          have h1:=Jbu d (m+1);have h2:=Jck hv
          simp only[Ja7,h1,h2,Bool.false_eq_true,if_false,if_true])
      . have hmin:min (Jaf (Jan d (m+1))) (Jaf (Jan e (k+1)))=((min m k:Nat):Int)+1:=by rw[JbJ,JbJ];omega
        obtain⟨j,hj⟩:∃j,min m k=j:=⟨_,rfl⟩;rw[hj]at hmin;have hj1:j<=m:=by omega
        have hj2:j<=k:=by omega
        have es:Ja7 Jag Jag (f+1) (Jan d (m+1) :: A') (Jan e (k+1) :: B')=(Jan d (j+1),Jan e (j+1)) :: Ja7 Jag Jag f ((cutP (Jan d (m+1)) ((j:Int)+1)).2++A') ((cutP (Jan e (k+1)) ((j:Int)+1)).2++B'):=by
         rw[Ja7,if_neg (by rw[Jbu];decide),if_neg (by rw[Jbu];decide),hmin,(JdR d m j hj1).1,(JdR e k j hj2).1]
        have hv:V (r.take (j+1)):=by
         have v1:=(JbQ hA).2.2.1;have v2:=(JbQ hB).2.2.1;rw[Jb8]at v1 v2
         by_cases hc:m<=k
         . obtain rfl:m=j:=by omega
           exact v1
         . obtain rfl:k=j:=by omega
           exact v2
        obtain⟨lA,aA,hlen⟩:=Jfb d m j hj1 A' r hA hv;obtain⟨lB,aB,_⟩:=Jfb e k j hj2 B' r hB hv;have wA:=JcD d m j hj1;have wB:=JcD e k j hj2;have hx:(r.take (j+1)).length=j+1:=by rw[List.length_take];omega
        have hw2:Jam ((cutP (Jan d (m+1)) ((j:Int)+1)).2++A')+Jam ((cutP (Jan e (k+1)) ((j:Int)+1)).2++B')<=f:=by
         rw[Jbh,Jbh,wA,wB];rw[Ja5,Ja5,JbJ,JbJ]at hw;omega
        rw[es,Jra,Jef,Jp8,←List.append_assoc];refine ih _ _ (r.drop (j+1)) T (if (if F then e else d) then D else D++r.take (j+1)) _ _ lA lB hw2 ?_
        cases F with
        | true =>
         rw[if_pos rfl,aB]at h;simp only[if_true]
         cases e with
         | true =>
          simp only[Bool.or_true,if_true,List.append_nil,List.foldl_nil];exact h
         | false =>
          simp only[Bool.or_false,Bool.false_eq_true,if_false,List.foldl_cons,List.foldl_nil]at h ⊢;exact h.unit hv d (j+1) hx
        | false =>
         rw[if_neg (by decide),aA]at h;simp only[Bool.false_eq_true,if_false]
         cases d with
         | true =>
          simp only[Bool.true_or,if_true,List.append_nil,List.foldl_nil];exact h
         | false =>
          simp only[Bool.false_or,Bool.false_eq_true,if_false,List.foldl_cons,List.foldl_nil]at h ⊢;exact h.unit hv e (j+1) hx
theorem JeM(F:Bool){a b:List Pt}{t:List UInt8}(ha:good a t)(hb:good b t) :
    good (JaG (Jbj F a b)) (Jae b t)/\Jae (JaG (Jbj F a b)) (Jae b t)=outL (if F then Ja7 Jag Jag (Jam (Jap a)+Jam (Jap b)) (Jap a) (Jap b) else Ja7 Jag Jag (Jam (Jap b)+Jam (Jap a)) (Jap b) (Jap a)) t:=by
 have na:=ha.norm;have nb:=hb.norm;have la:Left (Jap a) t:=⟨na.one,na.long,na.al⟩;have lb:Left (Jap b) t:=⟨nb.one,nb.long,nb.al⟩;have eb:=JhL hb.one t;unfold Jbj
 cases F with
 | true =>
  have:=Jp3 true _ (Jap a) (Jap b) t (Jae b t) [] [] nst0 la lb (nlr _) (by rw[if_pos rfl,eb];exact St0 _);exact this.good
 | false =>
  have:=Jp3 false _ (Jap b) (Jap a) t (Jae b t) [] [] nst0 lb la (nlr _) (by rw[if_neg (by decide),eb];exact St0 _);exact this.good
theorem Jon(F:Bool){a b:List Pt}{t:List UInt8}(ha:good a t)(hb:good b t) :
    Jae (JaG (Jbj (!F) b a)) (Jae a t)=Jae (JaG (Jbj F a b)) (Jae b t):=by
 rw[(JeM F ha hb).2,(JeM (!F) hb ha).2]
 cases F<;>simp
end
section
variable {u : Int}{q : Pt}
def byZ (l:List UInt8):List Int:=l.map λb=>(b.toNat:Int)
def rowZ (u:Int) (rs:List Nat):List Int:=if u=1 then byZ (encs rs) else if u=2 then toI (hals rs) else toI rs
def Jcc (u:Int) (R:List Nat) (n:Int):List Nat:=R.drop (upTo R u n).length
theorem JhG(hu:JaH u){R:List Nat}{n:Int}(h1:n<=by_ u R)(he:JbL R u n=true):R=upTo R u n++Jcc u R n/\by_ u (upTo R u n)=n:=by
 obtain⟨k,k1,k2,k3,_⟩:=(JeP hu h1).1 he;unfold Jcc;rw[k2,List.length_take,Nat.min_eq_left k1];exact⟨(List.take_append_drop k R).symm,k3⟩
theorem edge_of(hu:JaH u){R X Y:List Nat}(h:R=X++Y):JbL R u (by_ u X)=true/\upTo R u (by_ u X)=X/\Jcc u R (by_ u X)=Y:=by
 have hle:by_ u X<=by_ u R:=by rw[h,Jb9];have:=Jdd u Y;omega
 have hx:R.take X.length=X:=by rw[h,List.take_left' rfl]
 have he:JbL R u (by_ u X)=true:=by
  cases e:JbL R u (by_ u X) with
  | true=>rfl
  | false=>exact absurd (by rw[hx]) ((JeP hu hle).2 e X.length (by rw[h];simp))
 obtain⟨k,k1,k2,k3,_⟩:=(JeP hu hle).1 he
 have hk:k=X.length:=by
  have hXl:X.length<=R.length:=by rw[h];simp
  rcases Nat.lt_trichotomy k X.length with hlt|rfl|hlt
  . have:=Jmt hu R k X.length hlt hXl
    rw[hx,k3]at this;omega
  . rfl
  . have:=Jmt hu R X.length k hlt k1
    rw[hx,k3]at this;omega
 subst hk;refine⟨he,by rw[k2,hx],?_⟩;unfold Jcc;rw[k2,hx,h,List.drop_left' rfl]
def okZ (u:Int):List Nat->List Pt->Bool
 | _,[]=>true
 | R,q :: qs=>JbL R u (lenP q) && okZ u (Jcc u R (lenP q)) qs
def inZ (u v:Int):List Nat->List Pt->List Pt
 | _,[]=>[]
 | R,q :: qs=>Jfc (by_ v (upTo R u (lenP q))) q :: inZ u v (Jcc u R (lenP q)) qs
def Jep (u:Int):List Nat->List Pt->List Nat
 | _,[]=>[]
 | R,q :: qs=>((if 0<q.keep then upTo R u (lenP q) else [])++Ja0 q.put)++Jep u (Jcc u R (lenP q)) qs
theorem Jky(hu:JaH u)(pre R:List Nat)(n:Int)(h0:0<=n)(h1:n<=by_ u R) :
    JbL (pre++R) u (by_ u pre+n)=JbL R u n/\(JbL R u n=true->upTo (pre++R) u (by_ u pre+n)=pre++upTo R u n):=by
 have key:JbL R u n=true->JbL (pre++R) u (by_ u pre+n)=true/\upTo (pre++R) u (by_ u pre+n)=pre++upTo R u n:=λhe=>by
  obtain⟨e1,e2⟩:=JhG hu h1 he;have e3:pre++R=(pre++upTo R u n)++Jcc u R n:=by rw[List.append_assoc,←e1]
  have:=edge_of hu e3;rw[Jb9,e2]at this;exact⟨this.1,this.2.1⟩
 refine⟨?_,λhe=>(key he).2⟩
 cases he:JbL R u n with
 | true=>exact(key he).1
 | false =>
  cases e:JbL (pre++R) u (by_ u pre+n) with
  | false=>rfl
  | true =>
   exfalso
   have hle:by_ u pre+n<=by_ u (pre++R):=by rw[Jb9];omega
   obtain⟨k,k1,k2,k3,_⟩:=(JeP hu hle).1 e
   have hk:pre.length<=k:=by
    by_cases h:pre.length<=k
    . exact h
    . have:=Jmt hu (pre++R) k pre.length (by omega) (by simp)
      rw[k3,List.take_left' rfl]at this;omega
   have e4:(pre++R).take k=pre++R.take (k - pre.length):=by
    rw[List.take_append,List.take_of_length_le hk]
   rw[e4,Jb9]at k3;exact(JeP hu h1).2 he (k - pre.length) (by rw[List.length_append]at k1;omega) (by omega)
theorem Jp1{u:Int}(hu:JaH u)(v:Int):∀(qs:List Pt)(pre R:List Nat),(∀q∈qs,0<=lenP q)->Jav qs<=by_ u R ->
    (JjV (pre++R) u v (by_ u pre) qs).2=okZ u R qs/\(okZ u R qs=true->(JjV (pre++R) u v (by_ u pre) qs).1=inZ u v R qs)
 | [],_,_,_,_=>⟨rfl,λ_=>rfl⟩
 | q :: qs,pre,R,h,hl=>by
  have h0:=h q (by simp);have h3:∀x∈qs,0<=lenP x:=λx hx=>h x (by simp[hx]);have hp:=JlB h3;have hl2:Jav (q :: qs)=lenP q+Jav qs:=by simp[Jav]
  rw[hl2]at hl;obtain⟨s1,s2⟩:=Jky hu pre R (lenP q) h0 (by omega);obtain⟨t1,t2⟩:=Jky hu pre R 0 (Int.le_refl _) (Jdd u R);have hz:upTo R u 0=[]:=Jsc R u;have hz2:JbL R u 0=true:=by unfold JbL;rw[hz,JjC];rfl
  have t2:=t2 hz2;rw[Int.add_zero,hz,List.append_nil]at t2
  have hunf:JjV (pre++R) u v (by_ u pre) (q :: qs)=if JbL (pre++R) u (by_ u pre+lenP q) then
   (Jfc (by_ v (upTo (pre++R) u (by_ u pre+lenP q)) - by_ v (upTo (pre++R) u (by_ u pre))) q :: (JjV (pre++R) u v (by_ u pre+lenP q) qs).1,(JjV (pre++R) u v (by_ u pre+lenP q) qs).2)
   else ([],false):=rfl
  have hoz:okZ u R (q :: qs)=(JbL R u (lenP q) && okZ u (Jcc u R (lenP q)) qs):=rfl;rw[hunf,hoz,s1]
  cases he:JbL R u (lenP q) with
  | false=>exact⟨rfl,λh=>by cases h⟩
  | true =>
   obtain⟨e1,e2⟩:=JhG hu (by omega) he;have hR:pre++R=(pre++upTo R u (lenP q))++Jcc u R (lenP q):=by rw[List.append_assoc,←e1]
   have hby:by_ u pre+lenP q=by_ u (pre++upTo R u (lenP q)):=by rw[Jb9,e2]
   have hle:Jav qs<=by_ u (Jcc u R (lenP q)):=by
    have:by_ u R=by_ u (upTo R u (lenP q))+by_ u (Jcc u R (lenP q)):=by rw[←Jb9];exact congrArg _ e1
    omega
   obtain⟨i1,i2⟩:=Jp1 hu v qs (pre++upTo R u (lenP q)) (Jcc u R (lenP q)) h3 hle;rw[if_pos rfl,s2 he,t2,hby,Bool.true_and];rw[←hR]at i1 i2;refine⟨i1,λho=>?_⟩;have ev:by_ v (pre++upTo R u (lenP q)) - by_ v pre=by_ v (upTo R u (lenP q)):=by rw[Jb9];omega
   rw[i2 ho,ev];rfl
theorem Jsg(hu:JaH u)(v:Int)(qs:List Pt)(R:List Nat)(h:∀q∈qs,0<=lenP q)(hl:Jav qs<=by_ u R) :
    turnX R u v qs=(if okZ u R qs then 0 else 10)/\turnO R u v qs=if okZ u R qs then inZ u v R qs else []:=by
 obtain⟨h1,h2⟩:=Jp1 hu v qs [] R h hl;rw[List.nil_append,JjC]at h1 h2;unfold turnX turnO;rw[h1];refine⟨rfl,?_⟩
 split
 . rename_i ho;exact h2 ho
 . rfl
theorem Jje{R:List Nat}{n:Int}(h:∀r∈R,Jbp r):∀r∈Jcc u R n,Jbp r:=λr hr=>h r (List.mem_of_mem_drop hr)
theorem Jm7(hu:JaH u){R:List Nat}{n:Int}(hn:n<=by_ u R)(h:∀r∈R,Jbp r):∀r∈upTo R u n,Jbp r:=λr hr=>by
 obtain⟨k,_,h2,_⟩:=Jh4 R u n hn;rw[h2]at hr;exact h r (List.mem_of_mem_take hr)
theorem JkR{u:Int}(hu:JaH u):∀(qs:List Pt)(R:List Nat),(∀q∈qs,0<=lenP q)->Jav qs<=by_ u R->okZ u R qs=true->(∀r∈R,Jbp r)->∀r∈Jep u R qs,Jbp r
 | [],R,_,_,_,_,r,hr=>by cases hr
 | q :: qs,R,h,hl,ho,hR,r,hr=>by
  have h3:∀x∈qs,0<=lenP x:=λx hx=>h x (by simp[hx]);have hp:=JlB h3;have h0:=h q (by simp);have hl2:Jav (q :: qs)=lenP q+Jav qs:=by simp[Jav]
  rw[hl2]at hl;have ho:(JbL R u (lenP q) && okZ u (Jcc u R (lenP q)) qs)=true:=ho;rw[Bool.and_eq_true]at ho;obtain⟨e1,e2⟩:=JhG hu (by omega) ho.1;have hle:Jav qs<=by_ u (Jcc u R (lenP q)):=by
   have:by_ u R=by_ u (upTo R u (lenP q))+by_ u (Jcc u R (lenP q)):=by rw[←Jb9];exact congrArg _ e1
   omega
  have hr:r∈((if 0<q.keep then upTo R u (lenP q) else [])++Ja0 q.put)++Jep u (Jcc u R (lenP q)) qs:=hr
  rcases List.mem_append.1 hr with hr|hr
  . rcases List.mem_append.1 hr with hr | hr
    . split at hr
      . exact Jm7 hu (by omega) hR r hr
      . cases hr
    . exact Jd4 hr
  . exact JkR hu qs _ h3 hle ho.2 (Jje hR) r hr
theorem Juo(h:oneB q=true)(n:Int)(hn:lenP q=0->n=0):lenP (Jfc n q)=n:=by
 unfold Jfc
 rcases Jfm h with ⟨h1,h2,h3⟩|⟨h1,h2,h3⟩|⟨h1,h2,h3⟩
 . rw[if_pos h1];simp[lenP]
 . rw[if_neg (by omega),if_pos h2];simp[lenP]
 . rw[if_neg (by omega),if_neg (by omega)]
   rw[hn (by unfold lenP;omega)];simp[lenP]
theorem Jun(h:oneB q=true){n:Int}(hn:0<lenP q->0<n):oneP (Jfc n q):=by
 unfold Jfc
 rcases Jfm h with ⟨h1,h2,h3⟩|⟨h1,h2,h3⟩|⟨h1,h2,h3⟩
 . rw[if_pos h1];exact .inl ⟨hn (by unfold lenP;omega),rfl,rfl⟩
 . rw[if_neg (by omega),if_pos h2];exact .inr (.inl ⟨rfl,hn (by unfold lenP;omega),rfl⟩)
 . rw[if_neg (by omega),if_neg (by omega)];exact .inr (.inr ⟨rfl,rfl,h3⟩)
theorem Jl1(h:oneB q=true)(n:Int):(Jfc n q).put=q.put:=by
 unfold Jfc
 rcases Jfm h with ⟨h1,h2,h3⟩|⟨h1,h2,h3⟩|⟨h1,h2,h3⟩
 . rw[if_pos h1,h3]
 . rw[if_neg (by omega),if_pos h2,h3]
 . rw[if_neg (by omega),if_neg (by omega)]
theorem Jsd(h:oneB q=true){n:Int}(hn:0<lenP q->0<n):(0<(Jfc n q).keep)↔0<q.keep:=by
 unfold Jfc
 rcases Jfm h with ⟨h1,h2,h3⟩|⟨h1,h2,h3⟩|⟨h1,h2,h3⟩
 . rw[if_pos h1];exact⟨λ_=>h1,λ_=>hn (by unfold lenP;omega)⟩
 . rw[if_neg (by omega),if_pos h2];exact⟨λh=>absurd h (Int.lt_irrefl 0),λh=>by omega⟩
 . rw[if_neg (by omega),if_neg (by omega)];exact⟨λh=>absurd h (Int.lt_irrefl 0),λh=>by omega⟩
theorem JtL{v:Int}(hu:JaH u)(hv:JaH v){X:List Nat}(h:0<by_ u X):0<by_ v X:=by
 cases X with
 | nil=>rw[JjC]at h;omega
 | cons r X =>
  have e:r :: X=[r]++X:=rfl;rw[e,Jb9];have:=JtM hv r;have:=Jdd v X;omega
theorem Jlb(hu:JaH u){X:List Nat}(h:by_ u X=0):X=[]:=by
 cases X with
 | nil=>rfl
 | cons r X =>
  have e:r :: X=[r]++X:=rfl;rw[e,Jb9]at h;have:=JtM hu r;have:=Jdd u X;omega
theorem Jtp{u:Int}(hu:JaH u):∀(qs:List Pt)(R:List Nat),(∀q∈qs,oneB q=true/\(scan q.put).2=true)->Jav qs=by_ u R->(∀r∈R,Jbp r)->okZ u R qs=true ->
    Left (inZ u 1 R qs) (encs R)/\Jae (inZ u 1 R qs) (encs R)=encs (Jep u R qs)
 | [],R,_,hl,_,_=>by
  have:R=[]:=Jlb hu (by rw[←hl];simp[Jav]);subst this;exact⟨⟨by simp[inZ],by simp[inZ,Jav,encs],trivial⟩,rfl⟩
 | q :: qs,R,h,hl,hr,ho=>by
  have hq:=h q (by simp);have hs:=(Jej hq.1).1;have hl2:Jav (q :: qs)=lenP q+Jav qs:=by simp[Jav]
  have hp3:∀x∈qs,0<=lenP x:=λx hx=>by
   have:=(Jej (h x (by simp[hx])).1).1;unfold Jce at this;unfold lenP;omega
  have hp:=JlB hp3;have hq0:0<=lenP q:=by unfold Jce at hs;unfold lenP;omega
  rw[hl2]at hl;have ho:(JbL R u (lenP q) && okZ u (Jcc u R (lenP q)) qs)=true:=ho;rw[Bool.and_eq_true]at ho;obtain⟨e1,e2⟩:=JhG hu (by omega) ho.1;have hby:by_ u R=by_ u (upTo R u (lenP q))+by_ u (Jcc u R (lenP q)):=by rw[←Jb9];exact congrArg _ e1
  obtain⟨il,ia⟩:=Jtp hu qs (Jcc u R (lenP q)) (λx hx=>h x (by simp[hx])) (by omega) (Jje hr) ho.2;have hur:=Jm7 (n:=lenP q) hu (by omega) hr;have hX:encs R=encs (upTo R u (lenP q))++encs (Jcc u R (lenP q)):=by rw[←Jb1];exact congrArg _ e1
  have hunf:inZ u 1 R (q :: qs)=Jfc (by_ 1 (upTo R u (lenP q))) q :: inZ u 1 (Jcc u R (lenP q)) qs:=rfl;have hc:Jep u R (q :: qs)=((if 0<q.keep then upTo R u (lenP q) else [])++Ja0 q.put)++Jep u (Jcc u R (lenP q)) qs:=rfl;have h1:by_ 1 (upTo R u (lenP q))=(encs (upTo R u (lenP q))).length:=by unfold by_;rw[if_pos rfl,Jcb]
  have hz0:lenP q=0->by_ 1 (upTo R u (lenP q))=0:=λe=>by rw[Jlb hu (e2.trans e),JjC]
  have hzp:0<lenP q->0<by_ 1 (upTo R u (lenP q)):=λe=>JtL hu (.inl rfl) (by omega);have hul:=Juo hq.1 _ hz0;rw[hunf,hc,hX];have hto:(lenP (Jfc (by_ 1 (upTo R u (lenP q))) q)).toNat=(encs (upTo R u (lenP q))).length:=by rw[hul,h1];simp
  have htake:(encs (upTo R u (lenP q))++encs (Jcc u R (lenP q))).take (lenP (Jfc (by_ 1 (upTo R u (lenP q))) q)).toNat=encs (upTo R u (lenP q)):=by rw[hto,List.take_left' rfl]
  have hdrop:(encs (upTo R u (lenP q))++encs (Jcc u R (lenP q))).drop (lenP (Jfc (by_ 1 (upTo R u (lenP q))) q)).toNat=encs (Jcc u R (lenP q)):=by rw[hto,List.drop_left' rfl]
  refine⟨⟨?_,?_,?_⟩,?_⟩
  . intro p hp
    rcases List.mem_cons.1 hp with rfl|hp
    . exact Jun hq.1 hzp
    . exact il.one p hp
  . rw[Jby,il.long,hul,h1,List.length_append];omega
  . refine⟨?_,?_,?_⟩
    . rw[Jl1 hq.1];exact JfR hq.2
    . rw[htake];exact⟨_,hur,rfl⟩
    . rw[hdrop];exact il.al
  . rw[JdZ,htake,hdrop,ia,Jb1,Jb1]
    congr 1
    unfold Jd9;have hk:=Jsd hq.1 hzp;rw[Jl1 hq.1,JbD hq.2]
    congr 1
    by_cases hkk:0<q.keep
    . rw[if_pos hkk,if_pos (hk.2 hkk)]
    . rw[if_neg hkk,if_neg (λe=>hkk (hk.1 e))];rfl
end
section
variable {w : World}
def sl (w:World) (k:IntKind) (p:Option Addr) (n c:Nat) (zs:List Int):Prop :=
 n=zs.length/\((p=none/\c=0/\zs=[])\/∃b o,p=some (Ad b o)/\zs.length<=c/\c<=maxLen/\b<w.heap.size/\∀i z,zs[i]?=some z->w.cell? (Ad b (o+i))=some (.int k z))
theorem JvY{B e:Nat}{k:IntKind}{v:Value}{zs:List Int}{xs:List Value}(hx:xs=zs.map (Value.int k))(h:w.ownsRow B e 1 v zs.length xs):∃p c,v=.slice p zs.length c/\sl w k p zs.length c zs:=by
 subst hx;obtain⟨h0,hrow⟩:=h
 rcases hrow with ⟨rfl,h2⟩|⟨g,cap,cur,rfl,h2,h3,h4,h5,h6,h7⟩
 . obtain rfl:zs=[]:=List.eq_nil_of_length_eq_zero h2
   exact⟨none,0,rfl,rfl,.inl ⟨rfl,rfl,rfl⟩⟩
 . refine ⟨_,cap,rfl,rfl,.inr ⟨g,0,rfl,h4,h5,(alt h3),λi z hi=>?_⟩⟩
   have hil:i<zs.length:=(llt hi);rw[Nat.mul_one]at h7;have hc:cur[i]?=some (.int k z):=by
    rw[←Array.getElem?_toList];have:=congrArg (·[i]?) h7;simp only[List.getElem?_take,hil,if_true,List.getElem?_map]at this;rw[this,hi];rfl
   rw[Nat.zero_add];show w.cell? (Ad g i)=_;unfold World.cell?;simp[h3,hc]
theorem Jrn(w:World)(row:Option Nat):w.grownBy w row:=⟨rfl,rfl,rfl,nlr _,λ_ _ _=>rfl⟩
theorem Jim{P:Program}(w:World){ops:Array Oper}{rest:List Oper}{o:Oper}{a:Act}{Q:Exit->Act->World->Prop}(hgd:o.guard=none)(s x:Operand)(t:TypeId)
    (ho:o.op=.call { callee:=.builtin .append,args:=#[s,x],argTypes:=#[t,t] })
    (base:Nat) (e:TypeId) (i:TypeInfo) (z:Value) (bytes:Nat) (ht:P.underlying t=some (.slice e)) (hi:P.info? e=some i) (hz:i.zero=some z)
    (hsize:i.size=1) (hby:i.bytes=bytes) (hzs:z.cells.size=1)
    (v:Value) (n:Nat) (xs:List Value) (hs:a.eval s=v) (hown:w.ownsRow base e 1 v n xs)
    (k:IntKind) (p:Option Addr) (m c:Nat) (zs:List Int) (hx:a.eval x=.slice p m c) (hsl:sl w k p m c zs)
    (h63:n+m<=maxLen) (hbytes:(n+m)*bytes<=140737488355328) (hbase:base<=w.heap.size)
    (h:∀v' w',w'.ownsRow base e 1 v' (n+m) (xs++zs.map (Value.int k))->w.grownBy w' v.ownBlock->wpList P ops Q rest (a.put o.dst v') w'):wpList P ops Q (o :: rest) a w:=by
 obtain⟨rfl,hsl⟩:=hsl
 rcases hsl with ⟨rfl,rfl,rfl⟩|⟨b,o',rfl,h2,h3,h4,h5⟩
 . exact wpList_append_own_none hgd s x t ho base e i 1 ht hi v n xs hs hown hx (h v w (by simpa using hown) (Jrn _ _))
 . exact wpList_append_own w hgd s x t ho base e i z 1 bytes ht hi hz hsize hby hzs (by decide) v n xs hs hown (Ad b o') zs.length c (zs.map (Value.int k)) hx (by simp) (λj u hj=>by
     rw[List.getElem?_map]at hj
     cases hz':zs[j]? with
     | none=>rw[hz']at hj;cases hj
     | some z' =>
      rw[hz']at hj;obtain rfl:Value.int k z'=u:=osi hj;rw[Addr.add_lit];exact h5 j z' hz') (λu hu=>by
     obtain⟨y,_,rfl⟩:=List.mem_map.1 hu
     rfl) h63 hbytes hbase λv' w' g1 g2 _=>h v' w' g1 g2
theorem Jsv{p:Option Addr}{n c:Nat}{l:List UInt8}(h:sl w .u8 p n c (l.map λb=>(b.toNat:Int))):(convert 29 9 (.slice p n c)).run prog w=.ok (Sx l) w:=by
 obtain⟨rfl,h⟩:=h;rw[List.length_map]
 rcases h with ⟨rfl,rfl,e⟩|⟨b,o,rfl,h2,h3,h4,h5⟩
 . obtain rfl:l=[]:=List.map_eq_nil_iff.1 e
   kernel_rfl
 . refine run_convert_bytes_back w 29 9 5 (Ad b o) c l underlying29 underlying5 underlying9 λj hj=>?_
   rw[Addr.add_lit];exact h5 j _ (by rw[List.getElem?_map,lgg hj];rfl)
end
end Go.Proofs.YtbkeomcicobohaaGreatDoor
