/-
  A part of the texts that the proof uses.
-/
import Derived.Test.YtedgnlgjmnccgabGreatDoorPartD
import Derived.Test.YtedgnlgjmnccgabGreatDoorPartC
import Derived.Deep.LoopGhost
set_option maxRecDepth 100000
set_option maxHeartbeats 40000000
set_option linter.unusedVariables false
namespace Go.Proofs.YtedgnlgjmnccgabGreatDoor
section
open Go.RowKit
attribute [local go_sem] Oper.semAt_some
theorem Jrj(g:Nat)(v:Value)(p:Pt)(ps:List Pt)(n:Nat)(w:World)(h:winP w g v (p :: ps))(hp:oneP p)(h0:0<n)(hn:(n:Int)<=Jad p)(hb:Jad p<1000000000) :
    Calls Tryz.prog 268 #[v,.int .i64 n] w fun e w'=>∃v',e=.returned (.tuple #[JaO (cutP p n).1,v'])/\winP w' g v' ((cutP p n).2++ps)/\ButO g w w':=by
 by_cases e:Jad p=n
 . have hc:cutP p n=(p,[]):=by unfold cutP;rw[if_pos e]
   rw[hc];exact cut_all g v p ps n w h (by rcases hp with ⟨h1,h2,h3⟩|⟨h1,h2,h3⟩|⟨h1,h2,h3⟩<;>exact⟨by omega,by omega⟩) e (by omega)
 . obtain ⟨K,D,U⟩:=p
   have hl:Jad ⟨K,D,U⟩=K+D+U.length:=rfl;rw[hl]at e hn hb;have he:¬Jad ⟨K,D,U⟩=n:=e
   rcases hp with ⟨h1,h2,h3⟩|⟨h1,h2,h3⟩|⟨h1,h2,h3⟩
   . replace h1:0<K:=h1
     obtain rfl:D=0:=h2;obtain rfl:U=[]:=h3;simp only[List.length_nil,Int.add_zero,Int.natCast_zero]at e hn hb;have hc:cutP ⟨K,0,[]⟩ n=(⟨n,0,[]⟩,[⟨K - n,0,[]⟩]):=by unfold cutP;rw[if_neg he,if_pos h1]
     rw[hc];exact JsE g v K ps n w h h0 (by omega) (by omega)
   . obtain rfl:K=0:=h1
     replace h2:0<D:=h2
     obtain rfl:U=[]:=h3;simp only[List.length_nil,Int.add_zero,Int.zero_add,Int.natCast_zero]at e hn hb;have hc:cutP ⟨0,D,[]⟩ n=(⟨0,n,[]⟩,[⟨0,D - n,[]⟩]):=by unfold cutP;rw[if_neg he,if_neg (by show ¬(0:Int)<0;omega),if_pos h2]
     rw[hc];exact JsF g v D ps n w h h0 (by omega) (by omega)
   . obtain rfl:K=0:=h1
     obtain rfl:D=0:=h2;simp only[Int.zero_add]at e hn hb;have hc:cutP ⟨0,0,U⟩ n=(⟨0,0,U.take n⟩,[⟨0,0,U.drop n⟩]):=by unfold cutP;rw[if_neg he,if_neg (by show ¬(0:Int)<0;omega),if_neg (by show ¬(0:Int)<0;omega)];rfl
     rw[hc];exact cut_put g v U ps n w h h0 (by omega) (by omega)
def addV (a:Nat):Value:=.func (.func 265) #[] #[.pointer (some ⟨a+1,0,none⟩),.pointer (some ⟨a+2,0,none⟩),.pointer (some ⟨a+3,0,none⟩),.pointer (some ⟨a,0,none⟩)]
def Jep (M a:Nat) (s:NSt) (l:List Pt) (w:World) (e:Ending) (w':World):Prop:=(∃v,e=.returned v)/\gath M w' a (l.foldl addP s)/\BelowG M a w w'
theorem JdH{M a:Nat}{s:NSt}{p:Pt}{w wx w':World}{v:Value}(hb:Below w.heap.size w wx)(ha:a<=w.heap.size)(hg:gath M w' a (addP s p))(hb':BelowG M a wx w'):Jep M a s [p] w (.returned v) w' :=
 ⟨⟨v,rfl⟩,hg,(BelowG.of hb ha).trans hb'⟩
theorem JrI(M a β:Nat)(s:NSt)(K D K2 D2:Int)(U U2:List UInt8)(w:World)(HG:Hid (gath M w a s))(hlt:a+3<w.heap.size)(HX:Hid (w.heap[β]?=some (.cells #[addV a] 342 (0,0))))(c1:Hid (∀wx,Calls Tryz.prog 225 #[.agg #[.int .i64 K2,.int .i64 D2,.string ⟨U2.toArray⟩]] wx fun e w'=>e=.returned (.bool true)/\Below wx.heap.size wx w'))(cA:Hid (∀wx,Below w.heap.size w wx->Calls Tryz.prog 265 #[.agg #[.int .i64 (U2.length:Int),.int .i64 0,.string ⟨#[]⟩],.pointer (some ⟨a+1,0,none⟩),.pointer (some ⟨a+2,0,none⟩),.pointer (some ⟨a+3,0,none⟩),.pointer (some ⟨a,0,none⟩)] wx fun e w'=>(∃v,e=.returned v)/\gath M w' a (addP s ⟨(U2.length:Int),0,[]⟩)/\BelowG M a wx w')) :
    Calls Tryz.prog 228 #[.agg #[.int .i64 K,.int .i64 D,.string ⟨U.toArray⟩],.agg #[.int .i64 K2,.int .i64 D2,.string ⟨U2.toArray⟩],.pointer (some ⟨β,0,none⟩)] w (Jep M a s [⟨(U2.length:Int),0,[]⟩] w):=by
 have hz:(ByteArray.mk U2.toArray).size=U2.length:=by simp[ByteArray.size]
 go_enter Tryz.func228,Tryz.ntmps228
 go_wp2_with (first
  | (have _:=HB1;go_at_call 265;refine(cA.out _ HB1.out).mono ?_;rintro e w9 ⟨⟨v9,rfl⟩,hg9,hb9⟩)
  | (go_at_call 225;refine(c1.out _).mono ?_;rintro e w1 ⟨rfl,hb1⟩;obtain⟨b1,b2,b3⟩:=Jbt hb1;have HR1:=hdz b1;have HP1:=hdz b2;have HB1:=hdz b3;have o0:=ce HR1.out 0 rfl;have o1:=ce HR1.out 1 rfl;have o2:=ce HR1.out 2 rfl;have p0:=ce HP1.out 0 rfl;have p1:=ce HP1.out 1 rfl;have p2:=ce HP1.out 2 rfl;have yf:w1.cell? ⟨β,0,none⟩=some (addV a):=chp ((HB1.out.block β (Jav HX.out)).trans HX.out) 0;unfold addV at yf;clear b1 b2 b3 hb1))
 go_end0;exact JdH HB1.out (by omega) hg9 hb9
theorem JrH(M a β:Nat)(s:NSt)(K D K2 D2:Int)(U U2:List UInt8)(w:World)(HG:Hid (gath M w a s))(hlt:a+3<w.heap.size)(HX:Hid (w.heap[β]?=some (.cells #[addV a] 342 (0,0))))(c1:Hid (∀wx,Calls Tryz.prog 225 #[.agg #[.int .i64 K2,.int .i64 D2,.string ⟨U2.toArray⟩]] wx fun e w'=>e=.returned (.bool false)/\Below wx.heap.size wx w'))(c2:Hid (∀wx,Calls Tryz.prog 225 #[.agg #[.int .i64 K,.int .i64 D,.string ⟨U.toArray⟩]] wx fun e w'=>e=.returned (.bool true)/\Below wx.heap.size wx w'))(cA:Hid (∀wx,Below w.heap.size w wx->Calls Tryz.prog 265 #[.agg #[.int .i64 K,.int .i64 D,.string ⟨U.toArray⟩],.pointer (some ⟨a+1,0,none⟩),.pointer (some ⟨a+2,0,none⟩),.pointer (some ⟨a+3,0,none⟩),.pointer (some ⟨a,0,none⟩)] wx fun e w'=>(∃v,e=.returned v)/\gath M w' a (addP s ⟨K,D,U⟩)/\BelowG M a wx w')) :
    Calls Tryz.prog 228 #[.agg #[.int .i64 K,.int .i64 D,.string ⟨U.toArray⟩],.agg #[.int .i64 K2,.int .i64 D2,.string ⟨U2.toArray⟩],.pointer (some ⟨β,0,none⟩)] w (Jep M a s [⟨K,D,U⟩] w):=by
 have hz:(ByteArray.mk U2.toArray).size=U2.length:=by simp[ByteArray.size]
 go_enter Tryz.func228,Tryz.ntmps228
 go_wp2_with (first
  | (have _:=HB2;go_at_call 265;refine(cA.out _ HB2.out).mono ?_;rintro e w9 ⟨⟨v9,rfl⟩,hg9,hb9⟩)
  | (have _:=HB1;go_at_call 225;refine(c2.out _).mono ?_;rintro e w2 ⟨rfl,hb2⟩;have HR2:Hid (w2.heap[w.heap.size]?=some (.cells #[.int .i64 K,.int .i64 D,.string ⟨U.toArray⟩] 50 (0,0))):=(hb2.block _ (Jav HR1.out)).trans HR1.out;have HP2:Hid (w2.heap[w.heap.size+1]?=some (.cells #[.int .i64 K2,.int .i64 D2,.string ⟨U2.toArray⟩] 50 (0,0))):=(hb2.block _ (Jav HP1.out)).trans HP1.out;have HB2:=hdz (HB1.out.trans (hb2.mono HB1.out.size));have o0:=ce HR2.out 0 rfl;have o1:=ce HR2.out 1 rfl;have o2:=ce HR2.out 2 rfl;have p0:=ce HP2.out 0 rfl;have p1:=ce HP2.out 1 rfl;have p2:=ce HP2.out 2 rfl;have yf:w2.cell? ⟨β,0,none⟩=some (addV a):=chp ((HB2.out.block β (Jav HX.out)).trans HX.out) 0;unfold addV at yf;clear hb2)
  | (go_at_call 225;refine(c1.out _).mono ?_;rintro e w1 ⟨rfl,hb1⟩;obtain⟨b1,b2,b3⟩:=Jbt hb1;have HR1:=hdz b1;have HP1:=hdz b2;have HB1:=hdz b3;have o0:=ce HR1.out 0 rfl;have o1:=ce HR1.out 1 rfl;have o2:=ce HR1.out 2 rfl;have p0:=ce HP1.out 0 rfl;have p1:=ce HP1.out 1 rfl;have p2:=ce HP1.out 2 rfl;clear b1 b2 b3 hb1))
 go_end0;exact JdH HB2.out (by omega) hg9 hb9
theorem Joo(M a β:Nat)(s:NSt)(K D K2 D2:Int)(U U2:List UInt8)(w:World)(HG:Hid (gath M w a s))(hlt:a+3<w.heap.size)(HX:Hid (w.heap[β]?=some (.cells #[addV a] 342 (0,0))))(c1:Hid (∀wx,Calls Tryz.prog 225 #[.agg #[.int .i64 K2,.int .i64 D2,.string ⟨U2.toArray⟩]] wx fun e w'=>e=.returned (.bool false)/\Below wx.heap.size wx w'))(c2:Hid (∀wx,Calls Tryz.prog 225 #[.agg #[.int .i64 K,.int .i64 D,.string ⟨U.toArray⟩]] wx fun e w'=>e=.returned (.bool false)/\Below wx.heap.size wx w'))(c3:Hid (∀wx,Calls Tryz.prog 107 #[.agg #[.int .i64 K2,.int .i64 D2,.string ⟨U2.toArray⟩]] wx fun e w'=>e=.returned (.bool true)/\Below wx.heap.size wx w'))(cA:Hid (∀wx,Below w.heap.size w wx->Calls Tryz.prog 265 #[.agg #[.int .i64 K,.int .i64 D,.string ⟨U.toArray⟩],.pointer (some ⟨a+1,0,none⟩),.pointer (some ⟨a+2,0,none⟩),.pointer (some ⟨a+3,0,none⟩),.pointer (some ⟨a,0,none⟩)] wx fun e w'=>(∃v,e=.returned v)/\gath M w' a (addP s ⟨K,D,U⟩)/\BelowG M a wx w')) :
    Calls Tryz.prog 228 #[.agg #[.int .i64 K,.int .i64 D,.string ⟨U.toArray⟩],.agg #[.int .i64 K2,.int .i64 D2,.string ⟨U2.toArray⟩],.pointer (some ⟨β,0,none⟩)] w (Jep M a s [⟨K,D,U⟩] w):=by
 have hz:(ByteArray.mk U2.toArray).size=U2.length:=by simp[ByteArray.size]
 go_enter Tryz.func228,Tryz.ntmps228
 go_wp2_with (first
  | (have _:=HB3;go_at_call 265;refine(cA.out _ HB3.out).mono ?_;rintro e w9 ⟨⟨v9,rfl⟩,hg9,hb9⟩)
  | (have _:=HB2;go_at_call 107;refine(c3.out _).mono ?_;rintro e w3 ⟨rfl,hb3⟩;have HR3:Hid (w3.heap[w.heap.size]?=some (.cells #[.int .i64 K,.int .i64 D,.string ⟨U.toArray⟩] 50 (0,0))):=(hb3.block _ (Jav HR2.out)).trans HR2.out;have HP3:Hid (w3.heap[w.heap.size+1]?=some (.cells #[.int .i64 K2,.int .i64 D2,.string ⟨U2.toArray⟩] 50 (0,0))):=(hb3.block _ (Jav HP2.out)).trans HP2.out;have HB3:=hdz (HB2.out.trans (hb3.mono HB2.out.size));have o0:=ce HR3.out 0 rfl;have o1:=ce HR3.out 1 rfl;have o2:=ce HR3.out 2 rfl;have p0:=ce HP3.out 0 rfl;have p1:=ce HP3.out 1 rfl;have p2:=ce HP3.out 2 rfl;have yf:w3.cell? ⟨β,0,none⟩=some (addV a):=chp ((HB3.out.block β (Jav HX.out)).trans HX.out) 0;unfold addV at yf;clear hb3)
  | (have _:=HB1;go_at_call 225;refine(c2.out _).mono ?_;rintro e w2 ⟨rfl,hb2⟩;have HR2:Hid (w2.heap[w.heap.size]?=some (.cells #[.int .i64 K,.int .i64 D,.string ⟨U.toArray⟩] 50 (0,0))):=(hb2.block _ (Jav HR1.out)).trans HR1.out;have HP2:Hid (w2.heap[w.heap.size+1]?=some (.cells #[.int .i64 K2,.int .i64 D2,.string ⟨U2.toArray⟩] 50 (0,0))):=(hb2.block _ (Jav HP1.out)).trans HP1.out;have HB2:=hdz (HB1.out.trans (hb2.mono HB1.out.size));have o0:=ce HR2.out 0 rfl;have o1:=ce HR2.out 1 rfl;have o2:=ce HR2.out 2 rfl;have p0:=ce HP2.out 0 rfl;have p1:=ce HP2.out 1 rfl;have p2:=ce HP2.out 2 rfl;clear hb2)
  | (go_at_call 225;refine(c1.out _).mono ?_;rintro e w1 ⟨rfl,hb1⟩;obtain⟨b1,b2,b3⟩:=Jbt hb1;have HR1:=hdz b1;have HP1:=hdz b2;have HB1:=hdz b3;have o0:=ce HR1.out 0 rfl;have o1:=ce HR1.out 1 rfl;have o2:=ce HR1.out 2 rfl;have p0:=ce HP1.out 0 rfl;have p1:=ce HP1.out 1 rfl;have p2:=ce HP1.out 2 rfl;clear b1 b2 b3 hb1))
 go_end0;exact JdH HB3.out (by omega) hg9 hb9
theorem JpF(M a β:Nat)(s:NSt)(K D K2 D2:Int)(U U2:List UInt8)(w:World)(HG:Hid (gath M w a s))(hlt:a+3<w.heap.size)(HX:Hid (w.heap[β]?=some (.cells #[addV a] 342 (0,0))))(c1:Hid (∀wx,Calls Tryz.prog 225 #[.agg #[.int .i64 K2,.int .i64 D2,.string ⟨U2.toArray⟩]] wx fun e w'=>e=.returned (.bool false)/\Below wx.heap.size wx w'))(c2:Hid (∀wx,Calls Tryz.prog 225 #[.agg #[.int .i64 K,.int .i64 D,.string ⟨U.toArray⟩]] wx fun e w'=>e=.returned (.bool false)/\Below wx.heap.size wx w'))(c3:Hid (∀wx,Calls Tryz.prog 107 #[.agg #[.int .i64 K2,.int .i64 D2,.string ⟨U2.toArray⟩]] wx fun e w'=>e=.returned (.bool false)/\Below wx.heap.size wx w')) :
    Calls Tryz.prog 228 #[.agg #[.int .i64 K,.int .i64 D,.string ⟨U.toArray⟩],.agg #[.int .i64 K2,.int .i64 D2,.string ⟨U2.toArray⟩],.pointer (some ⟨β,0,none⟩)] w (Jep M a s [] w):=by
 have hz:(ByteArray.mk U2.toArray).size=U2.length:=by simp[ByteArray.size]
 go_enter Tryz.func228,Tryz.ntmps228
 go_wp2_with (first
  | (have _:=HB2;go_at_call 107;refine(c3.out _).mono ?_;rintro e w3 ⟨rfl,hb3⟩;have HR3:Hid (w3.heap[w.heap.size]?=some (.cells #[.int .i64 K,.int .i64 D,.string ⟨U.toArray⟩] 50 (0,0))):=(hb3.block _ (Jav HR2.out)).trans HR2.out;have HP3:Hid (w3.heap[w.heap.size+1]?=some (.cells #[.int .i64 K2,.int .i64 D2,.string ⟨U2.toArray⟩] 50 (0,0))):=(hb3.block _ (Jav HP2.out)).trans HP2.out;have HB3:=hdz (HB2.out.trans (hb3.mono HB2.out.size));have o0:=ce HR3.out 0 rfl;have o1:=ce HR3.out 1 rfl;have o2:=ce HR3.out 2 rfl;have p0:=ce HP3.out 0 rfl;have p1:=ce HP3.out 1 rfl;have p2:=ce HP3.out 2 rfl;clear hb3)
  | (have _:=HB1;go_at_call 225;refine(c2.out _).mono ?_;rintro e w2 ⟨rfl,hb2⟩;have HR2:Hid (w2.heap[w.heap.size]?=some (.cells #[.int .i64 K,.int .i64 D,.string ⟨U.toArray⟩] 50 (0,0))):=(hb2.block _ (Jav HR1.out)).trans HR1.out;have HP2:Hid (w2.heap[w.heap.size+1]?=some (.cells #[.int .i64 K2,.int .i64 D2,.string ⟨U2.toArray⟩] 50 (0,0))):=(hb2.block _ (Jav HP1.out)).trans HP1.out;have HB2:=hdz (HB1.out.trans (hb2.mono HB1.out.size));have o0:=ce HR2.out 0 rfl;have o1:=ce HR2.out 1 rfl;have o2:=ce HR2.out 2 rfl;have p0:=ce HP2.out 0 rfl;have p1:=ce HP2.out 1 rfl;have p2:=ce HP2.out 2 rfl;clear hb2)
  | (go_at_call 225;refine(c1.out _).mono ?_;rintro e w1 ⟨rfl,hb1⟩;obtain⟨b1,b2,b3⟩:=Jbt hb1;have HR1:=hdz b1;have HP1:=hdz b2;have HB1:=hdz b3;have o0:=ce HR1.out 0 rfl;have o1:=ce HR1.out 1 rfl;have o2:=ce HR1.out 2 rfl;have p0:=ce HP1.out 0 rfl;have p1:=ce HP1.out 1 rfl;have p2:=ce HP1.out 2 rfl;clear b1 b2 b3 hb1))
 go_end0;exact⟨⟨_,rfl⟩,Jbx HG.out HB3.out,BelowG.of HB3.out (by omega)⟩
theorem Jrn(M a β:Nat)(s:NSt)(K D K2 D2:Int)(U U2:List UInt8)(w:World)(HG:Hid (gath M w a s))(hlt:a+3<w.heap.size)(HX:Hid (w.heap[β]?=some (.cells #[addV a] 342 (0,0))))(c1:Hid (∀wx,Calls Tryz.prog 211 #[.agg #[.int .i64 K,.int .i64 D,.string ⟨U.toArray⟩]] wx fun e w'=>e=.returned (.bool true)/\Below wx.heap.size wx w'))(cA:Hid (∀wx,Below w.heap.size w wx->Calls Tryz.prog 265 #[.agg #[.int .i64 K,.int .i64 D,.string ⟨U.toArray⟩],.pointer (some ⟨a+1,0,none⟩),.pointer (some ⟨a+2,0,none⟩),.pointer (some ⟨a+3,0,none⟩),.pointer (some ⟨a,0,none⟩)] wx fun e w'=>(∃v,e=.returned v)/\gath M w' a (addP s ⟨K,D,U⟩)/\BelowG M a wx w')) :
    Calls Tryz.prog 226 #[.agg #[.int .i64 K,.int .i64 D,.string ⟨U.toArray⟩],.agg #[.int .i64 K2,.int .i64 D2,.string ⟨U2.toArray⟩],.pointer (some ⟨β,0,none⟩)] w (Jep M a s [⟨K,D,U⟩] w):=by
 have hz:(ByteArray.mk U2.toArray).size=U2.length:=by simp[ByteArray.size]
 go_enter Tryz.func226,Tryz.ntmps226
 go_wp2_with (first
  | (have _:=HB1;go_at_call 265;refine(cA.out _ HB1.out).mono ?_;rintro e w9 ⟨⟨v9,rfl⟩,hg9,hb9⟩)
  | (go_at_call 211;refine(c1.out _).mono ?_;rintro e w1 ⟨rfl,hb1⟩;obtain⟨b1,b2,b3⟩:=Jbt hb1;have HR1:=hdz b1;have HP1:=hdz b2;have HB1:=hdz b3;have o0:=ce HR1.out 0 rfl;have o1:=ce HR1.out 1 rfl;have o2:=ce HR1.out 2 rfl;have p0:=ce HP1.out 0 rfl;have p1:=ce HP1.out 1 rfl;have p2:=ce HP1.out 2 rfl;have yf:w1.cell? ⟨β,0,none⟩=some (addV a):=chp ((HB1.out.block β (Jav HX.out)).trans HX.out) 0;unfold addV at yf;clear b1 b2 b3 hb1))
 go_end0;exact JdH HB1.out (by omega) hg9 hb9
theorem Jrm(M a β:Nat)(s:NSt)(K D K2 D2:Int)(U U2:List UInt8)(w:World)(HG:Hid (gath M w a s))(hlt:a+3<w.heap.size)(HX:Hid (w.heap[β]?=some (.cells #[addV a] 342 (0,0))))(c1:Hid (∀wx,Calls Tryz.prog 211 #[.agg #[.int .i64 K,.int .i64 D,.string ⟨U.toArray⟩]] wx fun e w'=>e=.returned (.bool false)/\Below wx.heap.size wx w'))(c2:Hid (∀wx,Calls Tryz.prog 107 #[.agg #[.int .i64 K2,.int .i64 D2,.string ⟨U2.toArray⟩]] wx fun e w'=>e=.returned (.bool true)/\Below wx.heap.size wx w'))(cA:Hid (∀wx,Below w.heap.size w wx->Calls Tryz.prog 265 #[.agg #[.int .i64 K,.int .i64 D,.string ⟨U.toArray⟩],.pointer (some ⟨a+1,0,none⟩),.pointer (some ⟨a+2,0,none⟩),.pointer (some ⟨a+3,0,none⟩),.pointer (some ⟨a,0,none⟩)] wx fun e w'=>(∃v,e=.returned v)/\gath M w' a (addP s ⟨K,D,U⟩)/\BelowG M a wx w')) :
    Calls Tryz.prog 226 #[.agg #[.int .i64 K,.int .i64 D,.string ⟨U.toArray⟩],.agg #[.int .i64 K2,.int .i64 D2,.string ⟨U2.toArray⟩],.pointer (some ⟨β,0,none⟩)] w (Jep M a s [⟨K,D,U⟩] w):=by
 have hz:(ByteArray.mk U2.toArray).size=U2.length:=by simp[ByteArray.size]
 go_enter Tryz.func226,Tryz.ntmps226
 go_wp2_with (first
  | (have _:=HB2;go_at_call 265;refine(cA.out _ HB2.out).mono ?_;rintro e w9 ⟨⟨v9,rfl⟩,hg9,hb9⟩)
  | (have _:=HB1;go_at_call 107;refine(c2.out _).mono ?_;rintro e w2 ⟨rfl,hb2⟩;have HR2:Hid (w2.heap[w.heap.size]?=some (.cells #[.int .i64 K,.int .i64 D,.string ⟨U.toArray⟩] 50 (0,0))):=(hb2.block _ (Jav HR1.out)).trans HR1.out;have HP2:Hid (w2.heap[w.heap.size+1]?=some (.cells #[.int .i64 K2,.int .i64 D2,.string ⟨U2.toArray⟩] 50 (0,0))):=(hb2.block _ (Jav HP1.out)).trans HP1.out;have HB2:=hdz (HB1.out.trans (hb2.mono HB1.out.size));have o0:=ce HR2.out 0 rfl;have o1:=ce HR2.out 1 rfl;have o2:=ce HR2.out 2 rfl;have p0:=ce HP2.out 0 rfl;have p1:=ce HP2.out 1 rfl;have p2:=ce HP2.out 2 rfl;have yf:w2.cell? ⟨β,0,none⟩=some (addV a):=chp ((HB2.out.block β (Jav HX.out)).trans HX.out) 0;unfold addV at yf;clear hb2)
  | (go_at_call 211;refine(c1.out _).mono ?_;rintro e w1 ⟨rfl,hb1⟩;obtain⟨b1,b2,b3⟩:=Jbt hb1;have HR1:=hdz b1;have HP1:=hdz b2;have HB1:=hdz b3;have o0:=ce HR1.out 0 rfl;have o1:=ce HR1.out 1 rfl;have o2:=ce HR1.out 2 rfl;have p0:=ce HP1.out 0 rfl;have p1:=ce HP1.out 1 rfl;have p2:=ce HP1.out 2 rfl;clear b1 b2 b3 hb1))
 go_end0;exact JdH HB2.out (by omega) hg9 hb9
theorem JsH(M a β:Nat)(s:NSt)(K D K2 D2:Int)(U U2:List UInt8)(w:World)(HG:Hid (gath M w a s))(hlt:a+3<w.heap.size)(HX:Hid (w.heap[β]?=some (.cells #[addV a] 342 (0,0))))(c1:Hid (∀wx,Calls Tryz.prog 211 #[.agg #[.int .i64 K,.int .i64 D,.string ⟨U.toArray⟩]] wx fun e w'=>e=.returned (.bool false)/\Below wx.heap.size wx w'))(c2:Hid (∀wx,Calls Tryz.prog 107 #[.agg #[.int .i64 K2,.int .i64 D2,.string ⟨U2.toArray⟩]] wx fun e w'=>e=.returned (.bool false)/\Below wx.heap.size wx w'))(c3:Hid (∀wx,Calls Tryz.prog 225 #[.agg #[.int .i64 K2,.int .i64 D2,.string ⟨U2.toArray⟩]] wx fun e w'=>e=.returned (.bool true)/\Below wx.heap.size wx w'))(cA:Hid (∀wx,Below w.heap.size w wx->Calls Tryz.prog 265 #[.agg #[.int .i64 K2,.int .i64 D2,.string ⟨U2.toArray⟩],.pointer (some ⟨a+1,0,none⟩),.pointer (some ⟨a+2,0,none⟩),.pointer (some ⟨a+3,0,none⟩),.pointer (some ⟨a,0,none⟩)] wx fun e w'=>(∃v,e=.returned v)/\gath M w' a (addP s ⟨K2,D2,U2⟩)/\BelowG M a wx w')) :
    Calls Tryz.prog 226 #[.agg #[.int .i64 K,.int .i64 D,.string ⟨U.toArray⟩],.agg #[.int .i64 K2,.int .i64 D2,.string ⟨U2.toArray⟩],.pointer (some ⟨β,0,none⟩)] w (Jep M a s [⟨K2,D2,U2⟩] w):=by
 have hz:(ByteArray.mk U2.toArray).size=U2.length:=by simp[ByteArray.size]
 go_enter Tryz.func226,Tryz.ntmps226
 go_wp2_with (first
  | (have _:=HB3;go_at_call 265;refine(cA.out _ HB3.out).mono ?_;rintro e w9 ⟨⟨v9,rfl⟩,hg9,hb9⟩)
  | (have _:=HB2;go_at_call 225;refine(c3.out _).mono ?_;rintro e w3 ⟨rfl,hb3⟩;have HR3:Hid (w3.heap[w.heap.size]?=some (.cells #[.int .i64 K,.int .i64 D,.string ⟨U.toArray⟩] 50 (0,0))):=(hb3.block _ (Jav HR2.out)).trans HR2.out;have HP3:Hid (w3.heap[w.heap.size+1]?=some (.cells #[.int .i64 K2,.int .i64 D2,.string ⟨U2.toArray⟩] 50 (0,0))):=(hb3.block _ (Jav HP2.out)).trans HP2.out;have HB3:=hdz (HB2.out.trans (hb3.mono HB2.out.size));have o0:=ce HR3.out 0 rfl;have o1:=ce HR3.out 1 rfl;have o2:=ce HR3.out 2 rfl;have p0:=ce HP3.out 0 rfl;have p1:=ce HP3.out 1 rfl;have p2:=ce HP3.out 2 rfl;have yf:w3.cell? ⟨β,0,none⟩=some (addV a):=chp ((HB3.out.block β (Jav HX.out)).trans HX.out) 0;unfold addV at yf;clear hb3)
  | (have _:=HB1;go_at_call 107;refine(c2.out _).mono ?_;rintro e w2 ⟨rfl,hb2⟩;have HR2:Hid (w2.heap[w.heap.size]?=some (.cells #[.int .i64 K,.int .i64 D,.string ⟨U.toArray⟩] 50 (0,0))):=(hb2.block _ (Jav HR1.out)).trans HR1.out;have HP2:Hid (w2.heap[w.heap.size+1]?=some (.cells #[.int .i64 K2,.int .i64 D2,.string ⟨U2.toArray⟩] 50 (0,0))):=(hb2.block _ (Jav HP1.out)).trans HP1.out;have HB2:=hdz (HB1.out.trans (hb2.mono HB1.out.size));have o0:=ce HR2.out 0 rfl;have o1:=ce HR2.out 1 rfl;have o2:=ce HR2.out 2 rfl;have p0:=ce HP2.out 0 rfl;have p1:=ce HP2.out 1 rfl;have p2:=ce HP2.out 2 rfl;clear hb2)
  | (go_at_call 211;refine(c1.out _).mono ?_;rintro e w1 ⟨rfl,hb1⟩;obtain⟨b1,b2,b3⟩:=Jbt hb1;have HR1:=hdz b1;have HP1:=hdz b2;have HB1:=hdz b3;have o0:=ce HR1.out 0 rfl;have o1:=ce HR1.out 1 rfl;have o2:=ce HR1.out 2 rfl;have p0:=ce HP1.out 0 rfl;have p1:=ce HP1.out 1 rfl;have p2:=ce HP1.out 2 rfl;clear b1 b2 b3 hb1))
 go_end0;exact JdH HB3.out (by omega) hg9 hb9
theorem JsG(M a β:Nat)(s:NSt)(K D K2 D2:Int)(U U2:List UInt8)(w:World)(HG:Hid (gath M w a s))(hlt:a+3<w.heap.size)(HX:Hid (w.heap[β]?=some (.cells #[addV a] 342 (0,0))))(c1:Hid (∀wx,Calls Tryz.prog 211 #[.agg #[.int .i64 K,.int .i64 D,.string ⟨U.toArray⟩]] wx fun e w'=>e=.returned (.bool false)/\Below wx.heap.size wx w'))(c2:Hid (∀wx,Calls Tryz.prog 107 #[.agg #[.int .i64 K2,.int .i64 D2,.string ⟨U2.toArray⟩]] wx fun e w'=>e=.returned (.bool false)/\Below wx.heap.size wx w'))(c3:Hid (∀wx,Calls Tryz.prog 225 #[.agg #[.int .i64 K2,.int .i64 D2,.string ⟨U2.toArray⟩]] wx fun e w'=>e=.returned (.bool false)/\Below wx.heap.size wx w'))(c4:Hid (∀wx,Calls Tryz.prog 107 #[.agg #[.int .i64 K,.int .i64 D,.string ⟨U.toArray⟩]] wx fun e w'=>e=.returned (.bool true)/\Below wx.heap.size wx w'))(cA:Hid (∀wx,Below w.heap.size w wx->Calls Tryz.prog 265 #[.agg #[.int .i64 K2,.int .i64 D2,.string ⟨U2.toArray⟩],.pointer (some ⟨a+1,0,none⟩),.pointer (some ⟨a+2,0,none⟩),.pointer (some ⟨a+3,0,none⟩),.pointer (some ⟨a,0,none⟩)] wx fun e w'=>(∃v,e=.returned v)/\gath M w' a (addP s ⟨K2,D2,U2⟩)/\BelowG M a wx w')) :
    Calls Tryz.prog 226 #[.agg #[.int .i64 K,.int .i64 D,.string ⟨U.toArray⟩],.agg #[.int .i64 K2,.int .i64 D2,.string ⟨U2.toArray⟩],.pointer (some ⟨β,0,none⟩)] w (Jep M a s [⟨K2,D2,U2⟩] w):=by
 have hz:(ByteArray.mk U2.toArray).size=U2.length:=by simp[ByteArray.size]
 go_enter Tryz.func226,Tryz.ntmps226
 go_wp2_with (first
  | (have _:=HB4;go_at_call 265;refine(cA.out _ HB4.out).mono ?_;rintro e w9 ⟨⟨v9,rfl⟩,hg9,hb9⟩)
  | (have _:=HB3;go_at_call 107;refine(c4.out _).mono ?_;rintro e w4 ⟨rfl,hb4⟩;have HR4:Hid (w4.heap[w.heap.size]?=some (.cells #[.int .i64 K,.int .i64 D,.string ⟨U.toArray⟩] 50 (0,0))):=(hb4.block _ (Jav HR3.out)).trans HR3.out;have HP4:Hid (w4.heap[w.heap.size+1]?=some (.cells #[.int .i64 K2,.int .i64 D2,.string ⟨U2.toArray⟩] 50 (0,0))):=(hb4.block _ (Jav HP3.out)).trans HP3.out;have HB4:=hdz (HB3.out.trans (hb4.mono HB3.out.size));have o0:=ce HR4.out 0 rfl;have o1:=ce HR4.out 1 rfl;have o2:=ce HR4.out 2 rfl;have p0:=ce HP4.out 0 rfl;have p1:=ce HP4.out 1 rfl;have p2:=ce HP4.out 2 rfl;have yf:w4.cell? ⟨β,0,none⟩=some (addV a):=chp ((HB4.out.block β (Jav HX.out)).trans HX.out) 0;unfold addV at yf;clear hb4)
  | (have _:=HB2;go_at_call 225;refine(c3.out _).mono ?_;rintro e w3 ⟨rfl,hb3⟩;have HR3:Hid (w3.heap[w.heap.size]?=some (.cells #[.int .i64 K,.int .i64 D,.string ⟨U.toArray⟩] 50 (0,0))):=(hb3.block _ (Jav HR2.out)).trans HR2.out;have HP3:Hid (w3.heap[w.heap.size+1]?=some (.cells #[.int .i64 K2,.int .i64 D2,.string ⟨U2.toArray⟩] 50 (0,0))):=(hb3.block _ (Jav HP2.out)).trans HP2.out;have HB3:=hdz (HB2.out.trans (hb3.mono HB2.out.size));have o0:=ce HR3.out 0 rfl;have o1:=ce HR3.out 1 rfl;have o2:=ce HR3.out 2 rfl;have p0:=ce HP3.out 0 rfl;have p1:=ce HP3.out 1 rfl;have p2:=ce HP3.out 2 rfl;clear hb3)
  | (have _:=HB1;go_at_call 107;refine(c2.out _).mono ?_;rintro e w2 ⟨rfl,hb2⟩;have HR2:Hid (w2.heap[w.heap.size]?=some (.cells #[.int .i64 K,.int .i64 D,.string ⟨U.toArray⟩] 50 (0,0))):=(hb2.block _ (Jav HR1.out)).trans HR1.out;have HP2:Hid (w2.heap[w.heap.size+1]?=some (.cells #[.int .i64 K2,.int .i64 D2,.string ⟨U2.toArray⟩] 50 (0,0))):=(hb2.block _ (Jav HP1.out)).trans HP1.out;have HB2:=hdz (HB1.out.trans (hb2.mono HB1.out.size));have o0:=ce HR2.out 0 rfl;have o1:=ce HR2.out 1 rfl;have o2:=ce HR2.out 2 rfl;have p0:=ce HP2.out 0 rfl;have p1:=ce HP2.out 1 rfl;have p2:=ce HP2.out 2 rfl;clear hb2)
  | (go_at_call 211;refine(c1.out _).mono ?_;rintro e w1 ⟨rfl,hb1⟩;obtain⟨b1,b2,b3⟩:=Jbt hb1;have HR1:=hdz b1;have HP1:=hdz b2;have HB1:=hdz b3;have o0:=ce HR1.out 0 rfl;have o1:=ce HR1.out 1 rfl;have o2:=ce HR1.out 2 rfl;have p0:=ce HP1.out 0 rfl;have p1:=ce HP1.out 1 rfl;have p2:=ce HP1.out 2 rfl;clear b1 b2 b3 hb1))
 go_end0;exact JdH HB4.out (by omega) hg9 hb9
theorem Jrl(M a β:Nat)(s:NSt)(K D K2 D2:Int)(U U2:List UInt8)(w:World)(HG:Hid (gath M w a s))(hlt:a+3<w.heap.size)(HX:Hid (w.heap[β]?=some (.cells #[addV a] 342 (0,0))))(c1:Hid (∀wx,Calls Tryz.prog 211 #[.agg #[.int .i64 K,.int .i64 D,.string ⟨U.toArray⟩]] wx fun e w'=>e=.returned (.bool false)/\Below wx.heap.size wx w'))(c2:Hid (∀wx,Calls Tryz.prog 107 #[.agg #[.int .i64 K2,.int .i64 D2,.string ⟨U2.toArray⟩]] wx fun e w'=>e=.returned (.bool false)/\Below wx.heap.size wx w'))(c3:Hid (∀wx,Calls Tryz.prog 225 #[.agg #[.int .i64 K2,.int .i64 D2,.string ⟨U2.toArray⟩]] wx fun e w'=>e=.returned (.bool false)/\Below wx.heap.size wx w'))(c4:Hid (∀wx,Calls Tryz.prog 107 #[.agg #[.int .i64 K,.int .i64 D,.string ⟨U.toArray⟩]] wx fun e w'=>e=.returned (.bool false)/\Below wx.heap.size wx w')) :
    Calls Tryz.prog 226 #[.agg #[.int .i64 K,.int .i64 D,.string ⟨U.toArray⟩],.agg #[.int .i64 K2,.int .i64 D2,.string ⟨U2.toArray⟩],.pointer (some ⟨β,0,none⟩)] w (Jep M a s [] w):=by
 have hz:(ByteArray.mk U2.toArray).size=U2.length:=by simp[ByteArray.size]
 go_enter Tryz.func226,Tryz.ntmps226
 go_wp2_with (first
  | (have _:=HB3;go_at_call 107;refine(c4.out _).mono ?_;rintro e w4 ⟨rfl,hb4⟩;have HR4:Hid (w4.heap[w.heap.size]?=some (.cells #[.int .i64 K,.int .i64 D,.string ⟨U.toArray⟩] 50 (0,0))):=(hb4.block _ (Jav HR3.out)).trans HR3.out;have HP4:Hid (w4.heap[w.heap.size+1]?=some (.cells #[.int .i64 K2,.int .i64 D2,.string ⟨U2.toArray⟩] 50 (0,0))):=(hb4.block _ (Jav HP3.out)).trans HP3.out;have HB4:=hdz (HB3.out.trans (hb4.mono HB3.out.size));have o0:=ce HR4.out 0 rfl;have o1:=ce HR4.out 1 rfl;have o2:=ce HR4.out 2 rfl;have p0:=ce HP4.out 0 rfl;have p1:=ce HP4.out 1 rfl;have p2:=ce HP4.out 2 rfl;clear hb4)
  | (have _:=HB2;go_at_call 225;refine(c3.out _).mono ?_;rintro e w3 ⟨rfl,hb3⟩;have HR3:Hid (w3.heap[w.heap.size]?=some (.cells #[.int .i64 K,.int .i64 D,.string ⟨U.toArray⟩] 50 (0,0))):=(hb3.block _ (Jav HR2.out)).trans HR2.out;have HP3:Hid (w3.heap[w.heap.size+1]?=some (.cells #[.int .i64 K2,.int .i64 D2,.string ⟨U2.toArray⟩] 50 (0,0))):=(hb3.block _ (Jav HP2.out)).trans HP2.out;have HB3:=hdz (HB2.out.trans (hb3.mono HB2.out.size));have o0:=ce HR3.out 0 rfl;have o1:=ce HR3.out 1 rfl;have o2:=ce HR3.out 2 rfl;have p0:=ce HP3.out 0 rfl;have p1:=ce HP3.out 1 rfl;have p2:=ce HP3.out 2 rfl;clear hb3)
  | (have _:=HB1;go_at_call 107;refine(c2.out _).mono ?_;rintro e w2 ⟨rfl,hb2⟩;have HR2:Hid (w2.heap[w.heap.size]?=some (.cells #[.int .i64 K,.int .i64 D,.string ⟨U.toArray⟩] 50 (0,0))):=(hb2.block _ (Jav HR1.out)).trans HR1.out;have HP2:Hid (w2.heap[w.heap.size+1]?=some (.cells #[.int .i64 K2,.int .i64 D2,.string ⟨U2.toArray⟩] 50 (0,0))):=(hb2.block _ (Jav HP1.out)).trans HP1.out;have HB2:=hdz (HB1.out.trans (hb2.mono HB1.out.size));have o0:=ce HR2.out 0 rfl;have o1:=ce HR2.out 1 rfl;have o2:=ce HR2.out 2 rfl;have p0:=ce HP2.out 0 rfl;have p1:=ce HP2.out 1 rfl;have p2:=ce HP2.out 2 rfl;clear hb2)
  | (go_at_call 211;refine(c1.out _).mono ?_;rintro e w1 ⟨rfl,hb1⟩;obtain⟨b1,b2,b3⟩:=Jbt hb1;have HR1:=hdz b1;have HP1:=hdz b2;have HB1:=hdz b3;have o0:=ce HR1.out 0 rfl;have o1:=ce HR1.out 1 rfl;have o2:=ce HR1.out 2 rfl;have p0:=ce HP1.out 0 rfl;have p1:=ce HP1.out 1 rfl;have p2:=ce HP1.out 2 rfl;clear b1 b2 b3 hb1))
 go_end0;exact⟨⟨_,rfl⟩,Jbx HG.out HB4.out,BelowG.of HB4.out (by omega)⟩
theorem JkG(M a:Nat)(s:NSt)(l:List Pt)(w:World)(hg:gath M w a s){T:Int}{n:Nat}(hB:Bd s T n)(hS:∀p∈l,Jbc p)(hT:T+wts l<1000000000)(hn:n<10000000)(p:Pt)(hp:p∈l)(wx:World)(hb:Below w.heap.size w wx) :
    Calls Tryz.prog 265 #[JaO p,.pointer (some ⟨a+1,0,none⟩),.pointer (some ⟨a+2,0,none⟩),.pointer (some ⟨a+3,0,none⟩),.pointer (some ⟨a,0,none⟩)] wx fun e w'=>(∃v,e=.returned v)/\gath M w' a (addP s p)/\BelowG M a wx w':=by
 refine add_bd a s p wx (Jbx hg hb) hB (hS p hp) ?_ hn;have h1:wtP p<=wts l:=by
  obtain⟨l1,l2,rfl⟩:=List.append_of_mem hp;have h2:=Jfi (ps:=l1) fun q hq=>hS q (by simp[hq]);have h3:=Jfi (ps:=l2) fun q hq=>hS q (by simp[hq]);unfold wts at h2 h3 ⊢;simp only[List.map_append,List.sum_append,List.map_cons,List.sum_cons];omega
 omega
theorem JkE(M a β:Nat)(s:NSt)(one other:Pt)(w:World)(hg:gath M w a s)(hx:w.heap[β]?=some (.cells #[addV a] 342 (0,0))){T:Int}{n:Nat}(hB:Bd s T n)(hS:∀p∈JbH (one,other),Jbc p)(hT:T+wts (JbH (one,other))<1000000000)(hn:n<10000000) :
    Calls Tryz.prog 228 #[JaO one,JaO other,.pointer (some ⟨β,0,none⟩)] w (Jep M a s (JbH (one,other)) w):=by
 have cA:=JkG M a s _ w hg hB hS hT hn;have cO:=Jdg other;have cP:=Jdg one;have cK:=Jch other;have hlt:=Jb7 hg;obtain⟨K,D,U⟩:=one;obtain⟨K2,D2,U2⟩:=other
 by_cases h1:U2≠[]
 . have ht:JbH (⟨K,D,U⟩,⟨K2,D2,U2⟩)=[⟨U2.length,0,[]⟩]:=by unfold JbH;rw[if_pos (by simp[Jaf,h1])]
   rw[show decide ((⟨K2,D2,U2⟩:Pt).put≠[])=true from decide_eq_true h1]at cO;rw[ht]at cA ⊢;exact JrI M a β s K D K2 D2 U U2 w hg hlt hx cO (cA _ (List.mem_singleton.2 rfl))
 . rw [show decide ((⟨K2,D2,U2⟩:Pt).put≠[])=false from decide_eq_false h1]at cO
   by_cases h2:U≠[]
   . have ht:JbH (⟨K,D,U⟩,⟨K2,D2,U2⟩)=[⟨K,D,U⟩]:=by unfold JbH;rw[if_neg (by simpa[Jaf] using h1),if_pos (by simp[Jaf,h2])]
     rw[show decide ((⟨K,D,U⟩:Pt).put≠[])=true from decide_eq_true h2]at cP;rw[ht]at cA ⊢;exact JrH M a β s K D K2 D2 U U2 w hg hlt hx cO cP (cA _ (List.mem_singleton.2 rfl))
   . rw [show decide ((⟨K,D,U⟩:Pt).put≠[])=false from decide_eq_false h2]at cP
     by_cases h3:0<K2
     . have ht:JbH (⟨K,D,U⟩,⟨K2,D2,U2⟩)=[⟨K,D,U⟩]:=by unfold JbH;rw[if_neg (by simpa[Jaf] using h1),if_pos (by simp[Jb0,h3])]
       rw[show decide (0<(⟨K2,D2,U2⟩:Pt).keep)=true from decide_eq_true h3]at cK;rw[ht]at cA ⊢;exact Joo M a β s K D K2 D2 U U2 w hg hlt hx cO cP cK (cA _ (List.mem_singleton.2 rfl))
     . have ht:JbH (⟨K,D,U⟩,⟨K2,D2,U2⟩)=[]:=by
         unfold JbH;rw[if_neg (by simpa[Jaf] using h1),if_neg];simp only[Jaf,Jb0,Bool.or_eq_true,decide_eq_true_eq,not_or];exact⟨h2,h3⟩
       rw[show decide (0<(⟨K2,D2,U2⟩:Pt).keep)=false from decide_eq_false h3]at cK;rw[ht];exact JpF M a β s K D K2 D2 U U2 w hg hlt hx cO cP cK
theorem JsK(M a β:Nat)(s:NSt)(one two:Pt)(w:World)(hg:gath M w a s)(hx:w.heap[β]?=some (.cells #[addV a] 342 (0,0))){T:Int}{n:Nat}(hB:Bd s T n)(hS:∀p∈Jbv (one,two),Jbc p)(hT:T+wts (Jbv (one,two))<1000000000)(hn:n<10000000) :
    Calls Tryz.prog 226 #[JaO one,JaO two,.pointer (some ⟨β,0,none⟩)] w (Jep M a s (Jbv (one,two)) w):=by
 have cA:=JkG M a s _ w hg hB hS hT hn;have c1:=Jd7 one;have c2:=Jch two;have c3:=Jdg two;have c4:=Jch one;have hlt:=Jb7 hg;obtain⟨K,D,U⟩:=one;obtain⟨K2,D2,U2⟩:=two
 by_cases h1:0<D
 . have ht:Jbv (⟨K,D,U⟩,⟨K2,D2,U2⟩)=[⟨K,D,U⟩]:=by unfold Jbv;rw[if_pos (by simp[Ja8,h1])]
   rw[show decide (0<(⟨K,D,U⟩:Pt).drop)=true from decide_eq_true h1]at c1;rw[ht]at cA ⊢;exact Jrn M a β s K D K2 D2 U U2 w hg hlt hx c1 (cA _ (List.mem_singleton.2 rfl))
 . rw [show decide (0<(⟨K,D,U⟩:Pt).drop)=false from decide_eq_false h1]at c1
   by_cases h2:0<K2
   . have ht:Jbv (⟨K,D,U⟩,⟨K2,D2,U2⟩)=[⟨K,D,U⟩]:=by unfold Jbv;rw[if_pos (by simp[Jb0,h2])]
     rw[show decide (0<(⟨K2,D2,U2⟩:Pt).keep)=true from decide_eq_true h2]at c2;rw[ht]at cA ⊢;exact Jrm M a β s K D K2 D2 U U2 w hg hlt hx c1 c2 (cA _ (List.mem_singleton.2 rfl))
   . rw [show decide (0<(⟨K2,D2,U2⟩:Pt).keep)=false from decide_eq_false h2]at c2
     have hf:¬((Ja8 (⟨K,D,U⟩:Pt) || Jb0 (⟨K2,D2,U2⟩:Pt))=true):=by
      simp only[Ja8,Jb0,Bool.or_eq_true,decide_eq_true_eq,not_or];exact⟨h1,h2⟩
     by_cases h3:U2≠[]
     . have ht:Jbv (⟨K,D,U⟩,⟨K2,D2,U2⟩)=[⟨K2,D2,U2⟩]:=by unfold Jbv;rw[if_neg hf,if_pos (by simp[Jaf,h3])]
       rw[show decide ((⟨K2,D2,U2⟩:Pt).put≠[])=true from decide_eq_true h3]at c3;rw[ht]at cA ⊢;exact JsH M a β s K D K2 D2 U U2 w hg hlt hx c1 c2 c3 (cA _ (List.mem_singleton.2 rfl))
     . rw [show decide ((⟨K2,D2,U2⟩:Pt).put≠[])=false from decide_eq_false h3]at c3
       by_cases h4:0<K
       . have ht:Jbv (⟨K,D,U⟩,⟨K2,D2,U2⟩)=[⟨K2,D2,U2⟩]:=by unfold Jbv;rw[if_neg hf,if_pos (by simp[Jb0,h4])]
         rw[show decide (0<(⟨K,D,U⟩:Pt).keep)=true from decide_eq_true h4]at c4;rw[ht]at cA ⊢;exact JsG M a β s K D K2 D2 U U2 w hg hlt hx c1 c2 c3 c4 (cA _ (List.mem_singleton.2 rfl))
       . have ht:Jbv (⟨K,D,U⟩,⟨K2,D2,U2⟩)=[]:=by
           unfold Jbv;rw[if_neg hf,if_neg];simp only[Jaf,Jb0,Bool.or_eq_true,decide_eq_true_eq,not_or];exact⟨h3,h4⟩
         rw[show decide (0<(⟨K,D,U⟩:Pt).keep)=false from decide_eq_false h4]at c4;rw[ht];exact Jrl M a β s K D K2 D2 U U2 w hg hlt hx c1 c2 c3 c4
variable {M a g1 g2 g n : Nat}{bx : List (Nat × Obj)}{w W W' w' : World}{v1 v2 : Value}{A B : List Pt}{s : NSt}{T : Int}{t : Pt × Pt → List Pt}{x : Pt × Pt}{l : List (Pt × Pt)}
theorem JpH(M a β β2:Nat)(s:NSt)(other one:Pt)(w:World)(hg:gath M w a s)(hx:w.heap[β]?=some (.cells #[addV a] 342 (0,0)))(hx2:w.heap[β2]?=some (.cells #[.func (.func 228) #[] #[.pointer (some ⟨β,0,none⟩)]] 347 (0,0))){T:Int}{n:Nat}(hB:Bd s T n)(hS:∀p∈JbH (one,other),Jbc p)(hT:T+wts (JbH (one,other))<1000000000)(hn:n<10000000) :
    Calls Tryz.prog 229 #[JaO other,JaO one,.pointer (some ⟨β2,0,none⟩)] w (Jep M a s (JbH (one,other)) w):=by
 have hlt:=Jb7 hg;have hlt2:=Jav hx2;have cT:Hid (∀wx,Below w.heap.size w wx->Calls Tryz.prog 228 #[JaO one,JaO other,.pointer (some ⟨β,0,none⟩)] wx (Jep M a s (JbH (one,other)) wx)):=fun wx hb =>
  JkE M a β s one other wx (Jbx hg hb) ((hb.block β (Jav hx)).trans hx) hB hS hT hn
 obtain⟨K,D,U⟩:=one;obtain⟨K2,D2,U2⟩:=other;have y2:=ce hx2 0 rfl;generalize JbH (⟨K,D,U⟩,⟨K2,D2,U2⟩)=L at *;unfold JaO at cT ⊢;clear hg hx hx2 hB hS hT
 go_enter Tryz.func229,Tryz.ntmps229
 have hW:Below w.heap.size w ((w.alloc (.cells #[.int .i64 K2,.int .i64 D2,.string ⟨U2.toArray⟩] 50)).alloc (.cells #[.int .i64 K,.int .i64 D,.string ⟨U.toArray⟩] 50)):=((brf _ w).alloc (nlr _) _).alloc (by rw[wsa];omega) _;have HW:=hdz hW;clear hW
 go_wp2_with (go_at_call 228;refine(cT.out _ HW.out).mono ?_;rintro e w1 ⟨⟨v1,rfl⟩,hg1,hb1⟩)
 go_end0;exact⟨⟨_,rfl⟩,hg1,(BelowG.of HW.out (by omega)).trans hb1⟩
inductive Side (la lb:Pt->Bool):List Pt->List Pt->List (Pt×Pt)->Prop
 | nil:Side la lb [] [] []
 | left {p:Pt} {a b:List Pt} {l:List (Pt×Pt)}:la p=true->Side la lb a b l->Side la lb (p :: a) b ((p,noP) :: l)
 | last {q:Pt} {b:List Pt} {l:List (Pt×Pt)}:lb q=true->Side la lb [] b l->Side la lb [] (q :: b) ((noP,q) :: l)
 | right {p q:Pt} {a b:List Pt} {l:List (Pt×Pt)}:la p=false->lb q=true->Side la lb (p :: a) b l->Side la lb (p :: a) (q :: b) ((noP,q) :: l)
 | both {p q:Pt} {a b:List Pt} {l:List (Pt×Pt)} (n:Nat):la p=false->lb q=false->oneP p->oneP q->0<n->min (Jad p) (Jad q)=n->Jad p<1000000000->Jad q<1000000000 ->
     Side la lb ((cutP p n).2++a) ((cutP q n).2++b) l->Side la lb (p :: a) (q :: b) (((cutP p n).1,(cutP q n).1) :: l)
def Jgx (L:List (Nat×Obj)) (w:World):Prop:=∀x∈L,w.heap[x.1]?=some x.2
def JgQ (a g1 g2:Nat) (L:List (Nat×Obj)):Prop:=∀x∈L,a+4<=x.1/\x.1≠g1/\x.1≠g2/\(∀c fz,x.2≠.cells c 5 fz)/\∀c fz,x.2≠.cells c 50 fz
structure sideI (M a g1 g2:Nat) (bx:List (Nat×Obj)) (w:World) (v1 v2:Value) (A B:List Pt) (s:NSt) (W:World):Prop where
 below:Below a w W
 g:gath M W a s
 r1:winP W g1 v1 A
 r2:winP W g2 v2 B
 b:Jgx bx W
theorem sideI.grow(h:sideI M a g1 g2 bx w v1 v2 A B s W)(hb:Below W.heap.size W W'):sideI M a g1 g2 bx w v1 v2 A B s W' :=
 ⟨h.below.trans (hb.mono (by have:=Jb7 h.g;omega)),Jbx h.g hb,Jg5 h.r1 hb,Jg5 h.r2 hb,fun x hx=>(hb.block _ (Jav (h.b x hx))).trans (h.b x hx)⟩
theorem Jsz(h:gath M w a s)(hb:ButO g w w')(h1:a+4<=g)(h2:g<M):gath M w' a s:=by
 have hM:=h.le;have hT:=h.top;have hlt:=Jb7 h;have hbl:=hb.below h1 (by omega);have own:∀{e size n:Nat} {v:Value} {xs:List Value},w.ownsRow M e size v n xs->w'.ownsRow M e size v n xs:=by
  intro e size n v xs h;obtain⟨h0,hrow⟩:=h;refine⟨h0,?_⟩
  rcases hrow with hx|⟨g',cap,cur,rfl,hg,hgg,rest⟩
  . exact .inl hx
  . exact .inr ⟨g',cap,cur,rfl,hg,(hb.block g' (Jav hgg) (by omega)).trans hgg,rest⟩
 obtain⟨⟨p,c,h1,h2⟩,h3,⟨p',c',h4,h5⟩,h6,h7,h8,h9⟩:=h
 exact ⟨⟨p,c,(hbl.cell (p:=⟨a,0,none⟩) (by show a<a+4;omega)).trans h1,own h2⟩,(hbl.frozen (p:=⟨a,0,none⟩) (by show a<a+4;omega)).trans h3,
  ⟨p',c',(hbl.cell (p:=⟨a+1,0,none⟩) (by show a+1<a+4;omega)).trans h4,own h5⟩,(hbl.frozen (p:=⟨a+1,0,none⟩) (by show a+1<a+4;omega)).trans h6,
  (hbl.cell (p:=⟨a+2,0,none⟩) (by show a+2<a+4;omega)).trans h7,(hbl.frozen (p:=⟨a+2,0,none⟩) (by show a+2<a+4;omega)).trans h8,(hbl.cell (p:=⟨a+3,0,none⟩) (by show a+3<a+4;omega)).trans h9,hM,Nat.le_trans hT hb.size⟩
theorem sideI.cut2{v2':Value}{B':List Pt}(h:sideI M a g1 g2 bx w v1 v2 A B s W)(hb:ButO g2 W W')(ho:JgQ a g1 g2 bx)(h1:a+4<=g2)(h2:g2<M)(hne:g1≠g2)(hr:winP W' g2 v2' B'):sideI M a g1 g2 bx w v1 v2' A B' s W' :=
 ⟨h.below.trans (hb.below (by omega) (by have:=Jb7 h.g;omega)),Jsz h.g hb h1 h2,Jnv h.r1 hb hne,hr,fun x hx=>(hb.block _ (Jav (h.b x hx)) (ho x hx).2.2.1).trans (h.b x hx)⟩
theorem Jtj{v:Value}{ps:List Pt}(h:winP w g v ps)(hb:BelowG M a w w')(h1:a+4<=g)(h2:g<M):winP w' g v ps:=by
 refine Jcj h hb.size fun hg=>?_;obtain⟨o,ho⟩:∃o,w.heap[g]?=some o:=⟨_,Array.getElem?_eq_getElem hg⟩;rw[ho];exact hb.kept g o ho (by omega) (by omega) (by omega) (fun _ _ hM=>absurd hM (by omega)) (fun _ _ hM=>absurd hM (by omega))
theorem sideI.took{s':NSt}(h:sideI M a g1 g2 bx w v1 v2 A B s W)(hb:BelowG M a W W')(hg:gath M W' a s')(ho:JgQ a g1 g2 bx)(h1:a+4<=g1)(h2:g1<M)(h3:a+4<=g2)(h4:g2<M):sideI M a g1 g2 bx w v1 v2 A B s' W' :=
 ⟨h.below.trans hb.below,hg,Jtj h.r1 hb h1 h2,Jtj h.r2 hb h3 h4,fun x hx=>by
  obtain⟨o1,_,_,o2,o3⟩:=ho x hx;exact hb.kept _ _ (h.b x hx) (by omega) (by omega) (by omega) (fun c fz _=>o2 c fz) (fun c fz _=>o3 c fz)⟩
structure BdS (t:Pt×Pt->List Pt) (l:List (Pt×Pt)) (s:NSt) (T:Int) (n:Nat):Prop where
 bd:Bd s T n
 w:T+wts (l.flatMap t)<1000000000
 n:n+l.length<10000000
 sound:∀x∈l,∀p∈t x,Jbc p
 one:∀x∈l,(t x).length<=1
theorem Bd.more(h:Bd s T n):Bd s T (n+1):=⟨h.put,h.d0,h.dT,h.keep,by have:=h.len;omega⟩
theorem BdS.head(h:BdS t (x :: l) s T n):(∀p∈t x,Jbc p)/\T+wts (t x)<1000000000/\n<10000000:=by
 refine⟨h.sound x (by simp),?_,by have:=h.n;simp at this;omega⟩;have h1:=h.w;have h2:0<=wts (l.flatMap t):=Jfi fun p hp=>by
  obtain⟨y,hy,hp⟩:=List.mem_flatMap.1 hp;exact h.sound y (by simp[hy]) p hp
 rw[List.flatMap_cons]at h1;unfold wts at h1 h2 ⊢;rw[List.map_append,List.sum_append]at h1;omega
theorem BdS.tail(h:BdS t (x :: l) s T n):BdS t l ((t x).foldl addP s) (T+wts (t x)) (n+1):=by
 refine⟨?_,?_,by have:=h.n;simp at this;omega,fun y hy=>h.sound y (by simp[hy]),fun y hy=>h.one y (by simp[hy])⟩
 . have h1:=h.one x (by simp)
   have h2:=h.sound x (by simp);generalize t x=L at *
   match L,h1 with
   | [],_=>simpa[wts] using h.bd.more
   | [p],_ =>
    have:=h.bd.add p (h2 p (by simp));simpa[wts] using this
 . have h1:=h.w
   rw[List.flatMap_cons]at h1;unfold wts at h1 ⊢;rw[List.map_append,List.sum_append]at h1;omega
end
section
variable {p : Pt}
abbrev Cel:=Int×UInt8
def putC (u:List UInt8):List Cel:=u.map fun c=>(-1,c)
def Jb5 (at':Int):Nat->List Cel
 | 0=>[]
 | k+1=>(at',0) :: Jb5 (at'+1) k
def midP (at':Int):List Pt->List Cel
 | []=>[]
 | p :: ps=>Jb5 at' p.keep.toNat++(putC p.put++midP (at'+p.keep+p.drop) ps)
def endP (mid:List Cel):List Pt->List Cel
 | []=>[]
 | p :: ps=>mid.take p.keep.toNat++(putC p.put++endP (mid.drop (p.keep+p.drop).toNat) ps)
def denC (n:Int):List Cel->Int->NSt->NSt
 | [],pos,s=>addP s ⟨0,n - pos,[]⟩
 | (i,c) :: E,pos,s=>if i<0 then denC n E pos (addP s ⟨0,0,[c]⟩) else denC n E (i+1) (addP (addP s ⟨0,i - pos,[]⟩) ⟨1,0,[]⟩)
theorem JsZ(s:NSt)(d:Int)(u:List UInt8):addP (addP s ⟨0,d,[]⟩) ⟨0,0,u⟩=addP (addP s ⟨0,0,u⟩) ⟨0,d,[]⟩:=by simp[addP]
theorem Jko(n:Int):∀(E:List Cel)(pos d:Int)(s:NSt),denC n E (pos+d) (addP s ⟨0,d,[]⟩)=denC n E pos s
 | [],pos,d,s=>by
  rw[denC,denC,Jez]
  congr 2
  omega
 | (i,c) :: E,pos,d,s=>by
   rw[denC,denC]
   by_cases hi:i<0
   . rw[if_pos hi,if_pos hi,JsZ,Jko n E pos d]
   . rw[if_neg hi,if_neg hi,Jez]
     congr 3
     congr 1
     omega
theorem Jkm(n:Int)(E:List Cel)(pos:Int):∀(u:List UInt8)(s:NSt),denC n (putC u++E) pos s=denC n E pos (addP s ⟨0,0,u⟩)
 | [],s=>by rw[Jb6];rfl
 | c :: u,s=>by
  show denC n ((-1,c) :: (putC u++E)) pos s=_;rw[denC,if_pos (by decide),Jkm n E pos u,Jg1];rfl
theorem JlM(n:Int)(E:List Cel):∀(k:Nat)(pos:Int)(s:NSt),0<=pos->denC n (Jb5 pos k++E) pos s=denC n E (pos+k) (addP s ⟨k,0,[]⟩)
 | 0,pos,s,_=>by
  rw[show((0:Nat):Int)=0 from rfl,Jb6,Int.add_zero];rfl
 | k + 1,pos,s,h=>by
  show denC n ((pos,0) :: (Jb5 (pos+1) k++E)) pos s=_;rw[denC,if_neg (by omega),JlM n E k (pos+1) _ (by omega),Int.sub_self,Jb6,Jf3 _ _ _ (by omega) (by omega)]
  congr 1
  . omega
  . congr 2
    omega
theorem Jdu(u:List UInt8):(putC u).length=u.length:=by simp[putC]
theorem JdR:∀(k:Nat)(i:Int),(Jb5 i k).length=k
 | 0,_=>rfl
 | k+1,i=>by rw[Jb5,List.length_cons,JdR k]
theorem JeD(u v:List UInt8):putC (u++v)=putC u++putC v:=by simp[putC]
theorem Jdj:∀(a b:Nat)(i:Int),Jb5 i (a+b)=Jb5 i a++Jb5 (i+a) b
 | 0,b,i=>by simp[Jb5]
 | a+1,b,i=>by
  rw[show a+1+b=(a+b)+1 by omega,Jb5,Jb5,Jdj a b];simp only[List.cons_append]
  congr 3
  omega
theorem Jka:∀(ps:List Pt)(i:Int),(∀p∈ps,0<=p.keep)->((midP i ps).length:Int)=(ps.map isP).sum
 | [],i,_=>rfl
 | p :: ps,i,h=>by
  have h1:=h p (by simp);have:=Jka ps (i+p.keep+p.drop) fun q hq=>h q (by simp[hq]);simp only[midP,List.length_append,JdR,Jdu,List.map_cons,List.sum_cons,isP]
  push_cast
  rw[this];omega
theorem JcK(h:oneP p):(∃u,u≠[]/\p=⟨0,0,u⟩)\/(∃n:Nat,p=⟨(n:Int)+1,0,[]⟩)\/∃n:Nat,p=⟨0,(n:Int)+1,[]⟩:=by
 rcases Jbi h with h|⟨d,n,rfl⟩
 . exact .inl h
 . cases d with
   | true=>exact .inr (.inr ⟨n,rfl⟩)
   | false=>exact .inr (.inl ⟨n,rfl⟩)
theorem JeI(u:List UInt8):Jad ⟨0,0,u⟩=(u.length:Int):=by simp[Jad]
theorem Jfv(n:Int):Jad ⟨n,0,[]⟩=n:=by simp[Jad]
theorem Jkb(n:Int):Jad ⟨0,n,[]⟩=n:=by simp[Jad]
theorem mid_cut(h:oneP p)(hd:¬0<p.drop){n:Nat}(h0:0<n)(hn:(n:Int)<=Jad p)(i:Int)(ps:List Pt) :
    ((p.put=[]/\(cutP p n).1=⟨n,0,[]⟩/\midP i (p :: ps)=Jb5 i n++midP (i+n) ((cutP p n).2++ps))\/∃u,u.length=n/\p.put≠[]/\(cutP p n).1=⟨0,0,u⟩/\midP i (p :: ps)=putC u++midP i ((cutP p n).2++ps)):=by
 rcases JcK h with ⟨u,hu,rfl⟩|⟨m,rfl⟩|⟨m,rfl⟩
 . right
   rw[JeI]at hn
   by_cases e:(u.length:Int)=n
   . have hc:cutP ⟨0,0,u⟩ (n:Int)=(⟨0,0,u⟩,[]):=by unfold cutP;rw[if_pos (by rw[JeI];exact e)]
     rw[hc];refine⟨u,by omega,hu,rfl,?_⟩;simp[midP,Jb5]
   . have hc:cutP ⟨0,0,u⟩ (n:Int)=(⟨0,0,u.take n⟩,[⟨0,0,u.drop n⟩]):=by
       unfold cutP;rw[if_neg (by rw[JeI];exact e),if_neg (by show ¬(0:Int)<0;omega),if_neg (by show ¬(0:Int)<0;omega)];rfl
     rw[hc];refine⟨u.take n,by rw[List.length_take];omega,hu,rfl,?_⟩;show Jb5 i 0++(putC u++midP (i+0+0) ps)=putC (u.take n)++(Jb5 i 0++(putC (u.drop n)++midP (i+0+0) ps));simp only[Jb5,List.nil_append,←List.append_assoc,←JeD,List.take_append_drop]
 . left
   rw[Jfv]at hn
   by_cases e:(m:Int)+1=n
   . have hc:cutP ⟨(m:Int)+1,0,[]⟩ (n:Int)=(⟨n,0,[]⟩,[]):=by unfold cutP;rw[if_pos (by rw[Jfv];exact e),e]
     rw[hc,e];refine⟨rfl,rfl,?_⟩;show Jb5 i (n:Int).toNat++([]++midP (i+n+0) ps)=_;simp
   . have hc:cutP ⟨(m:Int)+1,0,[]⟩ (n:Int)=(⟨n,0,[]⟩,[⟨(m:Int)+1 - n,0,[]⟩]):=by
       unfold cutP;rw[if_neg (by rw[Jfv];exact e),if_pos (by show(0:Int)<m+1;omega)]
     rw[hc];refine⟨rfl,rfl,?_⟩;show Jb5 i ((m:Int)+1).toNat++([]++midP (i+(m+1)+0) ps)=Jb5 i n++(Jb5 (i+n) ((m:Int)+1 - n).toNat++([]++midP (i+n+((m:Int)+1 - n)+0) ps));rw[show((m:Int)+1).toNat=n+((m:Int)+1 - n).toNat by omega,Jdj,List.append_assoc,show i+n+((m:Int)+1 - n)+0=i+(m+1)+0 by omega]
 . exact absurd (show(0:Int)<m+1 by omega) hd
theorem JqY{q:Pt}(h:oneP q)(hp:q.put=[]){n:Nat}(h0:0<n)(hn:(n:Int)<=Jad q)(A B:List Cel)(hA:A.length=n)(qs:List Pt) :
    (((cutP q n).1=⟨n,0,[]⟩/\endP (A++B) (q :: qs)=A++endP B ((cutP q n).2++qs))\/((cutP q n).1=⟨0,n,[]⟩/\endP (A++B) (q :: qs)=endP B ((cutP q n).2++qs))):=by
 rcases JcK h with ⟨u,hu,rfl⟩|⟨m,rfl⟩|⟨m,rfl⟩
 . exact absurd hp hu
 . left
   rw[Jfv]at hn
   by_cases e:(m:Int)+1=n
   . have hc:cutP ⟨(m:Int)+1,0,[]⟩ (n:Int)=(⟨n,0,[]⟩,[]):=by unfold cutP;rw[if_pos (by rw[Jfv];exact e),e]
     rw[hc,e];refine⟨rfl,?_⟩;show(A++B).take (n:Int).toNat++([]++endP ((A++B).drop ((n:Int)+0).toNat) qs)=_;simp only[Int.add_zero,Int.toNat_natCast,List.nil_append];rw[List.take_left' hA,List.drop_left' hA]
   . have hc:cutP ⟨(m:Int)+1,0,[]⟩ (n:Int)=(⟨n,0,[]⟩,[⟨(m:Int)+1 - n,0,[]⟩]):=by
       unfold cutP;rw[if_neg (by rw[Jfv];exact e),if_pos (by show(0:Int)<m+1;omega)]
     rw[hc];refine⟨rfl,?_⟩;show(A++B).take ((m:Int)+1).toNat++([]++endP ((A++B).drop ((m:Int)+1+0).toNat) qs)=A++(B.take ((m:Int)+1 - n).toNat++([]++endP (B.drop ((m:Int)+1 - n+0).toNat) qs));rw[List.take_append,List.drop_append,List.take_of_length_le (by omega),List.drop_of_length_le (by omega)];simp only[List.nil_append,List.append_assoc,Int.add_zero];rw[show((m:Int)+1).toNat - A.length=((m:Int)+1 - n).toNat by omega]
 . right
   rw[Jkb]at hn
   by_cases e:(m:Int)+1=n
   . have hc:cutP ⟨0,(m:Int)+1,[]⟩ (n:Int)=(⟨0,n,[]⟩,[]):=by unfold cutP;rw[if_pos (by rw[Jkb];exact e),e]
     rw[hc,e];refine⟨rfl,?_⟩;show(A++B).take (0:Int).toNat++([]++endP ((A++B).drop (0+(n:Int)).toNat) qs)=_;simp only[Int.zero_add,Int.toNat_natCast,Int.toNat_zero,List.take_zero,List.nil_append];rw[List.drop_left' hA]
   . have hc:cutP ⟨0,(m:Int)+1,[]⟩ (n:Int)=(⟨0,n,[]⟩,[⟨0,(m:Int)+1 - n,[]⟩]):=by
       unfold cutP;rw[if_neg (by rw[Jkb];exact e),if_neg (by show ¬(0:Int)<0;omega),if_pos (by show(0:Int)<m+1;omega)]
     rw[hc];refine⟨rfl,?_⟩;show(A++B).take (0:Int).toNat++([]++endP ((A++B).drop (0+((m:Int)+1)).toNat) qs)=B.take (0:Int).toNat++([]++endP (B.drop (0+((m:Int)+1 - n)).toNat) qs);rw[List.drop_append,List.drop_of_length_le (by omega)];simp only[List.nil_append,Int.zero_add,Int.toNat_zero,List.take_zero];rw[show((m:Int)+1).toNat - A.length=((m:Int)+1 - n).toNat by omega]
theorem Jgt(h:oneP p){n:Nat}(h0:0<n)(hn:(n:Int)<=Jad p)(ps:List Pt):Jao (p :: ps)=n+Jao ((cutP p n).2++ps)/\(p.put=[]->Jag (p :: ps)=n+Jag ((cutP p n).2++ps))/\(p.put≠[]->Jag (p :: ps)=Jag ((cutP p n).2++ps)):=by
 rw[Jay,Jba];have hL:∀l,Jag (l++ps)=Jag l+Jag ps:=fun l=>Jby l ps;have hL1:Jag (p :: ps)=lenP p+Jag ps:=by simp[Jag]
 rw[hL,hL1];obtain⟨c1,c2,c3,c4⟩:=Jff h (n:=n) (by omega) hn;have hlen:Jad p=lenP p+p.put.length:=rfl
 by_cases e:Jad p=n
 . have e2:=c4.2 e
   rw[e2];refine⟨by simp[Jao];omega,fun hp=>?_,fun hp=>?_⟩
   . rw[hp]at hlen;simp only[Jag,List.map_nil,List.sum_nil];simp at hlen;omega
   . have:lenP p=0:=by rcases h with ⟨h1,h2,h3⟩|⟨h1,h2,h3⟩|⟨h1,h2,h3⟩<;>simp_all [lenP]
     simp only[Jag,List.map_nil,List.sum_nil];omega
 . have hne:(cutP p n).2≠[]:=fun h=>e (c4.1 h)
   have h1:∃q,(cutP p n).2=[q]/\q.put.length=(p.put.length - if p.put=[] then 0 else n):=by
    unfold cutP;rw[if_neg e]
    rcases h with ⟨h1,h2,h3⟩|⟨h1,h2,h3⟩|⟨h1,h2,h3⟩
    . rw[if_pos h1];exact⟨_,rfl,by simp[h3]⟩
    . rw[if_neg (by omega),if_pos h2];exact⟨_,rfl,by simp[h3]⟩
    . rw[if_neg (by omega),if_neg (by omega)];exact⟨_,rfl,by simp[h3]⟩
   obtain⟨q,hq,hq2⟩:=h1;obtain⟨d1,d2⟩:=c3 q (by rw[hq];simp);rw[hq];have hlq:Jad q=lenP q+q.put.length:=rfl;refine⟨by simp[Jao];omega,fun hp=>?_,fun hp=>?_⟩
   . rw[if_pos hp,hp]at hq2
     rw[hp]at hlen;simp only[List.length_nil]at hlen hq2;simp only[Jag,List.map_cons,List.map_nil,List.sum_cons,List.sum_nil];omega
   . rw[if_neg hp]at hq2
     have:lenP p=0:=by rcases h with ⟨h1,h2,h3⟩|⟨h1,h2,h3⟩|⟨h1,h2,h3⟩<;>simp_all [lenP]
     simp only[Jag,List.map_cons,List.map_nil,List.sum_cons,List.sum_nil];omega
theorem Jrk(N:Int):∀(f:Nat)(a b:List Pt)(i:Int)(s:NSt),(∀p∈a,oneP p)->(∀p∈b,oneP p)->0<=i->((midP i a).length:Int)=Jag b->i+Jag a=N->Jao a+Jao b<=f ->
    runS Jbv (Ja5 Ja8 Jaf f a b) s=denC N (endP (midP i a) b) i s:=by
 have base:∀(i:Int) (s:NSt),i+Jag []=N->s=denC N (endP (midP i []) []) i s:=by
  intro i s h;show s=addP s ⟨0,N - i,[]⟩;have:N - i=0:=by simp[Jag]at h;omega
  rw[this,Jb6]
 have hnil:∀(l:List Pt),(∀p∈l,oneP p)->Jao l=0->l=[]:=by
  intro l hl hw
  cases l with
  | nil=>rfl
  | cons p l =>
   have:=JaE (hl p (by simp));rw[Jay]at hw;omega
 intro f
 induction f with
 | zero =>
  intro a b i s ha hb hi hm hn hw;obtain rfl:=hnil a ha (by omega);obtain rfl:=hnil b hb (by omega);exact base i s hn
 | succ f ih =>
  intro a b i s ha hb hi hm hn hw
  have hputs:∀(a:List Pt) (u:List UInt8) (bs:List Pt),(∀p∈a,oneP p)->(∀p∈(⟨0,0,u⟩:Pt) :: bs,oneP p)->((midP i a).length:Int)=Jag (⟨0,0,u⟩ :: bs)->i+Jag a=N->Jao a+Jao (⟨0,0,u⟩ :: bs)<=f+1->u≠[] ->
      runS Jbv ((noP,⟨0,0,u⟩) :: Ja5 Ja8 Jaf f a bs) s=denC N (endP (midP i a) (⟨0,0,u⟩ :: bs)) i s:=by
   intro a u bs ha hb hm hn hw hu;have h1:Jbv (noP,⟨0,0,u⟩)=[⟨0,0,u⟩]:=by simp[Jbv,Ja8,Jb0,Jaf,noP,hu]
   show runS Jbv (Ja5 Ja8 Jaf f a bs) ((Jbv (noP,⟨0,0,u⟩)).foldl addP s)=_;rw[h1];have hl:0<u.length:=List.length_pos_iff.2 hu;rw[Jay,JeI]at hw;rw[ih a bs i _ ha (fun p hp=>hb p (by simp[hp])) hi (by rw[hm];simp[Jag,lenP]) hn (by omega)];show denC N _ i (addP s ⟨0,0,u⟩)=denC N ((midP i a).take (0:Int).toNat++(putC u++endP ((midP i a).drop ((0:Int)+0).toNat) bs)) i s;simp only[Int.add_zero,Int.toNat_zero,List.take_zero,List.drop_zero,List.nil_append];rw[Jkm]
  have hlong:∀l:List Pt,(∀p∈l,oneP p)->0<=Jag l:=by
   intro l hl
   induction l with
   | nil=>simp[Jag]
   | cons p l ih =>
    have h1:=ih fun q hq=>hl q (by simp[hq]);have h2:0<=lenP p:=by rcases hl p (by simp) with ⟨h1,h2,h3⟩|⟨h1,h2,h3⟩|⟨h1,h2,h3⟩<;>simp only[lenP]<;>omega
    simp only[Jag,List.map_cons,List.sum_cons]at h1 ⊢;omega
  cases a with
  | nil =>
   cases b with
   | nil=>exact base i s hn
   | cons q bs =>
    have h2:=hlong bs fun p hp=>hb p (by simp[hp]);have h0:Jag (q :: bs)=lenP q+Jag bs:=by simp[Jag]
    have hm':(0:Int)=Jag (q :: bs):=hm
    rcases JcK (hb q (by simp)) with ⟨u,hu,rfl⟩|⟨m,rfl⟩|⟨m,rfl⟩
    . have h1:Ja5 Ja8 Jaf (f+1) [] (⟨0,0,u⟩ :: bs)=(noP,⟨0,0,u⟩) :: Ja5 Ja8 Jaf f [] bs:=by rw[Ja5,if_pos (by simp[Jaf,hu])]
      rw[h1];exact hputs [] u bs ha hb hm hn hw hu
    . have:lenP (⟨(m:Int)+1,0,[]⟩:Pt)=m+1:=by simp[lenP]
      omega
    . have:lenP (⟨0,(m:Int)+1,[]⟩:Pt)=m+1:=by simp[lenP]
      omega
  | cons p az =>
   have hp1:=ha p (by simp)
   by_cases hd:0<p.drop
   . have h1:Ja5 Ja8 Jaf (f+1) (p :: az) b=(p,noP) :: Ja5 Ja8 Jaf f az b:=by
       cases b<;>(rw[Ja5];rw[if_pos (by simp[Ja8,hd])])
     rw[h1];have h2:Jbv (p,noP)=[p]:=by simp[Jbv,Ja8,hd]
     show runS Jbv (Ja5 Ja8 Jaf f az b) ((Jbv (p,noP)).foldl addP s)=_;rw[h2];have hw2:=JaE hp1;rw[Jay]at hw
     rcases JcK hp1 with ⟨u,hu,rfl⟩|⟨m,rfl⟩|⟨m,rfl⟩
     . exact absurd hd (by show ¬(0:Int)<0;omega)
     . exact absurd hd (by show ¬(0:Int)<0;omega)
     . have e:midP i (⟨0,(m:Int)+1,[]⟩ :: az)=midP (i+(m+1)) az:=by
         show Jb5 i (0:Int).toNat++([]++midP (i+0+(m+1)) az)=_;simp[Jb5]
       rw[e]at hm ⊢;rw[ih az b (i+(m+1)) _ (fun q hq=>ha q (by simp[hq])) hb (by omega) hm (by rw[←hn];simp[Jag,lenP];omega) (by omega)];exact Jko N _ i _ s
   . have hmid:0<(midP i (p :: az)).length:=by
       rcases JcK hp1 with ⟨u,hu,rfl⟩|⟨m,rfl⟩|⟨m,rfl⟩
       . have:0<u.length:=List.length_pos_iff.2 hu
         simp only[midP,List.length_append,Jdu];omega
       . simp only[midP,List.length_append,JdR];omega
       . exact absurd (show(0:Int)<m+1 by omega) hd
     cases b with
     | nil=>simp[Jag]at hm;rw[hm]at hmid;simp at hmid
     | cons q bs =>
      have hq1:=hb q (by simp)
      by_cases hu:q.put≠[]
      . rcases JcK hq1 with ⟨u,hu',rfl⟩ | ⟨m,rfl⟩ | ⟨m,rfl⟩
        . have h1:Ja5 Ja8 Jaf (f+1) (p :: az) (⟨0,0,u⟩ :: bs)=(noP,⟨0,0,u⟩) :: Ja5 Ja8 Jaf f (p :: az) bs:=by
            rw[Ja5,if_neg (by simp[Ja8,hd]),if_pos (by simp[Jaf,hu'])]
          rw[h1];exact hputs (p :: az) u bs ha hb hm hn hw hu'
        . exact absurd rfl hu
        . exact absurd rfl hu
      . have hu:=Classical.not_not.1 hu
        have h1:Ja5 Ja8 Jaf (f+1) (p :: az) (q :: bs)=((cutP p (min (Jad p) (Jad q))).1,(cutP q (min (Jad p) (Jad q))).1) :: Ja5 Ja8 Jaf f ((cutP p (min (Jad p) (Jad q))).2++az) ((cutP q (min (Jad p) (Jad q))).2++bs):=by
         rw[Ja5,if_neg (by simp[Ja8,hd]),if_neg (by simp[Jaf,hu])]
        rw[h1];have hlp:=JaE hp1;have hlq:=JaE hq1;obtain⟨k,hk⟩:∃k:Nat,min (Jad p) (Jad q)=(k:Int):=⟨(min (Jad p) (Jad q)).toNat,by omega⟩;rw[hk];have k0:0<k:=by omega
        have kp:(k:Int)<=Jad p:=by omega
        have kq:(k:Int)<=Jad q:=by omega
        obtain⟨wp,lp,lp'⟩:=Jgt hp1 k0 kp az;obtain⟨wq,lq,_⟩:=Jgt hq1 k0 kq bs;have lq:=lq hu;have op:=(Jff hp1 (n:=k) (by omega) kp).2.2.1;have oq:=(Jff hq1 (n:=k) (by omega) kq).2.2.1;have ha':∀x∈(cutP p k).2++az,oneP x:=by
         intro x hx
         rcases List.mem_append.1 hx with hx|hx
         . exact(op x hx).1
         . exact ha x (by simp[hx])
        have hb':∀x∈(cutP q k).2++bs,oneP x:=by
         intro x hx
         rcases List.mem_append.1 hx with hx|hx
         . exact(oq x hx).1
         . exact hb x (by simp[hx])
        show runS Jbv (Ja5 Ja8 Jaf f ((cutP p k).2++az) ((cutP q k).2++bs)) ((Jbv ((cutP p k).1,(cutP q k).1)).foldl addP s)=_
        rcases mid_cut hp1 hd k0 kp i az with ⟨hpu,e1,e2⟩|⟨u,hul,hpu,e1,e2⟩
        . have lp:=lp hpu
          rw[e2]at hm ⊢;rw[List.length_append,JdR]at hm;have hm':((midP (i+k) ((cutP p k).2++az)).length:Int)=Jag ((cutP q k).2++bs):=by omega
          rcases JqY hq1 hu k0 kq (Jb5 i k) (midP (i+k) ((cutP p k).2++az)) (JdR k i) bs with ⟨e3,e4⟩|⟨e3,e4⟩
          . rw[e1,e3,e4,JlM _ _ _ _ _ hi]
            have hc:Jbv (⟨k,0,[]⟩,⟨k,0,[]⟩)=[⟨k,0,[]⟩]:=by simp[Jbv,Ja8,Jb0,k0]
            rw[hc];exact ih _ _ (i+k) _ ha' hb' (by omega) hm' (by omega) (by omega)
          . rw[e1,e3,e4]
            have hc:Jbv (⟨k,0,[]⟩,⟨0,k,[]⟩)=[⟨0,k,[]⟩]:=by simp[Jbv,Ja8,Jb0,k0]
            rw[hc,←Jko N _ i k s];exact ih _ _ (i+k) _ ha' hb' (by omega) hm' (by omega) (by omega)
        . have lp':=lp' hpu
          rw[e2]at hm ⊢;rw[List.length_append,Jdu]at hm;have hm':((midP i ((cutP p k).2++az)).length:Int)=Jag ((cutP q k).2++bs):=by omega
          rcases JqY hq1 hu k0 kq (putC u) (midP i ((cutP p k).2++az)) (by rw[Jdu];exact hul) bs with ⟨e3,e4⟩|⟨e3,e4⟩
          . rw[e1,e3,e4,Jkm]
            have hc:Jbv (⟨0,0,u⟩,⟨k,0,[]⟩)=[⟨0,0,u⟩]:=by simp[Jbv,Ja8,Jb0,k0]
            rw[hc];exact ih _ _ i _ ha' hb' hi hm' (by omega) (by omega)
          . rw[e1,e3,e4]
            have hc:Jbv (⟨0,0,u⟩,⟨0,k,[]⟩)=[]:=by simp[Jbv,Ja8,Jb0,Jaf]
            rw[hc];exact ih _ _ i _ ha' hb' hi hm' (by omega) (by omega)
end
section
structure ActP {X:Type} (act:X->Pt->X):Prop where
 none:∀x,act x ⟨0,0,[]⟩=x
 puts:∀x u v,act (act x ⟨0,0,u⟩) ⟨0,0,v⟩=act x ⟨0,0,u++v⟩
 drops:∀x (a b:Int),0<=a->0<=b->act (act x ⟨0,a,[]⟩) ⟨0,b,[]⟩=act x ⟨0,a+b,[]⟩
 keeps:∀x (a b:Int),0<a->0<b->act (act x ⟨a,0,[]⟩) ⟨b,0,[]⟩=act x ⟨a+b,0,[]⟩
 split:∀x k d u,act x ⟨k,d,u⟩=act (act (act x ⟨0,0,u⟩) ⟨0,d,[]⟩) ⟨k,0,[]⟩
 swap:∀x d u,act (act x ⟨0,d,[]⟩) ⟨0,0,u⟩=act (act x ⟨0,0,u⟩) ⟨0,d,[]⟩
theorem Jk1{X:Type}{act:X->Pt->X}(h:ActP act)(s:NSt)(x:X):(Jaq s).foldl act x=act (act (s.out.foldl act x) ⟨0,0,s.put⟩) ⟨0,s.drop,[]⟩:=by
 unfold Jaq;rw[List.foldl_append,List.foldl_append]
 by_cases hp:s.put=[]<;>by_cases hd:s.drop=0<;>simp[hp,hd,h.none]
theorem Jtd{X:Type}{act:X->Pt->X}(h:ActP act)(l:List Pt)(k:Int)(hk:0<k)(x:X):(JaT l k).foldl act x=act (l.foldl act x) ⟨k,0,[]⟩:=by
 unfold JaT
 cases hq:l.getLast? with
 | none=>simp
 | some q =>
  simp only
  split
  . rename_i hq0
    obtain⟨init,rfl⟩:∃init,l=init++[q]:=List.getLast?_eq_some_iff.1 hq;rw[List.dropLast_concat,List.foldl_append,List.foldl_append];simp only[List.foldl_cons,List.foldl_nil];rw[h.split _ (q.keep+k),h.split _ q.keep q.drop q.put,h.keeps _ _ _ hq0 hk]
  . simp
theorem Jk3{X:Type}{act:X->Pt->X}(h:ActP act)(s:NSt)(p:Pt)(hs:0<=s.drop)(hk:0<=p.keep)(hd:0<=p.drop)(x:X):(Jaq (addP s p)).foldl act x=act ((Jaq s).foldl act x) p:=by
 have e1:act ((Jaq s).foldl act x) p=act (act (act (s.out.foldl act x) ⟨0,0,s.put++p.put⟩) ⟨0,s.drop+p.drop,[]⟩) ⟨p.keep,0,[]⟩:=by
  rw[Jk1 h,h.split _ p.keep p.drop p.put,h.swap,h.puts,h.drops _ _ _ hs hd]
 rw[e1];unfold addP
 split
 . rename_i h0
   rw[Jk1 h,h0,h.none]
 . rw[Jfk,Jtd h _ _ (by omega),Jk1 h]
theorem JeQ{X:Type}{act:X->Pt->X}(h:ActP act)(ps:List Pt)(hs:∀p∈ps,0<=p.keep/\0<=p.drop)(x:X):(Jac ps).foldl act x=ps.foldl act x:=by
 have key:∀(ps:List Pt),(∀p∈ps,0<=p.keep/\0<=p.drop)->∀s,OneS s->(Jaq (ps.foldl addP s)).foldl act x=ps.foldl act ((Jaq s).foldl act x):=by
  intro ps
  induction ps with
  | nil=>intros;rfl
  | cons p ps ih =>
   intro hs s h1;have hp:=hs p (by simp);rw[List.foldl_cons,ih (fun q hq=>hs q (by simp[hq])) _ (Jns h1 p hp.1 hp.2),Jk3 h s p h1.drop hp.1 hp.2];rfl
 exact key ps hs nst0 ⟨by simp[nst0],by simp[nst0]⟩
def actM (x:List Cel×Int) (p:Pt):List Cel×Int:=(x.1++(putC p.put++Jb5 (x.2+p.drop) p.keep.toNat),x.2+p.drop+p.keep)
def actE (x:List Cel×List Cel) (p:Pt):List Cel×List Cel:=(x.1++(putC p.put++(x.2.drop p.drop.toNat).take p.keep.toNat),(x.2.drop p.drop.toNat).drop p.keep.toNat)
theorem actM_ok:ActP actM:=by
 constructor
 . intro x;simp[actM,putC,Jb5]
 . intro x u v;simp[actM,JeD,Jb5]
 . intro x a b _ _;simp[actM,Jb5,putC];omega
 . intro x a b ha hb
   simp only[actM,putC,List.map_nil,List.nil_append,Int.add_zero];rw[show(a+b).toNat=a.toNat+b.toNat by omega,Jdj,List.append_assoc,show x.2+(a.toNat:Int)=x.2+a by omega];simp;omega
 . intro x k d u;simp[actM,Jb5,putC]
 . intro x d u;simp[actM,Jb5,putC]
theorem actE_ok:ActP actE:=by
 constructor
 . intro x;simp[actE,putC]
 . intro x u v;simp[actE,JeD]
 . intro x a b ha hb
   simp only[actE,putC,List.map_nil,Int.toNat_zero,List.take_zero,List.append_nil,List.drop_drop,Nat.add_zero];rw[show a.toNat+b.toNat=(a+b).toNat by omega]
 . intro x a b ha hb
   simp only[actE,putC,List.map_nil,List.nil_append,Int.toNat_zero,List.drop_zero,List.drop_drop,List.append_assoc];rw[show(a+b).toNat=a.toNat+b.toNat by omega,List.take_add];simp only[Nat.add_zero]
 . intro x k d u;simp[actE,putC]
 . intro x d u;simp[actE,putC]
theorem Jk4:∀(ps:List Pt),(∀p∈ps,oneP p)->∀(l:List Cel)(i:Int),ps.foldl actM (l,i)=(l++midP i ps,i+Jag ps)
 | [],_,l,i=>by simp[midP,Jag]
 | p :: ps,h,l,i=>by
  have ih:=Jk4 ps (fun q hq=>h q (by simp[hq]));rw[List.foldl_cons,actM,ih];have hL:Jag (p :: ps)=lenP p+Jag ps:=by simp[Jag]
  rw[hL]
  rcases JcK (h p (by simp)) with ⟨u,hu,rfl⟩|⟨m,rfl⟩|⟨m,rfl⟩
  . simp[midP,Jb5,lenP,putC]
  . simp[midP,lenP,putC];omega
  . simp[midP,Jb5,lenP,putC];omega
theorem Jk5:∀(ps:List Pt),(∀p∈ps,oneP p)->∀(l mid:List Cel),(ps.foldl actE (l,mid)).1=l++endP mid ps
 | [],_,l,mid=>by simp[endP]
 | p :: ps,h,l,mid=>by
  have ih:=Jk5 ps (fun q hq=>h q (by simp[hq]));rw[List.foldl_cons,actE,ih]
  rcases JcK (h p (by simp)) with ⟨u,hu,rfl⟩|⟨m,rfl⟩|⟨m,rfl⟩
  . simp[endP,putC]
  . simp[endP,putC]
  . simp[endP,putC]
theorem Jak{ps:List Pt}(h:∀p∈ps,oneP p):∀p∈ps,0<=p.keep/\0<=p.drop:=by
 intro p hp
 rcases h p hp with ⟨h1,h2,h3⟩|⟨h1,h2,h3⟩|⟨h1,h2,h3⟩<;>exact⟨by omega,by omega⟩
theorem JnM(ps:List Pt)(h:∀p∈ps,oneP p):midP 0 (Jac ps)=midP 0 ps:=by
 have e:=JeQ actM_ok ps (Jak h) ([],0);rw[Jk4 ps h,Jk4 _ (JeG ps (Jak h))]at e;simpa using congrArg Prod.fst e
theorem Js6(ps:List Pt)(h:∀p∈ps,oneP p)(mid:List Cel):endP mid (Jac ps)=endP mid ps:=by
 have e:=congrArg Prod.fst (JeQ actE_ok ps (Jak h) ([],mid));rw[Jk5 ps h,Jk5 _ (JeG ps (Jak h))]at e;simpa using e
def Jfd (acc:List UInt8):Nat->(List UInt8->GSt)->GSt
 | 0,f=>f acc
 | m+1,f=>((acc,true) :: (Jfd [] m f).1,(Jfd [] m f).2)
def gapE (n:Int):List Cel->List UInt8->Int->GSt
 | [],acc,pos=>Jfd acc (n - pos).toNat fun acc=>([],acc)
 | (i,c) :: E,acc,pos=>if i<0 then gapE n E (acc++[c]) pos else Jfd acc (i - pos).toNat fun acc=>((acc,false) :: (gapE n E [] (i+1)).1,(gapE n E [] (i+1)).2)
def okC (n:Int):List Cel->Int->Prop
 | [],pos=>pos<=n
 | (i,c) :: E,pos=>if i<0 then okC n E pos else pos<=i/\i<n/\okC n E (i+1)
def denG (s:NSt) (g:GSt):NSt:=addP (g.1.foldl Jhh s) ⟨0,0,g.2⟩
theorem Jio(f:List UInt8->GSt)(K:NSt->NSt)(hK:∀acc s,denG s (f acc)=K (addP s ⟨0,0,acc⟩)):∀(m:Nat)(acc:List UInt8)(s:NSt),denG s (Jfd acc m f)=K (addP (addP s ⟨0,0,acc⟩) ⟨0,m,[]⟩)
 | 0,acc,s=>by
  rw[show((0:Nat):Int)=0 from rfl,Jb6];exact hK acc s
 | m+1,acc,s=>by
  show denG (Jhh s (acc,true)) (Jfd [] m f)=_;rw[Jio f K hK m];show K (addP (addP (addP (addP s ⟨0,0,acc⟩) ⟨0,1,[]⟩) ⟨0,0,[]⟩) ⟨0,m,[]⟩)=_;rw[Jb6,Jez]
  congr 3
  omega
theorem Jkn(n:Int):∀(E:List Cel)(acc:List UInt8)(pos:Int)(s:NSt),okC n E pos->denG s (gapE n E acc pos)=denC n E pos (addP s ⟨0,0,acc⟩)
 | [],acc,pos,s,h=>by
  have h:pos<=n:=h;rw[gapE,Jio _ id (fun acc s=>rfl),denC];show addP _ _=_;rw[Int.toNat_of_nonneg (by omega)]
 | (i, c) :: E,acc,pos,s,h=>by
   rw[okC]at h;rw[gapE,denC]
   by_cases hi:i<0
   . rw[if_pos hi]at h ⊢
     rw[if_pos hi,Jkn n E _ pos s h,Jg1]
   . rw [if_neg hi]at h ⊢
     rw[if_neg hi,Jio _ (fun s=>denC n E (i+1) (addP s ⟨1,0,[]⟩))]
     . rw[Int.toNat_of_nonneg (by omega)]
     . intro acc s
       have:=Jkn n E [] (i+1) (Jhh s (acc,false)) h.2.2;rw[Jb6]at this;exact this
structure CSt where
 put:List (List UInt8)
 drop:List Bool
 last:Nat
def Jds (s:CSt) (x:Cel):CSt:=if x.1<0 then ⟨s.put.set s.last (s.put[s.last]?.getD []++[x.2]),s.drop,s.last⟩ else ⟨s.put,s.drop.set x.1.toNat false,(x.1+1).toNat⟩
def JjC (g:GSt):List (List UInt8):=g.1.map (·.1)++[g.2]
def Jhk (g:GSt):List Bool:=g.1.map (·.2)
theorem JhL(n:Nat):∀(E:List Cel)(m:Nat)(P0:List (List UInt8))(D0:List Bool)(acc:List UInt8)(pos:Nat),P0.length=pos->D0.length=pos->pos+m=n->okC n E pos ->
    (E.foldl Jds ⟨P0++acc :: List.replicate m [],D0++List.replicate m true,pos⟩).put=P0++JjC (gapE n E acc pos)/\(E.foldl Jds ⟨P0++acc :: List.replicate m [],D0++List.replicate m true,pos⟩).drop=D0++Jhk (gapE n E acc pos)
 | [], m, P0,D0,acc,pos,hP,hD,hm,h=>by
  have key:∀(m:Nat) (acc:List UInt8),JjC (Jfd acc m fun acc=>([],acc))=acc :: List.replicate m []/\Jhk (Jfd acc m fun acc=>([],acc))=List.replicate m true:=by
   intro m
   induction m with
   | zero=>intro acc;exact⟨rfl,rfl⟩
   | succ m ih =>
    intro acc;obtain⟨h1,h2⟩:=ih [];refine⟨?_,?_⟩
    . show acc :: JjC (Jfd [] m fun acc=>([],acc))=_
      rw[h1];rfl
    . show true :: Jhk (Jfd [] m fun acc=>([],acc))=_
      rw[h2];rfl
  rw[gapE,show((n:Int) - (pos:Int)).toNat=m by omega,(key m acc).1,(key m acc).2];exact⟨rfl,rfl⟩
 | (i, c) :: E,m,P0,D0,acc,pos,hP,hD,hm,h=>by
   rw[okC]at h;rw[List.foldl_cons,gapE]
   by_cases hi:i<0
   . rw [if_pos hi]at h ⊢
     have e:Jds ⟨P0++acc :: List.replicate m [],D0++List.replicate m true,pos⟩ (i,c)=⟨P0++(acc++[c]) :: List.replicate m [],D0++List.replicate m true,pos⟩:=by
      unfold Jds;rw[if_pos hi]
      congr 1
      subst hP;simp
     rw[e];exact JhL n E m P0 D0 (acc++[c]) pos hP hD hm h
   . rw [if_neg hi]at h ⊢
     obtain⟨h1,h2,h3⟩:=h;obtain⟨j,rfl⟩:∃j:Nat,i=((pos+j:Nat):Int):=⟨(i - pos).toNat,by omega⟩;rw[show(((pos+j:Nat):Int) - (pos:Int)).toNat=j by omega];have hjn:pos+j<n:=by omega
     clear h1 h2 hi;revert P0 D0 acc pos
     induction j generalizing m with
     | zero =>
      intro P0 D0 acc pos hP hD hm h3 hjn;obtain⟨m,rfl⟩:∃k,m=k+1:=⟨m - 1,by omega⟩;have e:Jds ⟨P0++acc :: List.replicate (m+1) [],D0++List.replicate (m+1) true,pos⟩ (((pos+0:Nat):Int),c)=⟨(P0++[acc])++[] :: List.replicate m [],(D0++[false])++List.replicate m true,pos+1⟩:=by
       unfold Jds;rw[if_neg (by show ¬((pos+0:Nat):Int)<0;omega)];subst hD;simp[List.replicate_succ]
      rw[e];have:=JhL n E m (P0++[acc]) (D0++[false]) [] (pos+1) (by simp[hP]) (by simp[hD]) (by omega) (by rw[show(((pos+0:Nat):Int)+1)=((pos+1:Nat):Int) by omega]at h3;exact h3);rw[this.1,this.2];rw[show(((pos+0:Nat):Int)+1)=((pos+1:Nat):Int) by omega];simp[Jfd,JjC,Jhk]
     | succ j ih =>
      intro P0 D0 acc pos hP hD hm h3 hjn;obtain⟨m,rfl⟩:∃k,m=k+1:=⟨m - 1,by omega⟩;have e:Jds ⟨P0++acc :: List.replicate (m+1) [],D0++List.replicate (m+1) true,pos⟩ (((pos+(j+1):Nat):Int),c)=Jds ⟨(P0++[acc])++[] :: List.replicate m [],(D0++[true])++List.replicate m true,pos+1⟩ (((pos+1+j:Nat):Int),c):=by
       rw[show pos+(j+1)=pos+1+j by omega];unfold Jds;rw[if_neg (by show ¬((pos+1+j:Nat):Int)<0;omega),if_neg (by show ¬((pos+1+j:Nat):Int)<0;omega)];simp[List.replicate_succ]
      rw[e];have hx:pos+(j+1)=pos+1+j:=by omega
      have:=ih m (P0++[acc]) (D0++[true]) [] (pos+1) (by simp[hP]) (by simp[hD]) (by omega) (by rw[←hx];exact h3) (by omega);rw[this.1,this.2,hx];simp[Jfd,JjC,Jhk]
theorem JmC(n:Int)(E:List Cel)(pos:Int):∀u,okC n (putC u++E) pos↔okC n E pos
 | []=>Iff.rfl
 | c :: u=>by
  show okC n ((-1,c) :: (putC u++E)) pos↔_;rw[okC,if_pos (by decide)];exact JmC n E pos u
theorem JmD(n:Int):∀(E:List Cel)(a b:Int),a<=b->okC n E b->okC n E a
 | [],a,b,h,hk=>Int.le_trans h hk
 | (i,c) :: E,a,b,h,hk=>by
   rw[okC]at hk ⊢
   by_cases hi:i<0
   . rw[if_pos hi]at hk ⊢;exact JmD n E a b h hk
   . rw[if_neg hi]at hk ⊢;exact⟨by omega,hk.2⟩
theorem Jtm(n:Int):∀(E F:List Cel),List.Sublist F E->∀pos,okC n E pos->okC n F pos:=by
 intro E F h
 induction h with
 | slnil=>intro pos h;exact h
 | @cons F E x h ih =>
  intro pos hk;obtain⟨i,c⟩:=x;rw[okC]at hk
  by_cases hi:i<0
  . rw[if_pos hi]at hk;exact ih pos hk
  . rw[if_neg hi]at hk;exact JmD n F pos (i+1) (by omega) (ih _ hk.2.2)
 | @cons_cons F E x h ih =>
  intro pos hk;obtain⟨i,c⟩:=x;rw[okC]at hk ⊢
  by_cases hi:i<0
  . rw[if_pos hi]at hk ⊢;exact ih pos hk
  . rw[if_neg hi]at hk ⊢;exact⟨hk.1,hk.2.1,ih _ hk.2.2⟩
theorem Jqz(n:Int)(E:List Cel):∀(k:Nat)(pos:Int),0<=pos->pos+k<=n->okC n E (pos+k)->okC n (Jb5 pos k++E) pos
 | 0,pos,h0,hn,h=>by simpa[Jb5] using h
 | k+1,pos,h0,hn,h=>by
  show okC n ((pos,0) :: (Jb5 (pos+1) k++E)) pos;rw[okC,if_neg (by omega)];exact⟨by omega,by omega,Jqz n E k (pos+1) (by omega) (by omega) (by rw[show pos+1+(k:Int)=pos+(k+1:Nat) by omega];exact h)⟩
theorem Jqy(n:Int):∀(ps:List Pt)(pos:Int),(∀p∈ps,oneP p)->0<=pos->pos+Jag ps=n->okC n (midP pos ps) pos
 | [],pos,h,h0,hn=>by
  show pos<=n;simp[Jag]at hn;omega
 | p :: ps,pos,h,h0,hn=>by
  have hL:Jag (p :: ps)=lenP p+Jag ps:=by simp[Jag]
  have hnn:0<=Jag ps:=by
   have:=JbJ ps (Jak fun q hq=>h q (by simp[hq]));omega
  have h1:=Jak h p (by simp);unfold midP;have ih:=Jqy n ps (pos+p.keep+p.drop) (fun q hq=>h q (by simp[hq])) (by omega) (by rw[←hn,hL];unfold lenP;omega);unfold lenP at hL;refine Jqz n _ _ pos h0 (by omega) ?_;rw[JmC];exact JmD n _ _ _ (by omega) ih
theorem Jq0(n:Int):∀(ps:List Pt)(mid:List Cel)(pos:Int),(∀p∈ps,0<=p.keep/\0<=p.drop)->okC n mid pos->okC n (endP mid ps) pos:=by
 have key:∀(F:List Cel) (A:List Cel) (pos:Int),okC n (A++F) pos->∀G,(∀q,okC n F q->okC n G q)->okC n (A++G) pos:=by
  intro F A
  induction A with
  | nil=>intro pos h G hG;exact hG pos h
  | cons x A ih =>
   intro pos h G hG;obtain⟨i,c⟩:=x;rw[List.cons_append,okC]at h ⊢
   by_cases hi:i<0
   . rw[if_pos hi]at h ⊢;exact ih pos h G hG
   . rw[if_neg hi]at h ⊢;exact⟨h.1,h.2.1,ih _ h.2.2 G hG⟩
 intro ps
 induction ps with
 | nil =>
  intro mid pos _ h;exact Jtm n mid [] (List.nil_sublist _) pos h
 | cons p ps ih =>
  intro mid pos hps h;have hpp:=hps p (by simp);unfold endP;have h':okC n (mid.take p.keep.toNat++mid.drop p.keep.toNat) pos:=by rw[List.take_append_drop];exact h
  refine key _ _ pos h' _ fun q hq=>?_;rw[JmC];refine ih _ q (fun q hq=>hps q (by simp[hq])) (Jtm n _ _ ?_ q hq);have:mid.drop (p.keep+p.drop).toNat=(mid.drop p.keep.toNat).drop ((p.keep+p.drop).toNat - p.keep.toNat):=by rw[List.drop_drop];congr 1;omega
  rw[this];exact List.drop_sublist _ _
variable {la : Pt → Bool}
def Jc4 (la:Pt->Bool) (A:List Pt):Int:=(A.map fun p=>if la p then 0 else Jad p).sum
theorem Jde(la:Pt->Bool)(p:Pt)(A:List Pt):Jc4 la (p :: A)=(if la p then 0 else Jad p)+Jc4 la A:=by simp[Jc4]
theorem JmJ(la:Pt->Bool)(A B:List Pt):Jc4 la (A++B)=Jc4 la A+Jc4 la B:=by simp[Jc4]
theorem JfI(la:Pt->Bool):∀(A:List Pt),(∀p∈A,oneP p)->0<=Jc4 la A
 | [],_=>by simp[Jc4]
 | p :: A,h=>by
  have h1:=JaE (h p (by simp));have h2:=JfI la A fun q hq=>h q (by simp[hq]);rw[Jde]
  split<;>omega
def Jl3 (la:Pt->Bool):Prop:=∀p (n:Int),oneP p->la p=false->∀r∈(cutP p n).2,la r=false
theorem Jdx:Jl3 Jaf:=by
 intro p n hp hl r hr;have hu:p.put=[]:=by simpa[Jaf] using hl
 unfold cutP at hr
 split at hr
 . cases hr
 . split at hr
   . obtain rfl:=List.mem_singleton.1 hr;simp[Jaf,hu]
   . split at hr
     . obtain rfl:=List.mem_singleton.1 hr;simp[Jaf,hu]
     . obtain rfl:=List.mem_singleton.1 hr;simp[Jaf,hu]
theorem Jq7:Jl3 Ja8:=by
 intro p n hp hl r hr;have hu:¬0<p.drop:=by simpa[Ja8] using hl
 unfold cutP at hr
 split at hr
 . cases hr
 . split at hr
   . obtain rfl:=List.mem_singleton.1 hr;simpa[Ja8] using hu
   . obtain rfl:=List.mem_singleton.1 hr;simpa[Ja8] using hu
def okX (x:Pt×Pt):Prop:=(oneP x.1\/x.1=noP)/\(oneP x.2\/x.2=noP)
def Jho (l:List (Pt×Pt)):Int:=(l.map fun x=>Jad x.1+Jad x.2).sum
theorem JnN(hk:Jl3 la){p:Pt}(hp:oneP p)(hl:la p=false){n:Nat}(h0:0<n)(hn:(n:Int)<=Jad p)(A:List Pt):Jc4 la (p :: A)=n+Jc4 la ((cutP p n).2++A):=by
 rw[Jde,JmJ,if_neg (by rw[hl];simp)];obtain⟨c1,c2,c3,c4⟩:=Jff hp (n:=n) (by omega) hn;have hkk:=hk p n hp hl
 have hlen:(cutP p n).2.length<=1:=by
  unfold cutP
  split
  . simp
  . split
    . simp
    . split<;>simp
 generalize (cutP p n).2=R at *
 match R,hlen with
 | [],_=>have:=c4.1 rfl;simp[Jc4];omega
 | [r],_ =>
  have h1:=c3 r (by simp);have h2:=hkk r (by simp);simp only[Jc4,List.map_cons,List.map_nil,List.sum_cons,List.sum_nil,h2];simp;omega
theorem JhG{lb:Pt->Bool}(hka:Jl3 la)(hkb:Jl3 lb):∀(f:Nat)(A B:List Pt),(∀p∈A,oneP p/\Jad p<1000000000)->(∀p∈B,oneP p/\Jad p<1000000000)->Jc4 la A=Jc4 lb B->Jao A+Jao B<=f ->
    Side la lb A B (Ja5 la lb f A B)/\(∀x∈Ja5 la lb f A B,okX x)/\Jho (Ja5 la lb f A B)=Jao A+Jao B/\(Ja5 la lb f A B).length<=Jao A+Jao B:=by
 have hnil:∀(l:List Pt),(∀p∈l,oneP p/\Jad p<1000000000)->Jao l=0->l=[]:=by
  intro l hl hw
  cases l with
  | nil=>rfl
  | cons p l =>
   have:=JaE (hl p (by simp)).1;rw[Jay]at hw;omega
 have hlen0:Jad noP=0:=by simp[Jad,noP]
 have hw0:Jao []=0:=by simp[Jao]
 have hpw:∀x l,Jho (x :: l)=Jad x.1+Jad x.2+Jho l:=by intro x l;simp[Jho]
 intro f
 induction f with
 | zero =>
  intro A B ha hb _ hw;obtain rfl:=hnil A ha (by omega);obtain rfl:=hnil B hb (by omega);exact⟨.nil,by simp[Ja5],by simp[Ja5,Jho,Jao],by simp[Ja5]⟩
 | succ f ih =>
  intro A B ha hb hm hw
  cases A with
  | nil =>
   cases B with
   | nil=>exact⟨.nil,by simp[Ja5],by simp[Ja5,Jho,Jao],by simp[Ja5]⟩
   | cons q B =>
    have hq:=(hb q (by simp)).1;have hq0:=JaE hq;have hb':∀p∈B,oneP p/\Jad p<1000000000:=fun p hp=>hb p (by simp[hp]);have hn2:=JfI lb B fun p hp=>(hb' p hp).1;have hm':(0:Int)=Jc4 lb (q :: B):=hm;rw[Jde]at hm';have hl:lb q=true:=by
     cases h:lb q with
     | true=>rfl
     | false=>rw[h]at hm';simp at hm';omega
    rw[hl]at hm';have e:Ja5 la lb (f+1) [] (q :: B)=(noP,q) :: Ja5 la lb f [] B:=by rw[Ja5,if_pos hl]
    rw[Jay]at hw;obtain⟨i1,i2,i3,i4⟩:=ih [] B (by simp) hb' (by simpa[Jc4] using hm') (by omega);rw[e,Jay,hpw];refine⟨.last hl i1,?_,by simp only[hlen0];omega,by simp only[List.length_cons];omega⟩;intro x hx
    rcases List.mem_cons.1 hx with rfl|hx
    . exact⟨.inr rfl,.inl hq⟩
    . exact i2 x hx
  | cons p A =>
   have hp:=(ha p (by simp)).1;have hp0:=JaE hp;have ha':∀p∈A,oneP p/\Jad p<1000000000:=fun q hq=>ha q (by simp[hq])
   cases hl:la p with
   | true =>
    have e:Ja5 la lb (f+1) (p :: A) B=(p,noP) :: Ja5 la lb f A B:=by cases B<;>(rw[Ja5];rw[if_pos hl])
    rw[Jde,hl]at hm;rw[Jay]at hw;obtain⟨i1,i2,i3,i4⟩:=ih A B ha' hb (by simpa using hm) (by omega);rw[e,Jay,hpw];refine⟨.left hl i1,?_,by simp only[hlen0];omega,by simp only[List.length_cons];omega⟩;intro x hx
    rcases List.mem_cons.1 hx with rfl|hx
    . exact⟨.inl hp,.inr rfl⟩
    . exact i2 x hx
   | false =>
    have hn1:=JfI la A fun p hp=>(ha' p hp).1
    cases B with
    | nil =>
     rw[Jde,hl]at hm;simp[Jc4]at hm;unfold Jc4 at hn1;omega
    | cons q B =>
     have hq:=(hb q (by simp)).1;have hq0:=JaE hq;have hb':∀p∈B,oneP p/\Jad p<1000000000:=fun p hp=>hb p (by simp[hp])
     cases hlq:lb q with
     | true =>
      have e:Ja5 la lb (f+1) (p :: A) (q :: B)=(noP,q) :: Ja5 la lb f (p :: A) B:=by rw[Ja5,if_neg (by rw[hl];simp),if_pos hlq]
      rw[Jde lb,hlq]at hm;rw[Jay q]at hw;obtain⟨i1,i2,i3,i4⟩:=ih (p :: A) B ha hb' (by simpa using hm) (by omega);rw[e,Jay q,hpw];refine⟨.right hl hlq i1,?_,by simp only[hlen0];omega,by simp only[List.length_cons];omega⟩;intro x hx
      rcases List.mem_cons.1 hx with rfl|hx
      . exact⟨.inr rfl,.inl hq⟩
      . exact i2 x hx
     | false =>
      obtain⟨k,hk⟩:∃k:Nat,min (Jad p) (Jad q)=(k:Int):=⟨(min (Jad p) (Jad q)).toNat,by omega⟩;have e:Ja5 la lb (f+1) (p :: A) (q :: B)=((cutP p k).1,(cutP q k).1) :: Ja5 la lb f ((cutP p k).2++A) ((cutP q k).2++B):=by
       rw[Ja5,if_neg (by rw[hl];simp),if_neg (by rw[hlq];simp),hk]
      have k0:0<k:=by omega
      have kp:(k:Int)<=Jad p:=by omega
      have kq:(k:Int)<=Jad q:=by omega
      have w1:=(Jgt hp k0 kp A).1;have w2:=(Jgt hq k0 kq B).1;have m1:=JnN hka hp hl k0 kp A;have m2:=JnN hkb hq hlq k0 kq B;obtain⟨c1,c2,c3,_⟩:=Jff hp (n:=k) (by omega) kp;obtain⟨d1,d2,d3,_⟩:=Jff hq (n:=k) (by omega) kq;have bp:=(ha p (by simp)).2;have bq:=(hb q (by simp)).2;obtain ⟨i1,i2,i3,i4⟩:=ih ((cutP p k).2++A) ((cutP q k).2++B) (fun x hx=>by
       rcases List.mem_append.1 hx with hx|hx
       . exact⟨(c3 x hx).1,by rw[(c3 x hx).2];omega⟩
       . exact ha' x hx) (fun x hx=>by
       rcases List.mem_append.1 hx with hx|hx
       . exact⟨(d3 x hx).1,by rw[(d3 x hx).2];omega⟩
       . exact hb' x hx) (by omega) (by omega)
      rw[e,hpw];refine⟨.both k hl hlq hp hq k0 hk bp bq i1,?_,by simp only[c2,d2];omega,by simp only[List.length_cons];omega⟩;intro x hx
      rcases List.mem_cons.1 hx with rfl|hx
      . exact⟨.inl c1,.inl d1⟩
      . exact i2 x hx
def JkH (t:Pt×Pt->List Pt):Prop:=∀x,okX x->(t x).length<=1/\∀p∈t x,Jbc p/\wtP p<=Jad x.1+Jad x.2
theorem JgH{p:Pt}(h:oneP p\/p=noP):Jbc p/\wtP p=Jad p/\0<=Jad p/\(p.put.length:Int)<=Jad p:=by
 rcases h with h|rfl
 . have h1:=Jak (ps:=[p]) (by simpa using h) p (by simp)
   refine⟨h1,rfl,by have:=JaE h;omega,?_⟩;unfold Jad;omega
 . exact⟨⟨by simp[noP],by simp[noP]⟩,rfl,by simp[Jad,noP],by simp[Jad,noP]⟩
theorem JhC:JkH JbH:=by
 intro x ⟨h1,h2⟩;obtain⟨a1,a2,a3,a4⟩:=JgH h1;obtain⟨b1,b2,b3,b4⟩:=JgH h2;unfold JbH
 split
 . refine⟨by simp,fun p hp=>?_⟩
   obtain rfl:=List.mem_singleton.1 hp;refine⟨⟨by simp,by simp⟩,?_⟩;simp only[wtP,List.length_nil];omega
 . split
   . refine⟨by simp,fun p hp=>?_⟩
     obtain rfl:=List.mem_singleton.1 hp;exact⟨a1,by omega⟩
   . exact⟨by simp,by simp⟩
theorem JiO:JkH fun x=>JbH (x.2,x.1):=by
 intro x ⟨h1,h2⟩;have:=JhC (x.2,x.1) ⟨h2,h1⟩;exact⟨this.1,fun p hp=>⟨(this.2 p hp).1,by have:=(this.2 p hp).2;simp only at this;omega⟩⟩
theorem JpR:JkH Jbv:=by
 intro x ⟨h1,h2⟩;obtain⟨a1,a2,a3,a4⟩:=JgH h1;obtain⟨b1,b2,b3,b4⟩:=JgH h2;unfold Jbv
 split
 . refine⟨by simp,fun p hp=>?_⟩
   obtain rfl:=List.mem_singleton.1 hp;exact⟨a1,by omega⟩
 . split
   . refine⟨by simp,fun p hp=>?_⟩
     obtain rfl:=List.mem_singleton.1 hp;exact⟨b1,by omega⟩
   . exact⟨by simp,by simp⟩
theorem Jn0{t:Pt×Pt->List Pt}(ht:JkH t):∀(l:List (Pt×Pt)),(∀x∈l,okX x)->wts (l.flatMap t)<=Jho l
 | [],_=>by simp[wts,Jho]
 | x :: l,h=>by
  have ih:=Jn0 ht l fun y hy=>h y (by simp[hy]);obtain⟨h1,h2⟩:=ht x (h x (by simp));have hx:=h x (by simp);obtain⟨_,_,a3,_⟩:=JgH hx.1;obtain⟨_,_,b3,_⟩:=JgH hx.2;have e:Jho (x :: l)=Jad x.1+Jad x.2+Jho l:=by simp[Jho]
  have e2:wts (t x)<=Jad x.1+Jad x.2:=by
   generalize t x=L at *
   match L,h1 with
   | [],_=>simp[wts];omega
   | [p],_=>have:=(h2 p (by simp)).2;simpa[wts] using this
  rw[List.flatMap_cons,e];unfold wts at ih e2 ⊢;rw[List.map_append,List.sum_append];omega
theorem Jrx{t:Pt×Pt->List Pt}(ht:JkH t){l:List (Pt×Pt)}(h:∀x∈l,okX x)(hw:Jho l<1000000000)(hl:l.length<10000000):BdS t l nst0 0 0 :=
 ⟨bd0,by have:=Jn0 ht l h;omega,by omega,fun x hx p hp=>((ht x (h x hx)).2 p hp).1,fun x hx=>(ht x (h x hx)).1⟩
end
section
open Go.RowKit
attribute [local go_sem] Oper.semAt_some
variable {M a g1 g2 o c b : Nat}{bx : List (Nat × Obj)}{w W W' : World}{v2 v1 : Value}{p : Pt}{A B : List Pt}{s : NSt}
theorem sideI.tail1(h:sideI M a g1 g2 bx w (.slice (some ⟨g1,o,none⟩) (A.length+1) c) v2 (p :: A) B s W)(hb:Below W.heap.size W W') :
    sideI M a g1 g2 bx w (.slice (some ⟨g1,o+3,none⟩) A.length (c - 1)) v2 A B s W'/\(c=1->sideI M a g1 g2 bx w (.slice (some ⟨g1,o,none⟩) A.length 0) v2 A B s W'):=by
 obtain⟨h1,h2⟩:=Jh1 h.r1 hb;have hg:=h.grow hb;exact⟨⟨hg.below,hg.g,h1,hg.r2,hg.b⟩,fun hc=>⟨hg.below,hg.g,h2 hc,hg.r2,hg.b⟩⟩
theorem sideI.tail2(h:sideI M a g1 g2 bx w v1 (.slice (some ⟨g2,o,none⟩) (B.length+1) c) A (p :: B) s W)(hb:Below W.heap.size W W') :
    sideI M a g1 g2 bx w v1 (.slice (some ⟨g2,o+3,none⟩) B.length (c - 1)) A B s W'/\(c=1->sideI M a g1 g2 bx w v1 (.slice (some ⟨g2,o,none⟩) B.length 0) A B s W'):=by
 obtain⟨h1,h2⟩:=Jh1 h.r2 hb;have hg:=h.grow hb;exact⟨⟨hg.below,hg.g,hg.r1,h1,hg.b⟩,fun hc=>⟨hg.below,hg.g,hg.r1,h2 hc,hg.b⟩⟩
def sideR (la lb:Pt->Bool) (t:Pt×Pt->List Pt) (M a g1 g2:Nat) (bx:List (Nat×Obj)) (w:World) (S:NSt) (k:Nat) (u1 u2:Value) (W:World):Prop :=
 ∃A B l s T n,l.length=k/\Side la lb A B l/\sideI M a g1 g2 bx w u1 u2 A B s W/\BdS t l s T n/\runS t l s=S
theorem JcR{la lb:Pt->Bool}{t:Pt×Pt->List Pt}{S:NSt}{u1 u2:Value}{x:Pt×Pt}{l:List (Pt×Pt)}{T:Int}{n:Nat}
    (hS:Side la lb A B l) (hI:sideI M a g1 g2 bx w u1 u2 A B s W) (hB:BdS t (x :: l) s T n) (hR:runS t (x :: l) s=S) (hg:gath M W' a ((t x).foldl addP s)) (hb:BelowG M a W W') (ho:JgQ a g1 g2 bx) (h1:a+4<=g1) (h2:g1<M) (h3:a+4<=g2) (h4:g2<M) :
    sideR la lb t M a g1 g2 bx w S l.length u1 u2 W' :=
 ⟨A,B,l,_,_,_,rfl,hS,hI.took hb hg ho h1 h2 h3 h4,hB.tail,hR⟩
theorem box_set{w:World}{b:Nat}{y0 y1 y2:Value}{T:TypeId}(h:w.heap[b]?=some (.cells #[y0,y1,y2] T (0,0)))(x0 x1 x2:Value) :
    (((w.setCell ⟨b,0,none⟩ x0).setCell ⟨b,1,none⟩ x1).setCell ⟨b,2,none⟩ x2).heap[b]?=some (.cells #[x0,x1,x2] T (0,0)):=by
 simp[World.setCell,Array.getElem?_modify,h]
theorem JdD{k:Nat}{x0 x1 x2:Value}(h:k≠b):(((w.setCell ⟨b,0,none⟩ x0).setCell ⟨b,1,none⟩ x1).setCell ⟨b,2,none⟩ x2).heap[k]?=w.heap[k]?:=by
 rw[Below.heap_setCell _ _ _ _ (by show k≠b;exact h),Below.heap_setCell _ _ _ _ (by show k≠b;exact h),Below.heap_setCell _ _ _ _ (by show k≠b;exact h)]
theorem ButO.above3{g:Nat}(h:ButO g w W)(hb:w.heap.size<=b)(x0 x1 x2:Value):ButO g w (((W.setCell ⟨b,0,none⟩ x0).setCell ⟨b,1,none⟩ x1).setCell ⟨b,2,none⟩ x2) :=
 h.trans' (by simp) (fun k hk=>JdD (by omega)) ⟨rfl,rfl,rfl⟩
structure But2 (g1 g2:Nat) (w w':World):Prop where
 os:w'.os=w.os
 tape:w'.tape=w.tape
 output:w'.output=w.output
 size:w.heap.size<=w'.heap.size
 block:∀k,k<w.heap.size->k≠g1->k≠g2->w'.heap[k]?=w.heap[k]?
theorem But2.of1{w':World}(h:ButO g1 w w'):But2 g1 g2 w w':=⟨h.os,h.tape,h.output,h.size,fun k hk hg _=>h.block k hk hg⟩
theorem But2.cut2{a b c:World}(h:But2 g1 g2 a b)(k:ButO g2 b c):But2 g1 g2 a c :=
 ⟨k.os.trans h.os,k.tape.trans h.tape,k.output.trans h.output,Nat.le_trans h.size k.size,fun i hi hg1 hg2=>(k.block i (Nat.lt_of_lt_of_le hi h.size) hg2).trans (h.block i hi hg1 hg2)⟩
theorem But2.above3(h:But2 g1 g2 w W)(hb:w.heap.size<=b)(x0 x1 x2:Value):But2 g1 g2 w (((W.setCell ⟨b,0,none⟩ x0).setCell ⟨b,1,none⟩ x1).setCell ⟨b,2,none⟩ x2) :=
 ⟨h.os,h.tape,h.output,by simpa using h.size,fun k hk e1 e2=>(JdD (by omega)).trans (h.block k hk e1 e2)⟩
theorem sideI.both{v1' v2':Value}{A' B':List Pt}(h:sideI M a g1 g2 bx w v1 v2 A B s W)(hb:But2 g1 g2 W W')(ho:JgQ a g1 g2 bx)(h1:a+4<=g1)(h2:g1<M)(h3:a+4<=g2)(h4:g2<M)(r1:winP W' g1 v1' A')(r2:winP W' g2 v2' B') :
    sideI M a g1 g2 bx w v1' v2' A' B' s W':=by
 have hM:=h.g.le;have hT:=h.g.top;have hlt:=Jb7 h.g;have hbl:Below (a+4) W W':=⟨hb.os,hb.tape,hb.output,hb.size,fun k hk=>hb.block k (by omega) (by omega) (by omega)⟩;have own:∀{e size n:Nat} {v:Value} {xs:List Value},W.ownsRow M e size v n xs->W'.ownsRow M e size v n xs:=by
  intro e size n v xs h;obtain⟨h0,hrow⟩:=h;refine⟨h0,?_⟩
  rcases hrow with hx|⟨g',cap,cur,rfl,hg,hgg,rest⟩
  . exact .inl hx
  . exact .inr ⟨g',cap,cur,rfl,hg,(hb.block g' (Jav hgg) (by omega) (by omega)).trans hgg,rest⟩
 refine⟨h.below.trans (hbl.mono (by omega)),?_,r1,r2,fun x hx=>(hb.block _ (Jav (h.b x hx)) (ho x hx).2.1 (ho x hx).2.2.1).trans (h.b x hx)⟩;obtain⟨⟨p,c,h1,h2⟩,h3,⟨p',c',h4,h5⟩,h6,h7,h8,h9⟩:=h.g
 exact ⟨⟨p,c,(hbl.cell (p:=⟨a,0,none⟩) (by show a<a+4;omega)).trans h1,own h2⟩,(hbl.frozen (p:=⟨a,0,none⟩) (by show a<a+4;omega)).trans h3,
  ⟨p',c',(hbl.cell (p:=⟨a+1,0,none⟩) (by show a+1<a+4;omega)).trans h4,own h5⟩,(hbl.frozen (p:=⟨a+1,0,none⟩) (by show a+1<a+4;omega)).trans h6,
  (hbl.cell (p:=⟨a+2,0,none⟩) (by show a+2<a+4;omega)).trans h7,(hbl.frozen (p:=⟨a+2,0,none⟩) (by show a+2<a+4;omega)).trans h8,(hbl.cell (p:=⟨a+3,0,none⟩) (by show a+3<a+4;omega)).trans h9,hM,Nat.le_trans hT hb.size⟩
end
section
open Go.RowKit
attribute [local go_sem] Oper.semAt_some
theorem JjF(fL fR fT:FuncId)(la lb:Pt->Bool)(t:Pt×Pt->List Pt)(M a g1 g2 β:Nat)(bx:List (Nat×Obj))(v1 v2:Value)(A0 B0:List Pt)(l0:List (Pt×Pt))(s0:NSt)(w:World){T0:Int}{n0:Nat}(hI0:sideI M a g1 g2 bx w v1 v2 A0 B0 s0 w)(hS0:Side la lb A0 B0 l0)(hB0:BdS t l0 s0 T0 n0)(ho0:JgQ a g1 g2 bx)(h1:a+4<=g1)(h2:g1<M)(h3:a+4<=g2)(h4:g2<M)(hne0:g1≠g2)
    (cT0:∀(s:NSt) (x:Pt×Pt) (T:Int) (n:Nat) (W:World),gath M W a s->Jgx bx W->Bd s T n->(∀p∈t x,Jbc p)->T+wts (t x)<1000000000->n<10000000->Calls Tryz.prog fT #[JaO x.1,JaO x.2,.pointer (some ⟨β,0,none⟩)] W (Jep M a s (t x) W))
    (eL0:∀(xs:Array Value) (wx:World),Sem.run Tryz.prog (callFunc fL xs) wx=Sem.run Tryz.prog (pure (.enter fL xs)) wx) (eR0:∀(xs:Array Value) (wx:World),Sem.run Tryz.prog (callFunc fR xs) wx=Sem.run Tryz.prog (pure (.enter fR xs)) wx) (eT0:∀(xs:Array Value) (wx:World),Sem.run Tryz.prog (callFunc fT xs) wx=Sem.run Tryz.prog (pure (.enter fT xs)) wx)
    (cA0:∀(p:Pt) (wx:World),Calls Tryz.prog fL #[JaO p] wx fun e w'=>e=.returned (.bool (la p))/\Below wx.heap.size wx w')
    (cB0:∀(p:Pt) (wx:World),Calls Tryz.prog fR #[JaO p] wx fun e w'=>e=.returned (.bool (lb p))/\Below wx.heap.size wx w') :
    Calls Tryz.prog 223 #[v1,v2,.func (.func fL) #[] #[],.func (.func fR) #[] #[],.func (.func fT) #[] #[.pointer (some ⟨β,0,none⟩)]] w fun e w'=>(∃v,e=.returned v)/\gath M w' a (runS t l0 s0)/\Jgx bx w'/\Below a w w':=by
 obtain⟨S,hS⟩:∃S,runS t l0 s0=S:=⟨_,rfl⟩;rw[hS];have eL:=hdz eL0;have eR:=hdz eR0;have eT:=hdz eT0;have cA:=hdz cA0;have cB:=hdz cB0;have cT:Hid (∀(s:NSt) (x:Pt×Pt) (T:Int) (n:Nat) (l:List (Pt×Pt)) (W:World),gath M W a s->Jgx bx W->BdS t (x :: l) s T n->Calls Tryz.prog fT #[JaO x.1,JaO x.2,.pointer (some ⟨β,0,none⟩)] W (Jep M a s (t x) W)):=fun s x T n l W hg hb hB=>cT0 s x T n W hg hb hB.bd hB.head.1 hB.head.2.1 hB.head.2.2;have hst:sideR la lb t M a g1 g2 bx w S l0.length v1 v2 w:=⟨A0,B0,l0,s0,T0,n0,rfl,hS0,hI0,hB0,hS⟩;have HST:=hdz hst;have HO:=hdz ho0;have HNE:=hdz hne0;clear eL0 eR0 eT0 cA0 cB0 cT0 hI0 hS0 hB0 ho0 hS hst hne0
 go_enter Tryz.func223,Tryz.ntmps223
 go_wp2
 go_loopg [0,1] l0.length (fun k u1 u2 wr=>sideR la lb t M a g1 g2 bx w S k u1 u2 wr)
 case atStart=>exact HST.out
 case round =>
  obtain⟨A,B,l,s,T,n,hk,hSd,hI,hB,hR⟩:=hrel;have hwz:=hI.below.size;have HK:=hdz hk;have HI:=hdz hI;have HB:=hdz hB;have HR:=hdz hR;clear HST;clear hk hB hR
  cases hSd with
  | nil =>
   obtain⟨p1,c1,rfl,_,_,_⟩:=hI.r1;obtain⟨p2,c2,rfl,_,_,_⟩:=hI.r2;clear hI;go_wp2;go_end0;have hx:=HI.out;exact⟨⟨_,rfl⟩,by rw[←HR.out];exact hx.g,hx.b,hx.below⟩
  | left =>
   rename_i p A l hl hS'
   obtain⟨o,c,rfl,e1,e2,eg,e3,k0,k1,k2⟩:=Jck hI.r1;obtain⟨p2,c2,rfl,_,_,_⟩:=hI.r2;have cL:Hid (∀wx,Calls Tryz.prog fL #[JaO p] wx fun e w'=>e=.returned (.bool true)/\Below wx.heap.size wx w'):=fun wx=>by
    have:=cA.out p wx;rw[hl]at this;exact this
   have CT:Hid (∀W',Below wr.heap.size wr W'->Calls Tryz.prog fT #[JaO (p,noP).1,JaO (p,noP).2,.pointer (some ⟨β,0,none⟩)] W' (Jep M a s (t (p,noP)) W')):=fun W' hb=>cT.out s (p,noP) T n l W' (HI.out.grow hb).g (HI.out.grow hb).b HB.out;have HS:=hdz hS';have HT:Hid (∀W',Below wr.heap.size wr W'->_/\_):=fun W' hb=>sideI.tail1 HI.out hb;obtain⟨K,D,U⟩:=p;simp only at k0 k1 k2;have HKC:Hid (wr.cell? ⟨g1,o,none⟩=some (.int .i64 K)/\wr.cell? ⟨g1,o+1,none⟩=some (.int .i64 D)/\wr.cell? ⟨g1,o+2,none⟩=some (.string ⟨U.toArray⟩)):=⟨k0,k1,k2⟩;have HEG:=hdz eg;have hi0:(0:Int)<(A.length:Int)+1:=by omega
   have hi1:(1:Int)<=(A.length:Int)+1:=by omega
   unfold noP at CT;unfold JaO at cL CT;clear hI hS' hl;go_wp2;rw[eL.out];go_simp;refine(cL.out _).mono ?_;rintro e w1 ⟨rfl,hb1⟩;obtain⟨b1,b2,b3⟩:=Jbt hb1;have HR1:=hdz b1;have HP1:=hdz b2;have HB1:=hdz b3;clear b1 b2 b3 hb1;have r0:=ce HR1.out 0 rfl;have r1:=ce HR1.out 1 rfl;have r2:=ce HR1.out 2 rfl;have rF0:=fz HR1.out 0;have rF1:=fz HR1.out 1;have rF2:=fz HR1.out 2;have q0:=ce HP1.out 0 rfl;have q1:=ce HP1.out 1 rfl;have q2:=ce HP1.out 2 rfl;have qF0:=fz HP1.out 0;have qF1:=fz HP1.out 1;have qF2:=fz HP1.out 2;have x0:w1.cell? ⟨g1,o,none⟩=some (.int .i64 K):=(HB1.out.cell HEG.out).trans HKC.out.1;have x1:w1.cell? ⟨g1,o+1,none⟩=some (.int .i64 D):=(HB1.out.cell HEG.out).trans HKC.out.2.1;have x2:w1.cell? ⟨g1,o+2,none⟩=some (.string ⟨U.toArray⟩):=(HB1.out.cell HEG.out).trans HKC.out.2.2;go_wp2;obtain⟨s0,s1,s2,hsz,hoth⟩:=Jeq r0 r1 r2 (.int .i64 K) (.int .i64 D) (.string ⟨U.toArray⟩)
   go_region
   all_goals go_wp2
   all_goals (rw[eT.out];go_simp;have HBW:Hid (Below wr.heap.size wr _):=((((HB1.out.setCell (p:=⟨wr.heap.size,0,none⟩) (nlr _) (.int .i64 K)).setCell (p:=⟨wr.heap.size,1,none⟩) (nlr _) (.int .i64 D)).setCell (p:=⟨wr.heap.size,2,none⟩) (nlr _) (.string ⟨U.toArray⟩)).drew);refine(CT.out _ HBW.out).mono ?_;rintro e w5 ⟨⟨v5,rfl⟩,hg5,hb5⟩;go_wp2)
   . have hc1:c=1:=by assumption
     subst hc1
     go_roundg l.length
     case measure=>have:=HK.out;simp only[List.length_cons]at this;omega
     case rel=>exact JcR HS.out ((HT.out _ HBW.out).2 rfl) HB.out HR.out hg5 hb5 HO.out h1 h2 h3 h4
   . go_roundg l.length
     case measure=>have:=HK.out;simp only[List.length_cons]at this;omega
     case rel=>exact JcR HS.out (HT.out _ HBW.out).1 HB.out HR.out hg5 hb5 HO.out h1 h2 h3 h4
  | last =>
   rename_i p B l hl hS'
   obtain⟨p2,c2,rfl,_,_,_⟩:=hI.r1;obtain⟨o,c,rfl,e1,e2,eg,e3,k0,k1,k2⟩:=Jck hI.r2;have cL:Hid (∀wx,Calls Tryz.prog fR #[JaO p] wx fun e w'=>e=.returned (.bool true)/\Below wx.heap.size wx w'):=fun wx=>by
    have:=cB.out p wx;rw[hl]at this;exact this
   have CT:Hid (∀W',Below wr.heap.size wr W'->Calls Tryz.prog fT #[JaO (noP,p).1,JaO (noP,p).2,.pointer (some ⟨β,0,none⟩)] W' (Jep M a s (t (noP,p)) W')):=fun W' hb=>cT.out s (noP,p) T n l W' (HI.out.grow hb).g (HI.out.grow hb).b HB.out;have HS:=hdz hS';have HT:Hid (∀W',Below wr.heap.size wr W'->_/\_):=fun W' hb=>sideI.tail2 HI.out hb;obtain⟨K,D,U⟩:=p;simp only at k0 k1 k2;have HKC:Hid (wr.cell? ⟨g2,o,none⟩=some (.int .i64 K)/\wr.cell? ⟨g2,o+1,none⟩=some (.int .i64 D)/\wr.cell? ⟨g2,o+2,none⟩=some (.string ⟨U.toArray⟩)):=⟨k0,k1,k2⟩;have HEG:=hdz eg;have hi0:(0:Int)<(B.length:Int)+1:=by omega
   have hi1:(1:Int)<=(B.length:Int)+1:=by omega
   unfold noP at CT;unfold JaO at cL CT;clear hI hS' hl;go_wp2;rw[eR.out];go_simp;refine(cL.out _).mono ?_;rintro e w1 ⟨rfl,hb1⟩;obtain⟨b1,b2,b3⟩:=Jbt hb1;have HR1:=hdz b1;have HP1:=hdz b2;have HB1:=hdz b3;clear b1 b2 b3 hb1;have r0:=ce HR1.out 0 rfl;have r1:=ce HR1.out 1 rfl;have r2:=ce HR1.out 2 rfl;have rF0:=fz HR1.out 0;have rF1:=fz HR1.out 1;have rF2:=fz HR1.out 2;have q0:=ce HP1.out 0 rfl;have q1:=ce HP1.out 1 rfl;have q2:=ce HP1.out 2 rfl;have qF0:=fz HP1.out 0;have qF1:=fz HP1.out 1;have qF2:=fz HP1.out 2;have x0:w1.cell? ⟨g2,o,none⟩=some (.int .i64 K):=(HB1.out.cell HEG.out).trans HKC.out.1;have x1:w1.cell? ⟨g2,o+1,none⟩=some (.int .i64 D):=(HB1.out.cell HEG.out).trans HKC.out.2.1;have x2:w1.cell? ⟨g2,o+2,none⟩=some (.string ⟨U.toArray⟩):=(HB1.out.cell HEG.out).trans HKC.out.2.2;go_wp2;obtain⟨s0,s1,s2,hsz,hoth⟩:=Jeq q0 q1 q2 (.int .i64 K) (.int .i64 D) (.string ⟨U.toArray⟩)
   go_region
   all_goals go_wp2
   all_goals (rw[eT.out];go_simp;have HBW:Hid (Below wr.heap.size wr _):=((((HB1.out.setCell (p:=⟨wr.heap.size+1,0,none⟩) (Nat.le_succ _) (.int .i64 K)).setCell (p:=⟨wr.heap.size+1,1,none⟩) (Nat.le_succ _) (.int .i64 D)).setCell (p:=⟨wr.heap.size+1,2,none⟩) (Nat.le_succ _) (.string ⟨U.toArray⟩)).drew);refine(CT.out _ HBW.out).mono ?_;rintro e w5 ⟨⟨v5,rfl⟩,hg5,hb5⟩;go_wp2)
   . have hc1:c=1:=by assumption
     subst hc1
     go_roundg l.length
     case measure=>have:=HK.out;simp only[List.length_cons]at this;omega
     case rel=>exact JcR HS.out ((HT.out _ HBW.out).2 rfl) HB.out HR.out hg5 hb5 HO.out h1 h2 h3 h4
   . go_roundg l.length
     case measure=>have:=HK.out;simp only[List.length_cons]at this;omega
     case rel=>exact JcR HS.out (HT.out _ HBW.out).1 HB.out HR.out hg5 hb5 HO.out h1 h2 h3 h4
  | right =>
   rename_i pa p A B l hla hl hS'
   obtain⟨oa,ca,rfl,ea1,ea2,eag,ea3,ka0,ka1,ka2⟩:=Jck hI.r1;obtain⟨o,c,rfl,e1,e2,eg,e3,k0,k1,k2⟩:=Jck hI.r2;have cLA:Hid (∀wx,Calls Tryz.prog fL #[JaO pa] wx fun e w'=>e=.returned (.bool false)/\Below wx.heap.size wx w'):=fun wx=>by
    have:=cA.out pa wx;rw[hla]at this;exact this
   have cL:Hid (∀wx,Calls Tryz.prog fR #[JaO p] wx fun e w'=>e=.returned (.bool true)/\Below wx.heap.size wx w'):=fun wx=>by
    have:=cB.out p wx;rw[hl]at this;exact this
   have CT:Hid (∀W',Below wr.heap.size wr W'->Calls Tryz.prog fT #[JaO (noP,p).1,JaO (noP,p).2,.pointer (some ⟨β,0,none⟩)] W' (Jep M a s (t (noP,p)) W')):=fun W' hb=>cT.out s (noP,p) T n l W' (HI.out.grow hb).g (HI.out.grow hb).b HB.out;have HS:=hdz hS';have HT:Hid (∀W',Below wr.heap.size wr W'->_/\_):=fun W' hb=>sideI.tail2 HI.out hb;obtain⟨KA,DA,UA⟩:=pa;simp only at ka0 ka1 ka2;have HKA:Hid (wr.cell? ⟨g1,oa,none⟩=some (.int .i64 KA)/\wr.cell? ⟨g1,oa+1,none⟩=some (.int .i64 DA)/\wr.cell? ⟨g1,oa+2,none⟩=some (.string ⟨UA.toArray⟩)):=⟨ka0,ka1,ka2⟩;have hia:(0:Int)<(A.length:Int)+1:=by omega
   unfold JaO at cLA;obtain⟨K,D,U⟩:=p;simp only at k0 k1 k2;have HKC:Hid (wr.cell? ⟨g2,o,none⟩=some (.int .i64 K)/\wr.cell? ⟨g2,o+1,none⟩=some (.int .i64 D)/\wr.cell? ⟨g2,o+2,none⟩=some (.string ⟨U.toArray⟩)):=⟨k0,k1,k2⟩;have HEG:=hdz eg;have hi0:(0:Int)<(B.length:Int)+1:=by omega
   have hi1:(1:Int)<=(B.length:Int)+1:=by omega
   unfold noP at CT;unfold JaO at cL CT;clear hI hS' hl hla;go_wp2;rw[eL.out];go_simp;refine(cLA.out _).mono ?_;rintro e w1 ⟨rfl,hb1⟩;obtain⟨b1,b2,b3⟩:=Jbt hb1;have HR1:=hdz b1;have HP1:=hdz b2;have HB1:=hdz b3;clear b1 b2 b3 hb1;have x0:w1.cell? ⟨g2,o,none⟩=some (.int .i64 K):=(HB1.out.cell HEG.out).trans HKC.out.1;have x1:w1.cell? ⟨g2,o+1,none⟩=some (.int .i64 D):=(HB1.out.cell HEG.out).trans HKC.out.2.1;have x2:w1.cell? ⟨g2,o+2,none⟩=some (.string ⟨U.toArray⟩):=(HB1.out.cell HEG.out).trans HKC.out.2.2;go_wp2;rw[eR.out];go_simp;have _:=HB1;refine(cL.out _).mono ?_;rintro e w2 ⟨rfl,hb2⟩;have HR2:Hid (w2.heap[wr.heap.size]?=some (.cells #[.int .i64 0,.int .i64 0,.string ⟨#[]⟩] 50 (0,0))):=(hb2.block _ (Jav HR1.out)).trans HR1.out;have HP2:Hid (w2.heap[wr.heap.size+1]?=some (.cells #[.int .i64 0,.int .i64 0,.string ⟨#[]⟩] 50 (0,0))):=(hb2.block _ (Jav HP1.out)).trans HP1.out;have HB2:=hdz (HB1.out.trans (hb2.mono HB1.out.size));clear hb2;have r0:=ce HR2.out 0 rfl;have r1:=ce HR2.out 1 rfl;have r2:=ce HR2.out 2 rfl;have rF0:=fz HR2.out 0;have rF1:=fz HR2.out 1;have rF2:=fz HR2.out 2;have q0:=ce HP2.out 0 rfl;have q1:=ce HP2.out 1 rfl;have q2:=ce HP2.out 2 rfl;have qF0:=fz HP2.out 0;have qF1:=fz HP2.out 1;have qF2:=fz HP2.out 2;have x0:w2.cell? ⟨g2,o,none⟩=some (.int .i64 K):=(HB2.out.cell HEG.out).trans HKC.out.1;have x1:w2.cell? ⟨g2,o+1,none⟩=some (.int .i64 D):=(HB2.out.cell HEG.out).trans HKC.out.2.1;have x2:w2.cell? ⟨g2,o+2,none⟩=some (.string ⟨U.toArray⟩):=(HB2.out.cell HEG.out).trans HKC.out.2.2;go_wp2;obtain⟨s0,s1,s2,hsz,hoth⟩:=Jeq q0 q1 q2 (.int .i64 K) (.int .i64 D) (.string ⟨U.toArray⟩)
   go_region
   all_goals go_wp2
   all_goals (rw[eT.out];go_simp;have HBW:Hid (Below wr.heap.size wr _):=((((HB2.out.setCell (p:=⟨wr.heap.size+1,0,none⟩) (Nat.le_succ _) (.int .i64 K)).setCell (p:=⟨wr.heap.size+1,1,none⟩) (Nat.le_succ _) (.int .i64 D)).setCell (p:=⟨wr.heap.size+1,2,none⟩) (Nat.le_succ _) (.string ⟨U.toArray⟩)).drew);refine(CT.out _ HBW.out).mono ?_;rintro e w5 ⟨⟨v5,rfl⟩,hg5,hb5⟩;go_wp2)
   . have hc1:c=1:=by assumption
     subst hc1
     go_roundg l.length
     case measure=>have:=HK.out;simp only[List.length_cons]at this;omega
     case rel=>exact JcR HS.out ((HT.out _ HBW.out).2 rfl) HB.out HR.out hg5 hb5 HO.out h1 h2 h3 h4
   . go_roundg l.length
     case measure=>have:=HK.out;simp only[List.length_cons]at this;omega
     case rel=>exact JcR HS.out (HT.out _ HBW.out).1 HB.out HR.out hg5 hb5 HO.out h1 h2 h3 h4
  | both =>
   rename_i p q A B l m hla hlb o1 o2 m0 hm b1 b2 hS'
   obtain⟨oa,ca,rfl,ea1,ea2,eag,ea3,ka0,ka1,ka2⟩:=Jck hI.r1;obtain⟨ob,cb,rfl,eb1,eb2,ebg,eb3,kb0,kb1,kb2⟩:=Jck hI.r2;have hlp:=JaE o1;have hlq:=JaE o2;have cLA:Hid (∀wx,Calls Tryz.prog fL #[JaO p] wx fun e w'=>e=.returned (.bool false)/\Below wx.heap.size wx w'):=fun wx=>by
    have:=cA.out p wx;rw[hla]at this;exact this
   have cLB:Hid (∀wx,Calls Tryz.prog fR #[JaO q] wx fun e w'=>e=.returned (.bool false)/\Below wx.heap.size wx w'):=fun wx=>by
    have:=cB.out q wx;rw[hlb]at this;exact this
   have cNP:Hid (∀wx,Calls Tryz.prog 267 #[JaO p] wx fun e w'=>e=.returned (.int .i64 (Jad p))/\Below wx.heap.size wx w'):=fun wx=>Jd6 p wx (by rcases o1 with ⟨h1,h2,h3⟩|⟨h1,h2,h3⟩|⟨h1,h2,h3⟩<;>exact⟨by omega,by omega⟩) (by unfold Jad at b1;omega);have cNQ:Hid (∀wx,Calls Tryz.prog 267 #[JaO q] wx fun e w'=>e=.returned (.int .i64 (Jad q))/\Below wx.heap.size wx w'):=fun wx=>Jd6 q wx (by rcases o2 with ⟨h1,h2,h3⟩|⟨h1,h2,h3⟩|⟨h1,h2,h3⟩<;>exact⟨by omega,by omega⟩) (by unfold Jad at b2;omega);have CC1:Hid (∀W',winP W' g1 (.slice (some ⟨g1,oa,none⟩) (A.length+1) ca) (p :: A)->Calls Tryz.prog 268 #[.slice (some ⟨g1,oa,none⟩) (A.length+1) ca,.int .i64 m] W' fun e w'=>∃v',e=.returned (.tuple #[JaO (cutP p m).1,v'])/\winP w' g1 v' ((cutP p m).2++A)/\ButO g1 W' w'):=fun W' h=>Jrj g1 _ p A m W' h o1 m0 (by omega) b1;have CC2:Hid (∀W',winP W' g2 (.slice (some ⟨g2,ob,none⟩) (B.length+1) cb) (q :: B)->Calls Tryz.prog 268 #[.slice (some ⟨g2,ob,none⟩) (B.length+1) cb,.int .i64 m] W' fun e w'=>∃v',e=.returned (.tuple #[JaO (cutP q m).1,v'])/\winP w' g2 v' ((cutP q m).2++B)/\ButO g2 W' w'):=fun W' h=>Jrj g2 _ q B m W' h o2 m0 (by omega) b2;have CT:Hid (∀W',gath M W' a s->Jgx bx W'->Calls Tryz.prog fT #[JaO (cutP p m).1,JaO (cutP q m).1,.pointer (some ⟨β,0,none⟩)] W' (Jep M a s (t ((cutP p m).1,(cutP q m).1)) W')):=fun W' hg hb=>cT.out s ((cutP p m).1,(cutP q m).1) T n l W' hg hb HB.out;have HS:=hdz hS';have hm1:(m:Int)<1000000000:=by omega
   clear hS' hla hlb o1 o2 hlp hlq b1 b2;generalize Jad p=LP at *;generalize Jad q=LQ at *;obtain⟨R1,hR1⟩:∃R,(cutP p m).2++A=R:=⟨_,rfl⟩;obtain⟨R2,hR2⟩:∃R,(cutP q m).2++B=R:=⟨_,rfl⟩;obtain⟨x1,hx1⟩:∃x,(cutP p m).1=x:=⟨_,rfl⟩;obtain⟨x2,hx2⟩:∃x,(cutP q m).1=x:=⟨_,rfl⟩;rw[hR1,hx1]at CC1;rw[hR2,hx2]at CC2;rw[hx1,hx2]at CT HB HR;rw[hR1,hR2]at HS;rw[hx1,hx2]at HK;clear hR1 hR2 hx1 hx2;obtain⟨K1,D1,U1⟩:=x1;obtain⟨K2,D2,U2⟩:=x2;have HW1:=hdz hI.r1;have HW2:=hdz hI.r2;have HEG1:=hdz eag;have HEG2:=hdz ebg;obtain⟨KA,DA,UA⟩:=p;obtain⟨KB,DB,UB⟩:=q;simp only at ka0 ka1 ka2 kb0 kb1 kb2;have HKA:Hid (wr.cell? ⟨g1,oa,none⟩=some (.int .i64 KA)/\wr.cell? ⟨g1,oa+1,none⟩=some (.int .i64 DA)/\wr.cell? ⟨g1,oa+2,none⟩=some (.string ⟨UA.toArray⟩)):=⟨ka0,ka1,ka2⟩;have HKB:Hid (wr.cell? ⟨g2,ob,none⟩=some (.int .i64 KB)/\wr.cell? ⟨g2,ob+1,none⟩=some (.int .i64 DB)/\wr.cell? ⟨g2,ob+2,none⟩=some (.string ⟨UB.toArray⟩)):=⟨kb0,kb1,kb2⟩;have hia:(0:Int)<(A.length:Int)+1:=by omega
   have hib:(0:Int)<(B.length:Int)+1:=by omega
   unfold JaO at cLA cLB cNP cNQ CC1 CC2 CT;clear hI ea3 eb3;go_wp2;rw[eL.out];go_simp;refine(cLA.out _).mono ?_;rintro e w1 ⟨rfl,hb1⟩;obtain⟨y1,y2,y3⟩:=Jbt hb1;have HR1:=hdz y1;have HP1:=hdz y2;have HB1:=hdz y3;clear y1 y2 y3 hb1;have xb0:w1.cell? ⟨g2,ob,none⟩=some (.int .i64 KB):=(HB1.out.cell HEG2.out).trans HKB.out.1;have xb1:w1.cell? ⟨g2,ob+1,none⟩=some (.int .i64 DB):=(HB1.out.cell HEG2.out).trans HKB.out.2.1;have xb2:w1.cell? ⟨g2,ob+2,none⟩=some (.string ⟨UB.toArray⟩):=(HB1.out.cell HEG2.out).trans HKB.out.2.2;go_wp2;rw[eR.out];go_simp;have _:=HB1;refine(cLB.out _).mono ?_;rintro e w2 ⟨rfl,hb2⟩;have HR2:Hid (w2.heap[wr.heap.size]?=some (.cells #[.int .i64 0,.int .i64 0,.string ⟨#[]⟩] 50 (0,0))):=(hb2.block _ (Jav HR1.out)).trans HR1.out;have HP2:Hid (w2.heap[wr.heap.size+1]?=some (.cells #[.int .i64 0,.int .i64 0,.string ⟨#[]⟩] 50 (0,0))):=(hb2.block _ (Jav HP1.out)).trans HP1.out;have HB2:=hdz (HB1.out.trans (hb2.mono HB1.out.size));clear hb2;have xa0:w2.cell? ⟨g1,oa,none⟩=some (.int .i64 KA):=(HB2.out.cell HEG1.out).trans HKA.out.1;have xa1:w2.cell? ⟨g1,oa+1,none⟩=some (.int .i64 DA):=(HB2.out.cell HEG1.out).trans HKA.out.2.1;have xa2:w2.cell? ⟨g1,oa+2,none⟩=some (.string ⟨UA.toArray⟩):=(HB2.out.cell HEG1.out).trans HKA.out.2.2;have xc0:w2.cell? ⟨g2,ob,none⟩=some (.int .i64 KB):=(HB2.out.cell HEG2.out).trans HKB.out.1;have xc1:w2.cell? ⟨g2,ob+1,none⟩=some (.int .i64 DB):=(HB2.out.cell HEG2.out).trans HKB.out.2.1;have xc2:w2.cell? ⟨g2,ob+2,none⟩=some (.string ⟨UB.toArray⟩):=(HB2.out.cell HEG2.out).trans HKB.out.2.2;go_wp2
   go_region_with (first
    | (have _:=HB3;go_at_call 267;refine(cNQ.out _).mono ?_;rintro e w4 ⟨rfl,hb4⟩;have HR4:Hid (w4.heap[wr.heap.size]?=some (.cells #[.int .i64 0,.int .i64 0,.string ⟨#[]⟩] 50 (0,0))):=(hb4.block _ (Jav HR3.out)).trans HR3.out;have HP4:Hid (w4.heap[wr.heap.size+1]?=some (.cells #[.int .i64 0,.int .i64 0,.string ⟨#[]⟩] 50 (0,0))):=(hb4.block _ (Jav HP3.out)).trans HP3.out;have HB4:=hdz (HB3.out.trans (hb4.mono HB3.out.size));clear hb4)
    | (have _:=HB2;go_at_call 267;refine(cNP.out _).mono ?_;rintro e w3 ⟨rfl,hb3⟩;have HR3:Hid (w3.heap[wr.heap.size]?=some (.cells #[.int .i64 0,.int .i64 0,.string ⟨#[]⟩] 50 (0,0))):=(hb3.block _ (Jav HR2.out)).trans HR2.out;have HP3:Hid (w3.heap[wr.heap.size+1]?=some (.cells #[.int .i64 0,.int .i64 0,.string ⟨#[]⟩] 50 (0,0))):=(hb3.block _ (Jav HP2.out)).trans HP2.out;have HB3:=hdz (HB2.out.drew.trans (hb3.mono HB2.out.size));clear hb3;have xd0:w3.cell? ⟨g2,ob,none⟩=some (.int .i64 KB):=(HB3.out.cell HEG2.out).trans HKB.out.1;have xd1:w3.cell? ⟨g2,ob+1,none⟩=some (.int .i64 DB):=(HB3.out.cell HEG2.out).trans HKB.out.2.1;have xd2:w3.cell? ⟨g2,ob+2,none⟩=some (.string ⟨UB.toArray⟩):=(HB3.out.cell HEG2.out).trans HKB.out.2.2))
   all_goals (
    go_wp2_with (first
     | (have _:=HT5;go_at_call 268;have HT6:Hid (ButO g1 wr (((w5.setCell ⟨wr.heap.size,0,none⟩ (.int .i64 K1)).setCell ⟨wr.heap.size,1,none⟩ (.int .i64 D1)).setCell ⟨wr.heap.size,2,none⟩ (.string ⟨U1.toArray⟩))):=HT5.out.above3 (nlr _) _ _ _;have HR6:Hid ((((w5.setCell ⟨wr.heap.size,0,none⟩ (.int .i64 K1)).setCell ⟨wr.heap.size,1,none⟩ (.int .i64 D1)).setCell ⟨wr.heap.size,2,none⟩ (.string ⟨U1.toArray⟩)).heap[wr.heap.size]?=some (.cells #[.int .i64 K1,.int .i64 D1,.string ⟨U1.toArray⟩] 50 (0,0))):=box_set HR5.out _ _ _;have HP6:Hid ((((w5.setCell ⟨wr.heap.size,0,none⟩ (.int .i64 K1)).setCell ⟨wr.heap.size,1,none⟩ (.int .i64 D1)).setCell ⟨wr.heap.size,2,none⟩ (.string ⟨U1.toArray⟩)).heap[wr.heap.size+1]?=some (.cells #[.int .i64 0,.int .i64 0,.string ⟨#[]⟩] 50 (0,0))):=(JdD (by omega)).trans HP5.out;have HQ6:Hid (winP (((w5.setCell ⟨wr.heap.size,0,none⟩ (.int .i64 K1)).setCell ⟨wr.heap.size,1,none⟩ (.int .i64 D1)).setCell ⟨wr.heap.size,2,none⟩ (.string ⟨U1.toArray⟩)) g1 _ R1):=Jcj HQ5.out (by simp) fun _=>JdD (by have:=HEG1.out;omega);refine(CC2.out _ (Jcj HW2.out HT6.out.size fun hg=>HT6.out.block g2 hg (Ne.symm HNE.out))).mono ?_;rintro e w7 ⟨v7,rfl,hw7,hb7⟩;have HQ7:=hdz hw7;have hbz:ButO g2 (((w5.setCell ⟨wr.heap.size,0,none⟩ (.int .i64 K1)).setCell ⟨wr.heap.size,1,none⟩ (.int .i64 D1)).setCell ⟨wr.heap.size,2,none⟩ (.string ⟨U1.toArray⟩)) w7:=⟨hb7.os,hb7.tape,hb7.output,hb7.size,hb7.block⟩;obtain⟨p7,c7,rfl,_⟩:=hw7;have HO7:=hdz (Jnv HQ6.out hbz HNE.out);have HR7:Hid (w7.heap[wr.heap.size]?=some (.cells #[.int .i64 K1,.int .i64 D1,.string ⟨U1.toArray⟩] 50 (0,0))):=(hbz.block _ (Jav HR6.out) (by have:=HEG2.out;omega)).trans HR6.out;have HP7:Hid (w7.heap[wr.heap.size+1]?=some (.cells #[.int .i64 0,.int .i64 0,.string ⟨#[]⟩] 50 (0,0))):=(hbz.block _ (Jav HP6.out) (by have:=HEG2.out;omega)).trans HP6.out;have HT7:=hdz ((But2.of1 HT6.out).cut2 hbz);clear hb7 hbz;have t0:=ce HR7.out 0 rfl;have t1:=ce HR7.out 1 rfl;have t2:=ce HR7.out 2 rfl;have q0:=ce HP7.out 0 rfl;have q1:=ce HP7.out 1 rfl;have q2:=ce HP7.out 2 rfl;have qF0:=fz HP7.out 0;have qF1:=fz HP7.out 1;have qF2:=fz HP7.out 2)
     | (have _:=HB4;go_at_call 268;refine(CC1.out _ (Jcj HW1.out HB4.out.size fun hg=>HB4.out.block g1 hg)).mono ?_;rintro e w5 ⟨v5,rfl,hw5,hb5⟩;have HQ5:=hdz hw5;have hbz:ButO g1 w4 w5:=⟨hb5.os,hb5.tape,hb5.output,hb5.size,hb5.block⟩;obtain⟨p5,c5,rfl,_⟩:=hw5;have HR5:Hid (w5.heap[wr.heap.size]?=some (.cells #[.int .i64 0,.int .i64 0,.string ⟨#[]⟩] 50 (0,0))):=(hbz.block _ (Jav HR4.out) (by have:=HEG1.out;omega)).trans HR4.out;have HP5:Hid (w5.heap[wr.heap.size+1]?=some (.cells #[.int .i64 0,.int .i64 0,.string ⟨#[]⟩] 50 (0,0))):=(hbz.block _ (Jav HP4.out) (by have:=HEG1.out;omega)).trans HP4.out;have HT5:=hdz ((ButO.of HB4.out).trans hbz);clear hb5 hbz;have r0:=ce HR5.out 0 rfl;have r1:=ce HR5.out 1 rfl;have r2:=ce HR5.out 2 rfl;have rF0:=fz HR5.out 0;have rF1:=fz HR5.out 1;have rF2:=fz HR5.out 2))
    all_goals (rw[eT.out];go_simp;have _:=HT7;have HI8:Hid (sideI M a g1 g2 bx w _ _ R1 R2 s (((w7.setCell ⟨wr.heap.size+1,0,none⟩ (.int .i64 K2)).setCell ⟨wr.heap.size+1,1,none⟩ (.int .i64 D2)).setCell ⟨wr.heap.size+1,2,none⟩ (.string ⟨U2.toArray⟩))):=HI.out.both (HT7.out.above3 (Nat.le_succ _) _ _ _) HO.out h1 h2 h3 h4 (Jcj HO7.out (by simp) fun _=>JdD (by have:=HEG1.out;omega)) (Jcj HQ7.out (by simp) fun _=>JdD (by have:=HEG2.out;omega));refine(CT.out _ HI8.out.g HI8.out.b).mono ?_;rintro e w9 ⟨⟨v9,rfl⟩,hg9,hb9⟩;go_wp2)
    go_roundg l.length
    case measure=>have:=HK.out;simp only[List.length_cons]at this;omega
    case rel=>exact JcR HS.out HI8.out HB.out HR.out hg9 hb9 HO.out h1 h2 h3 h4)
end
section
open Go.RowKit
variable {ps : List Pt}
theorem Jcr:(∀(xs:Array Value)(wx:World),Sem.run Tryz.prog (callFunc 225 xs) wx=Sem.run Tryz.prog (pure (.enter 225 xs)) wx)/\(∀(xs:Array Value)(wx:World),Sem.run Tryz.prog (callFunc 211 xs) wx=Sem.run Tryz.prog (pure (.enter 211 xs)) wx)/\(∀(xs:Array Value)(wx:World),Sem.run Tryz.prog (callFunc 228 xs) wx=Sem.run Tryz.prog (pure (.enter 228 xs)) wx)/\(∀(xs:Array Value)(wx:World),Sem.run Tryz.prog (callFunc 229 xs) wx=Sem.run Tryz.prog (pure (.enter 229 xs)) wx)/\(∀(xs:Array Value)(wx:World),Sem.run Tryz.prog (callFunc 226 xs) wx=Sem.run Tryz.prog (pure (.enter 226 xs)) wx):=by
 refine⟨?_,?_,?_,?_,?_⟩<;>intro xs wx<;>go_simp
theorem JgB{w4 X5 w5 w6:World}{a:Nat}{v1 v2:Value}{N1 N2:List Pt}(bx:List (Nat×Obj))(hG:∀M w2,Below w4.heap.size w4 w2->a+4<=M->M<=w2.heap.size->gath M w2 a nst0)(hz:w4.heap.size=a+4)
    (hb:Jgx bx X5) (hk:∀x∈bx,a+4<=x.1/\(∀c fz,x.2≠.cells c 5 fz)/\∀c fz,x.2≠.cells c 50 fz) (h45:Below w4.heap.size w4 X5)
    (o1:w5.ownsRow X5.heap.size 50 3 v1 N1.length (JaD N1)) (b5:Below X5.heap.size X5 w5) (s5:X5.heap.size+4<=w5.heap.size)
    (o2:w6.ownsRow w5.heap.size 50 3 v2 N2.length (JaD N2)) (b6:Below w5.heap.size w5 w6) (s6:w5.heap.size+4<=w6.heap.size) :
    ∃g1 g2,sideI w6.heap.size a g1 g2 bx w6 v1 v2 N1 N2 nst0 w6/\JgQ a g1 g2 bx/\a+4<=g1/\g1<w6.heap.size/\a+4<=g2/\g2<w6.heap.size/\g1≠g2:=by
 have s4:=h45.size;obtain⟨g1,hg1,r1⟩:=Jnu o1;obtain⟨g2,hg2,r2⟩:=Jnu o2;have b46:Below w4.heap.size w4 w6:=(h45.trans (b5.mono s4)).trans (b6.mono (by omega));have b56:Below X5.heap.size X5 w6:=b5.trans (b6.mono (by omega));refine⟨g1,g2,⟨.refl _ _,hG _ _ b46 (by omega) (nlr _),Jg5 r1 b6,r2,fun x hx=>(b56.block _ (Jav (hb x hx))).trans (hb x hx)⟩,fun x hx=>?_,by omega,by omega,by omega,by omega,by omega⟩;obtain⟨k1,k2,k3⟩:=hk x hx;have:=Jav (hb x hx);exact⟨k1,by omega,by omega,k2,k3⟩
theorem Jk2(f:Pt->Int)(l:List Pt):∀x:Int,l.foldl (fun x p=>x+f p) x=x+(l.map f).sum:=by
 induction l with
 | nil=>intro x;simp
 | cons p l ih=>intro x;rw[List.foldl_cons,ih,List.map_cons,List.sum_cons];omega
theorem JcL(ps:List Pt)(h:∀p∈ps,0<=p.keep/\0<=p.drop):wts (Jac ps)=wts ps:=by
 have ok:ActP (fun (x:Int) p=>x+wtP p):=by
  constructor
  . intro x;simp[wtP]
  . intro x u v;simp only[wtP,List.length_append];push_cast;omega
  . intro x a b _ _;simp only[wtP,List.length_nil];omega
  . intro x a b _ _;simp only[wtP,List.length_nil];omega
  . intro x k d u;simp only[wtP,List.length_nil];omega
  . intro x d u;simp only[wtP,List.length_nil];omega
 have:=JeQ ok ps h 0;rw[Jk2,Jk2]at this;simpa[wts] using this
theorem Jse(ps:List Pt)(h:∀p∈ps,0<=p.keep/\0<=p.drop):((Jac ps).map isP).sum=(ps.map isP).sum:=by
 have ok:ActP (fun (x:Int) p=>x+isP p):=by
  constructor
  . intro x;simp[isP]
  . intro x u v;simp only[isP,List.length_append];push_cast;omega
  . intro x a b _ _;simp only[isP,List.length_nil];omega
  . intro x a b _ _;simp only[isP,List.length_nil];omega
  . intro x k d u;simp only[isP,List.length_nil];omega
  . intro x d u;simp only[isP,List.length_nil];omega
 have:=JeQ ok ps h 0;rw[Jk2,Jk2]at this;simpa using this
theorem Jeo:∀(A:List Pt),(∀p∈A,oneP p)->(Jao A:Int)=wts A
 | [],_=>by simp[Jao,wts]
 | p :: A,h=>by
  have ih:=Jeo A fun q hq=>h q (by simp[hq]);have h1:=JaE (h p (by simp));have e:wts (p :: A)=wtP p+wts A:=by simp[wts]
  have e2:wtP p=Jad p:=rfl;rw[Jay,e,e2];omega
theorem Jee:∀(A:List Pt),(∀p∈A,oneP p)->Jc4 Jaf A=Jag A
 | [],_=>by simp[Jc4,Jag]
 | p :: A,h=>by
  have ih:=Jee A fun q hq=>h q (by simp[hq]);have e:Jag (p :: A)=lenP p+Jag A:=by simp[Jag]
  rw[Jde,ih,e]
  rcases h p (by simp) with ⟨h1,h2,h3⟩|⟨h1,h2,h3⟩|⟨h1,h2,h3⟩
  . simp[Jaf,h3,Jad,lenP]
  . simp[Jaf,h3,Jad,lenP]
  . simp[Jaf,h3,lenP,h1,h2]
theorem Jl0:∀(A:List Pt),(∀p∈A,oneP p)->Jc4 Ja8 A=(A.map isP).sum
 | [],_=>by simp[Jc4]
 | p :: A,h=>by
  have ih:=Jl0 A fun q hq=>h q (by simp[hq]);rw[Jde,ih,List.map_cons,List.sum_cons]
  rcases h p (by simp) with ⟨h1,h2,h3⟩|⟨h1,h2,h3⟩|⟨h1,h2,h3⟩
  . simp[Ja8,h2,h3,Jad,isP]
  . simp[Ja8,h2,h3,isP,h1]
  . simp[Ja8,h2,Jad,isP]
theorem Jn7(t:Pt×Pt->List Pt)(l:List (Pt×Pt)):∀s,runS t l s=(l.flatMap t).foldl addP s:=by
 induction l with
 | nil=>intro s;rfl
 | cons x l ih=>intro s;rw[List.flatMap_cons,List.foldl_append];exact ih _
theorem JhK{t:Pt×Pt->List Pt}{l:List (Pt×Pt)}(hB:BdS t l nst0 0 0):(runS t l nst0).out.length<1000000000/\(runS t l nst0).put.length<1000000000:=by
 rw[Jn7];have hb:=bds (l.flatMap t) fun p hp=>by
  obtain⟨x,hx,hp⟩:=List.mem_flatMap.1 hp;exact hB.sound x hx p hp
 have h1:(l.flatMap t).length<=l.length:=by
  have key:∀(l:List (Pt×Pt)),(∀x∈l,(t x).length<=1)->(l.flatMap t).length<=l.length:=by
   intro l
   induction l with
   | nil=>intro _;simp
   | cons x l ih =>
    intro h;have h1:=h x (by simp);have h2:=ih fun y hy=>h y (by simp[hy]);rw[List.flatMap_cons,List.length_append,List.length_cons];omega
  exact key l hB.one
 have h2:=hb.len;have h3:=hb.put;have h4:=hB.w;have h5:=hB.n;exact⟨by omega,by omega⟩
structure fineP (ps:List Pt):Prop where
 one:∀p∈ps,oneP p
 w:wts ps<2000000
 len:ps.length<10000000
theorem JaY(h:fineP ps):(∀p∈Jac ps,oneP p/\Jad p<1000000000)/\Jao (Jac ps)<2000000/\Jag (Jac ps)=Jag ps/\((Jac ps).map isP).sum=(ps.map isP).sum:=by
 have hs:=Jak h.one;have h1:=JeG ps hs;have h2:=Jeo _ h1;rw[JcL ps hs]at h2;have h3:=h.w;refine⟨fun p hp=>⟨h1 p hp,?_⟩,by omega,JhW ps,Jse ps hs⟩;obtain⟨l1,l2,e⟩:=List.append_of_mem hp;have h4:=Jeo _ h1;rw[e,Jba,Jay]at h4;rw[e]at h2;have h5:=JaE (h1 p hp);rw[Jba,Jay]at h2;omega
theorem JaZ(h:fineP ps):(Jar ps).1=Jag ps/\(Jar ps).2=(ps.map isP).sum:=by
 have hs:=Jak h.one;obtain⟨h1,h2,_,_⟩:=Jcx ps (fun p hp=>hs p hp) (by have:=h.w;omega);refine⟨?_,h2⟩;rw[h1,JbB];exact JbJ ps hs
end
section
open Go.RowKit
attribute [local go_sem] Oper.semAt_some
def Jaw (first:Bool) (a b:List Pt):NSt:=if first then runS JbH (Ja5 Jaf Jaf (Jao (Jac a)+Jao (Jac b)) (Jac a) (Jac b)) nst0 else runS (fun x=>JbH (x.2,x.1)) (Ja5 Jaf Jaf (Jao (Jac b)+Jao (Jac a)) (Jac b) (Jac a)) nst0
def JdU (a b:List Pt):NSt:=runS Jbv (Ja5 Ja8 Jaf (Jao (Jac a)+Jao (Jac b)) (Jac a) (Jac b)) nst0
def Ji8 (a b:List Pt):Int:=if JbG a b=0 then (if (Jar b).1=(Jar a).1 then 0 else 2) else JbG a b
def Jrp (a b:List Pt):Int:=if JbG a b=0 then (if (Jar b).1=(Jar a).2 then 0 else 2) else JbG a b
theorem JrM(v1 v2:Value)(a b:List Pt)(w:World)(hT:Lib.Utf8Tabs 2 3 w)(h1:opAt w v1 a)(h2:opAt w v2 b)(w1:∀p∈a,wfP p)(w2:∀p∈b,wfP p)(f1:fineP a)(f2:fineP b)(he:JbG a b=0)(hl:(Jar b).1=(Jar a).1) :
    Calls Tryz.prog 187 #[v1,v2,.bool true] w fun e w'=>∃v',e=.returned (.tuple #[v',.nilIface])/\opN w.heap.size w' v' (Jaq (Jaw true a b))/\Below w.heap.size w w':=by
 have cB:Hid _:=Jcb v1 v2 a b w hT h1 h2 w1 w2 f1.len f2.len;have hV:errV (JbG a b)=.nilIface:=by unfold errV;rw[if_pos he]
 rw[hV]at cB;have cL1:Hid (∀wx,Below w.heap.size w wx->Calls Tryz.prog 120 #[v1] wx fun e w'=>e=.returned (.tuple #[.int .i64 (Jar a).1,.int .i64 (Jar a).2])/\Below wx.heap.size wx w'):=fun wx hb=>Jc0 v1 a wx (Ja3 h1 hb) f1.len;have cL2:Hid (∀wx,Below w.heap.size w wx->Calls Tryz.prog 120 #[v2] wx fun e w'=>e=.returned (.tuple #[.int .i64 (Jar b).1,.int .i64 (Jar b).2])/\Below wx.heap.size wx w'):=fun wx hb=>Jc0 v2 b wx (Ja3 h2 hb) f2.len;have cN1:Hid (∀wx,Below w.heap.size w wx->Calls Tryz.prog 224 #[v1] wx fun e w'=>∃v',e=.returned v'/\w'.ownsRow wx.heap.size 50 3 v' (Jac a).length (JaD (Jac a))/\Below wx.heap.size wx w'/\wx.heap.size+4<=w'.heap.size):=fun wx hb=>Je1 v1 a wx (Ja3 h1 hb) (Jak f1.one) (by have:=f1.w;omega) f1.len;have cN2:Hid (∀wx,Below w.heap.size w wx->Calls Tryz.prog 224 #[v2] wx fun e w'=>∃v',e=.returned v'/\w'.ownsRow wx.heap.size 50 3 v' (Jac b).length (JaD (Jac b))/\Below wx.heap.size wx w'/\wx.heap.size+4<=w'.heap.size):=fun wx hb=>Je1 v2 b wx (Ja3 h2 hb) (Jak f2.one) (by have:=f2.w;omega) f2.len;obtain⟨n1,n2,n3,n4⟩:=JaY f1;obtain⟨m1,m2,m3,m4⟩:=JaY f2;have hmeas:Jc4 Jaf (Jac a)=Jc4 Jaf (Jac b):=by
  have e1:=(JaZ f1).1;have e2:=(JaZ f1).2;have e3:=(JaZ f2).1;rw[Jee _ (fun p hp=>(m1 p hp).1),Jee _ (fun p hp=>(n1 p hp).1)];omega
 obtain⟨hSd,hok,hpw,hln⟩:=JhG Jdx Jdx (Jao (Jac a)+Jao (Jac b)) (Jac a) (Jac b) n1 m1 hmeas (nlr _);have hBd:BdS JbH (Ja5 Jaf Jaf (Jao (Jac a)+Jao (Jac b)) (Jac a) (Jac b)) nst0 0 0:=Jrx JhC hok (by rw[hpw];omega) (by omega);have HSD:=hdz hSd;have HBD:=hdz hBd;have hS:runS JbH (Ja5 Jaf Jaf (Jao (Jac a)+Jao (Jac b)) (Jac a) (Jac b)) nst0=Jaw true a b:=rfl;have HSM:Hid _:=JhK hBd;rw[hS]at HSM;obtain⟨S,hSe⟩:∃S,Jaw true a b=S:=⟨_,rfl⟩;rw[hSe]at HSM ⊢;have HS:Hid (runS JbH (Ja5 Jaf Jaf (Jao (Jac a)+Jao (Jac b)) (Jac a) (Jac b)) nst0=S):=hSe;rw[hl]at cL2;generalize (Jar a).1=A1 at *;generalize (Jar a).2=A2 at *;generalize (Jar b).2=B2 at *;obtain⟨p1,c1,rfl,_⟩:=h1;obtain⟨p2,c2,rfl,_⟩:=h2;clear hT w1 w2 f1 f2 he hV hSd hBd hok hpw hln hmeas hS hSe n1 n2 n3 n4 m1 m2 m3 m4 hl
 go_enter Tryz.func187,Tryz.ntmps187
 go_wp2_with (first
  | (have _:=HG4;go_at_call 9999)
  | (have _:=HB2;go_at_call 120;refine(cL2.out _ HB2.out).mono ?_;rintro e w3 ⟨rfl,hb3⟩;have HB3:=hdz (HB2.out.trans (hb3.mono HB2.out.size));clear hb3)
  | (go_at_call 120;refine(cL1.out _ HB1.out).mono ?_;rintro e w2 ⟨rfl,hb2⟩;have HB2:=hdz (HB1.out.trans (hb2.mono HB1.out.size));clear hb2)
  | (go_at_call 221;refine Calls.mono cB.out ?_;rintro e w1 ⟨rfl,hb1⟩;have HB1:=hdz hb1;clear hb1)
  | (have _:=HB3;go_at_call 222;refine(Jfx w3).mono ?_;rintro e w4 ⟨rfl,hG4,hz4,hb4⟩;have HG4:=hdz hG4;have HZ4:=hdz hz4;have HB4:=hdz (HB3.out.trans (hb4.mono HB3.out.size));clear hG4 hz4 hb4))
 obtain⟨X5,hX5⟩:∃X,X=((w4.alloc (.cells #[.func (.func 265) #[] #[.pointer (some ⟨w3.heap.size+1,0,none⟩),.pointer (some ⟨w3.heap.size+2,0,none⟩),.pointer (some ⟨w3.heap.size+3,0,none⟩),.pointer (some ⟨w3.heap.size,0,none⟩)]] 342)).alloc (.cells #[.func (.func 228) #[] #[.pointer (some ⟨w4.heap.size,0,none⟩)]] 347)):=⟨_,rfl⟩;rw[←hX5];have H45:Hid (Below w4.heap.size w4 X5):=by rw[hX5];exact((brf _ _).alloc (nlr _) _).alloc (by simp) _
 have HX5:Hid (Below w.heap.size w X5):=HB4.out.trans (H45.out.mono HB4.out.size)
 have HBX:Hid (Jgx [(w4.heap.size,.cells #[addV w3.heap.size] 342 (0,0)),(w4.heap.size+1,.cells #[.func (.func 228) #[] #[.pointer (some ⟨w4.heap.size,0,none⟩)]] 347 (0,0))] X5):=by
  intro x hx;simp only[List.mem_cons,List.not_mem_nil,or_false]at hx;rw[hX5]
  rcases hx with rfl|rfl
  . exact(heap_alloc_old _ _ (by simp)).trans (heap_alloc_new _ _)
  . have:=heap_alloc_new (w4.alloc (.cells #[.func (.func 265) #[] #[.pointer (some ⟨w3.heap.size+1,0,none⟩),.pointer (some ⟨w3.heap.size+2,0,none⟩),.pointer (some ⟨w3.heap.size+3,0,none⟩),.pointer (some ⟨w3.heap.size,0,none⟩)]] 342)) (.cells #[.func (.func 228) #[] #[.pointer (some ⟨w4.heap.size,0,none⟩)]] 347)
    rwa[World.size_alloc]at this
 have HKX:Hid (∀x∈([(w4.heap.size,.cells #[addV w3.heap.size] 342 (0,0)),(w4.heap.size+1,.cells #[.func (.func 228) #[] #[.pointer (some ⟨w4.heap.size,0,none⟩)]] 347 (0,0))]:List (Nat×Obj)),w3.heap.size+4<=x.1/\(∀c fz,x.2≠.cells c 5 fz)/\∀c fz,x.2≠.cells c 50 fz):=by
  intro x hx;simp only[List.mem_cons,List.not_mem_nil,or_false]at hx;rcases hx with rfl|rfl<;>exact⟨by have:=HZ4.out;simp only;omega,fun c fz e=>(by cases e),fun c fz e=>(by cases e)⟩
 clear hX5;have yX:X5.cell? ⟨w4.heap.size+1,0,none⟩=some (.func (.func 228) #[] #[.pointer (some ⟨w4.heap.size,0,none⟩)]):=chp (HBX.out (w4.heap.size+1,.cells #[.func (.func 228) #[] #[.pointer (some ⟨w4.heap.size,0,none⟩)]] 347 (0,0)) (by simp)) 0
 go_region_with (first
  | (have _:=HO6;go_at_call 223;obtain⟨g1,g2,hI,ho,i1,i2,i3,i4,i5⟩:=JgB [(w4.heap.size,.cells #[addV w3.heap.size] 342 (0,0)),(w4.heap.size+1,.cells #[.func (.func 228) #[] #[.pointer (some ⟨w4.heap.size,0,none⟩)]] 347 (0,0))] HG4.out HZ4.out HBX.out HKX.out H45.out HO5.out HB5.out HS5.out HO6.out HB6.out HS6.out;refine(JjF 225 225 228 Jaf Jaf JbH _ _ g1 g2 w4.heap.size [(w4.heap.size,.cells #[addV w3.heap.size] 342 (0,0)),(w4.heap.size+1,.cells #[.func (.func 228) #[] #[.pointer (some ⟨w4.heap.size,0,none⟩)]] 347 (0,0))] _ _ _ _ _ nst0 w6 hI HSD.out HBD.out ho i1 i2 i3 i4 i5 (fun s x T n W hg hbx hB hS hT hn=>JkE _ _ _ s x.1 x.2 W hg (hbx (w4.heap.size,.cells #[addV w3.heap.size] 342 (0,0)) (by simp)) hB hS hT hn) Jcr.1 Jcr.1 Jcr.2.2.1 Jdg Jdg).mono ?_;rintro e w7 ⟨⟨v7,rfl⟩,hg7,hx7,hb7⟩;rw[HS.out]at hg7;have HG7:=hdz hg7;have HB7:=hdz hb7;clear hI ho i1 i2 i3 i4 i5 hg7 hx7 hb7)
  | (have _:=HO5;go_at_call 224;refine(cN2.out _ HW5.out).mono ?_;rintro e w6 ⟨v6,rfl,o6,b6,s6⟩;have HO6:=hdz o6;have HB6:=hdz b6;have HS6:=hdz s6;have HW6:=hdz (HW5.out.trans (HB6.out.mono HW5.out.size));have HB56:=hdz (HB5.out.trans (HB6.out.mono HB5.out.size));obtain⟨pp6,cc6,rfl⟩:=Jae o6;clear o6 b6 s6;have yw6:w6.cell? ⟨w4.heap.size+1,0,none⟩=some (.func (.func 228) #[] #[.pointer (some ⟨w4.heap.size,0,none⟩)]):=chp ((HB56.out.block _ (Jav (HBX.out (w4.heap.size+1,.cells #[.func (.func 228) #[] #[.pointer (some ⟨w4.heap.size,0,none⟩)]] 347 (0,0)) (by simp)))).trans (HBX.out (w4.heap.size+1,.cells #[.func (.func 228) #[] #[.pointer (some ⟨w4.heap.size,0,none⟩)]] 347 (0,0)) (by simp))) 0)
  | (go_at_call 224;refine(cN1.out _ (by first|exact HX5.out.drew|exact HX5.out)).mono ?_;rintro e w5 ⟨v5,rfl,o5,b5,s5⟩;have HO5:=hdz o5;have HB5:Hid (Below X5.heap.size X5 w5):=(by first|exact b5|exact(brf _ X5).drew.trans b5);have HS5:=hdz s5;have HW5:=hdz (HX5.out.trans (HB5.out.mono HX5.out.size));obtain⟨pp5,cc5,rfl⟩:=Jae o5;clear o5 b5 s5;have yw5:w5.cell? ⟨w4.heap.size+1,0,none⟩=some (.func (.func 228) #[] #[.pointer (some ⟨w4.heap.size,0,none⟩)]):=chp ((HB5.out.block _ (Jav (HBX.out (w4.heap.size+1,.cells #[.func (.func 228) #[] #[.pointer (some ⟨w4.heap.size,0,none⟩)]] 347 (0,0)) (by simp)))).trans (HBX.out (w4.heap.size+1,.cells #[.func (.func 228) #[] #[.pointer (some ⟨w4.heap.size,0,none⟩)]] 347 (0,0)) (by simp))) 0))
 all_goals (
  go_wp2_with (have _:=HG7;go_at_call 266;refine(Jgs w3.heap.size S w7 HG7.out HSM.out.1 HSM.out.2).mono ?_;rintro e w8 ⟨v8,rfl,o8,b8⟩)
  obtain⟨p8,c8,rfl⟩:=Jae o8
  go_ret2
  exact⟨_,rfl,JeE HW6.out.size o8,(HW6.out.trans (HB7.out.mono HB3.out.size)).trans (b8.below.mono HB3.out.size)⟩)
theorem JrL(v1 v2:Value)(a b:List Pt)(w:World)(hT:Lib.Utf8Tabs 2 3 w)(h1:opAt w v1 a)(h2:opAt w v2 b)(w1:∀p∈a,wfP p)(w2:∀p∈b,wfP p)(f1:fineP a)(f2:fineP b)(he:JbG a b=0)(hl:(Jar b).1=(Jar a).1) :
    Calls Tryz.prog 187 #[v1,v2,.bool false] w fun e w'=>∃v',e=.returned (.tuple #[v',.nilIface])/\opN w.heap.size w' v' (Jaq (Jaw false a b))/\Below w.heap.size w w':=by
 have cB:Hid _:=Jcb v1 v2 a b w hT h1 h2 w1 w2 f1.len f2.len;have hV:errV (JbG a b)=.nilIface:=by unfold errV;rw[if_pos he]
 rw[hV]at cB;have cL1:Hid (∀wx,Below w.heap.size w wx->Calls Tryz.prog 120 #[v1] wx fun e w'=>e=.returned (.tuple #[.int .i64 (Jar a).1,.int .i64 (Jar a).2])/\Below wx.heap.size wx w'):=fun wx hb=>Jc0 v1 a wx (Ja3 h1 hb) f1.len;have cL2:Hid (∀wx,Below w.heap.size w wx->Calls Tryz.prog 120 #[v2] wx fun e w'=>e=.returned (.tuple #[.int .i64 (Jar b).1,.int .i64 (Jar b).2])/\Below wx.heap.size wx w'):=fun wx hb=>Jc0 v2 b wx (Ja3 h2 hb) f2.len;have cN1:Hid (∀wx,Below w.heap.size w wx->Calls Tryz.prog 224 #[v2] wx fun e w'=>∃v',e=.returned v'/\w'.ownsRow wx.heap.size 50 3 v' (Jac b).length (JaD (Jac b))/\Below wx.heap.size wx w'/\wx.heap.size+4<=w'.heap.size):=fun wx hb=>Je1 v2 b wx (Ja3 h2 hb) (Jak f2.one) (by have:=f2.w;omega) f2.len;have cN2:Hid (∀wx,Below w.heap.size w wx->Calls Tryz.prog 224 #[v1] wx fun e w'=>∃v',e=.returned v'/\w'.ownsRow wx.heap.size 50 3 v' (Jac a).length (JaD (Jac a))/\Below wx.heap.size wx w'/\wx.heap.size+4<=w'.heap.size):=fun wx hb=>Je1 v1 a wx (Ja3 h1 hb) (Jak f1.one) (by have:=f1.w;omega) f1.len;obtain⟨n1,n2,n3,n4⟩:=JaY f1;obtain⟨m1,m2,m3,m4⟩:=JaY f2;have hmeas:Jc4 Jaf (Jac b)=Jc4 Jaf (Jac a):=by
  have e1:=(JaZ f1).1;have e2:=(JaZ f1).2;have e3:=(JaZ f2).1;rw[Jee _ (fun p hp=>(n1 p hp).1),Jee _ (fun p hp=>(m1 p hp).1)];omega
 obtain⟨hSd,hok,hpw,hln⟩:=JhG Jdx Jdx (Jao (Jac b)+Jao (Jac a)) (Jac b) (Jac a) m1 n1 hmeas (nlr _);have hBd:BdS (fun x=>JbH (x.2,x.1)) (Ja5 Jaf Jaf (Jao (Jac b)+Jao (Jac a)) (Jac b) (Jac a)) nst0 0 0:=Jrx JiO hok (by rw[hpw];omega) (by omega);have HSD:=hdz hSd;have HBD:=hdz hBd;have hS:runS (fun x=>JbH (x.2,x.1)) (Ja5 Jaf Jaf (Jao (Jac b)+Jao (Jac a)) (Jac b) (Jac a)) nst0=Jaw false a b:=rfl;have HSM:Hid _:=JhK hBd;rw[hS]at HSM;obtain⟨S,hSe⟩:∃S,Jaw false a b=S:=⟨_,rfl⟩;rw[hSe]at HSM ⊢;have HS:Hid (runS (fun x=>JbH (x.2,x.1)) (Ja5 Jaf Jaf (Jao (Jac b)+Jao (Jac a)) (Jac b) (Jac a)) nst0=S):=hSe;rw[hl]at cL2;generalize (Jar a).1=A1 at *;generalize (Jar a).2=A2 at *;generalize (Jar b).2=B2 at *;obtain⟨p1,c1,rfl,_⟩:=h1;obtain⟨p2,c2,rfl,_⟩:=h2;clear hT w1 w2 f1 f2 he hV hSd hBd hok hpw hln hmeas hS hSe n1 n2 n3 n4 m1 m2 m3 m4 hl
 go_enter Tryz.func187,Tryz.ntmps187
 go_wp2_with (first
  | (have _:=HG4;go_at_call 9999)
  | (have _:=HB2;go_at_call 120;refine(cL2.out _ HB2.out).mono ?_;rintro e w3 ⟨rfl,hb3⟩;have HB3:=hdz (HB2.out.trans (hb3.mono HB2.out.size));clear hb3)
  | (go_at_call 120;refine(cL1.out _ HB1.out).mono ?_;rintro e w2 ⟨rfl,hb2⟩;have HB2:=hdz (HB1.out.trans (hb2.mono HB1.out.size));clear hb2)
  | (go_at_call 221;refine Calls.mono cB.out ?_;rintro e w1 ⟨rfl,hb1⟩;have HB1:=hdz hb1;clear hb1)
  | (have _:=HB3;go_at_call 222;refine(Jfx w3).mono ?_;rintro e w4 ⟨rfl,hG4,hz4,hb4⟩;have HG4:=hdz hG4;have HZ4:=hdz hz4;have HB4:=hdz (HB3.out.trans (hb4.mono HB3.out.size));clear hG4 hz4 hb4))
 obtain⟨X5,hX5⟩:∃X,X=((w4.alloc (.cells #[.func (.func 265) #[] #[.pointer (some ⟨w3.heap.size+1,0,none⟩),.pointer (some ⟨w3.heap.size+2,0,none⟩),.pointer (some ⟨w3.heap.size+3,0,none⟩),.pointer (some ⟨w3.heap.size,0,none⟩)]] 342)).alloc (.cells #[.func (.func 228) #[] #[.pointer (some ⟨w4.heap.size,0,none⟩)]] 347)):=⟨_,rfl⟩;rw[←hX5];have H45:Hid (Below w4.heap.size w4 X5):=by rw[hX5];exact((brf _ _).alloc (nlr _) _).alloc (by simp) _
 have HX5:Hid (Below w.heap.size w X5):=HB4.out.trans (H45.out.mono HB4.out.size)
 have HBX:Hid (Jgx [(w4.heap.size,.cells #[addV w3.heap.size] 342 (0,0)),(w4.heap.size+1,.cells #[.func (.func 228) #[] #[.pointer (some ⟨w4.heap.size,0,none⟩)]] 347 (0,0))] X5):=by
  intro x hx;simp only[List.mem_cons,List.not_mem_nil,or_false]at hx;rw[hX5]
  rcases hx with rfl|rfl
  . exact(heap_alloc_old _ _ (by simp)).trans (heap_alloc_new _ _)
  . have:=heap_alloc_new (w4.alloc (.cells #[.func (.func 265) #[] #[.pointer (some ⟨w3.heap.size+1,0,none⟩),.pointer (some ⟨w3.heap.size+2,0,none⟩),.pointer (some ⟨w3.heap.size+3,0,none⟩),.pointer (some ⟨w3.heap.size,0,none⟩)]] 342)) (.cells #[.func (.func 228) #[] #[.pointer (some ⟨w4.heap.size,0,none⟩)]] 347)
    rwa[World.size_alloc]at this
 have HKX:Hid (∀x∈([(w4.heap.size,.cells #[addV w3.heap.size] 342 (0,0)),(w4.heap.size+1,.cells #[.func (.func 228) #[] #[.pointer (some ⟨w4.heap.size,0,none⟩)]] 347 (0,0))]:List (Nat×Obj)),w3.heap.size+4<=x.1/\(∀c fz,x.2≠.cells c 5 fz)/\∀c fz,x.2≠.cells c 50 fz):=by
  intro x hx;simp only[List.mem_cons,List.not_mem_nil,or_false]at hx;rcases hx with rfl|rfl<;>exact⟨by have:=HZ4.out;simp only;omega,fun c fz e=>(by cases e),fun c fz e=>(by cases e)⟩
 clear hX5;refine(cN1.out _ HX5.out).mono ?_;rintro e w5 ⟨v5,rfl,o5,b5,s5⟩;have HO5:=hdz o5;have HB5:Hid (Below X5.heap.size X5 w5):=(by first | exact b5 | exact(brf _ X5).drew.trans b5);have HS5:=hdz s5;have HW5:Hid (Below w.heap.size w w5):=HX5.out.trans (HB5.out.mono HX5.out.size);obtain⟨pp5,cc5,rfl⟩:=Jae o5;clear o5 b5 s5
 go_wp2_with (first
  | (have _:=HG7;go_at_call 266;refine(Jgs w3.heap.size S w7 HG7.out HSM.out.1 HSM.out.2).mono ?_;rintro e w8 ⟨v8,rfl,o8,b8⟩)
  | (have _:=HO6;go_at_call 223;obtain⟨g1,g2,hI,ho,i1,i2,i3,i4,i5⟩:=JgB [(w4.heap.size,.cells #[addV w3.heap.size] 342 (0,0)),(w4.heap.size+1,.cells #[.func (.func 228) #[] #[.pointer (some ⟨w4.heap.size,0,none⟩)]] 347 (0,0))] HG4.out HZ4.out HBX.out HKX.out H45.out HO5.out HB5.out HS5.out HO6.out HB6.out HS6.out;refine(JjF 225 225 229 Jaf Jaf (fun x=>JbH (x.2,x.1)) _ _ g1 g2 (w4.heap.size+1) [(w4.heap.size,.cells #[addV w3.heap.size] 342 (0,0)),(w4.heap.size+1,.cells #[.func (.func 228) #[] #[.pointer (some ⟨w4.heap.size,0,none⟩)]] 347 (0,0))] _ _ _ _ _ nst0 w6 hI HSD.out HBD.out ho i1 i2 i3 i4 i5 (fun s x T n W hg hbx hB hS hT hn=>JpH _ _ w4.heap.size _ s x.1 x.2 W hg (hbx (w4.heap.size,.cells #[addV w3.heap.size] 342 (0,0)) (by simp)) (hbx (w4.heap.size+1,.cells #[.func (.func 228) #[] #[.pointer (some ⟨w4.heap.size,0,none⟩)]] 347 (0,0)) (by simp)) hB hS hT hn) Jcr.1 Jcr.1 Jcr.2.2.2.1 Jdg Jdg).mono ?_;rintro e w7 ⟨⟨v7,rfl⟩,hg7,hx7,hb7⟩;rw[HS.out]at hg7;have HG7:=hdz hg7;have HB7:=hdz hb7;clear hI ho i1 i2 i3 i4 i5 hg7 hx7 hb7)
  | (have _:=HO5;go_at_call 224;refine(cN2.out _ HW5.out).mono ?_;rintro e w6 ⟨v6,rfl,o6,b6,s6⟩;have HO6:=hdz o6;have HB6:=hdz b6;have HS6:=hdz s6;have HW6:=hdz (HW5.out.trans (HB6.out.mono HW5.out.size));have HB56:=hdz (HB5.out.trans (HB6.out.mono HB5.out.size));obtain⟨pp6,cc6,rfl⟩:=Jae o6;clear o6 b6 s6))
 obtain⟨p8,c8,rfl⟩:=Jae o8
 go_ret2
 exact⟨_,rfl,JeE HW6.out.size o8,(HW6.out.trans (HB7.out.mono HB3.out.size)).trans (b8.below.mono HB3.out.size)⟩
theorem JoY(v1 v2:Value)(a b:List Pt)(w:World)(hT:Lib.Utf8Tabs 2 3 w)(h1:opAt w v1 a)(h2:opAt w v2 b)(w1:∀p∈a,wfP p)(w2:∀p∈b,wfP p)(f1:fineP a)(f2:fineP b)(he:JbG a b=0)(hl:(Jar b).1=(Jar a).2) :
    Calls Tryz.prog 182 #[v1,v2] w fun e w'=>∃v',e=.returned (.tuple #[v',.nilIface])/\opN w.heap.size w' v' (Jaq (JdU a b))/\Below w.heap.size w w':=by
 have cB:Hid _:=Jcb v1 v2 a b w hT h1 h2 w1 w2 f1.len f2.len;have hV:errV (JbG a b)=.nilIface:=by unfold errV;rw[if_pos he]
 rw[hV]at cB;have cL1:Hid (∀wx,Below w.heap.size w wx->Calls Tryz.prog 120 #[v1] wx fun e w'=>e=.returned (.tuple #[.int .i64 (Jar a).1,.int .i64 (Jar a).2])/\Below wx.heap.size wx w'):=fun wx hb=>Jc0 v1 a wx (Ja3 h1 hb) f1.len;have cL2:Hid (∀wx,Below w.heap.size w wx->Calls Tryz.prog 120 #[v2] wx fun e w'=>e=.returned (.tuple #[.int .i64 (Jar b).1,.int .i64 (Jar b).2])/\Below wx.heap.size wx w'):=fun wx hb=>Jc0 v2 b wx (Ja3 h2 hb) f2.len;have cN1:Hid (∀wx,Below w.heap.size w wx->Calls Tryz.prog 224 #[v1] wx fun e w'=>∃v',e=.returned v'/\w'.ownsRow wx.heap.size 50 3 v' (Jac a).length (JaD (Jac a))/\Below wx.heap.size wx w'/\wx.heap.size+4<=w'.heap.size):=fun wx hb=>Je1 v1 a wx (Ja3 h1 hb) (Jak f1.one) (by have:=f1.w;omega) f1.len;have cN2:Hid (∀wx,Below w.heap.size w wx->Calls Tryz.prog 224 #[v2] wx fun e w'=>∃v',e=.returned v'/\w'.ownsRow wx.heap.size 50 3 v' (Jac b).length (JaD (Jac b))/\Below wx.heap.size wx w'/\wx.heap.size+4<=w'.heap.size):=fun wx hb=>Je1 v2 b wx (Ja3 h2 hb) (Jak f2.one) (by have:=f2.w;omega) f2.len;obtain⟨n1,n2,n3,n4⟩:=JaY f1;obtain⟨m1,m2,m3,m4⟩:=JaY f2;have hmeas:Jc4 Ja8 (Jac a)=Jc4 Jaf (Jac b):=by
  have e1:=(JaZ f1).1;have e2:=(JaZ f1).2;have e3:=(JaZ f2).1;rw[Jee _ (fun p hp=>(m1 p hp).1),Jl0 _ (fun p hp=>(n1 p hp).1)];omega
 obtain⟨hSd,hok,hpw,hln⟩:=JhG Jq7 Jdx (Jao (Jac a)+Jao (Jac b)) (Jac a) (Jac b) n1 m1 hmeas (nlr _);have hBd:BdS Jbv (Ja5 Ja8 Jaf (Jao (Jac a)+Jao (Jac b)) (Jac a) (Jac b)) nst0 0 0:=Jrx JpR hok (by rw[hpw];omega) (by omega);have HSD:=hdz hSd;have HBD:=hdz hBd;have hS:runS Jbv (Ja5 Ja8 Jaf (Jao (Jac a)+Jao (Jac b)) (Jac a) (Jac b)) nst0=JdU a b:=rfl;have HSM:Hid _:=JhK hBd;rw[hS]at HSM;obtain⟨S,hSe⟩:∃S,JdU a b=S:=⟨_,rfl⟩;rw[hSe]at HSM ⊢;have HS:Hid (runS Jbv (Ja5 Ja8 Jaf (Jao (Jac a)+Jao (Jac b)) (Jac a) (Jac b)) nst0=S):=hSe;rw[hl]at cL2;generalize (Jar a).1=A1 at *;generalize (Jar a).2=A2 at *;generalize (Jar b).2=B2 at *;obtain⟨p1,c1,rfl,_⟩:=h1;obtain⟨p2,c2,rfl,_⟩:=h2;clear hT w1 w2 f1 f2 he hV hSd hBd hok hpw hln hmeas hS hSe n1 n2 n3 n4 m1 m2 m3 m4 hl
 go_enter Tryz.func182,Tryz.ntmps182
 go_wp2_with (first
  | (have _:=HG4;go_at_call 9999)
  | (have _:=HB2;go_at_call 120;refine(cL2.out _ HB2.out).mono ?_;rintro e w3 ⟨rfl,hb3⟩;have HB3:=hdz (HB2.out.trans (hb3.mono HB2.out.size));clear hb3)
  | (go_at_call 120;refine(cL1.out _ HB1.out).mono ?_;rintro e w2 ⟨rfl,hb2⟩;have HB2:=hdz (HB1.out.trans (hb2.mono HB1.out.size));clear hb2)
  | (go_at_call 221;refine Calls.mono cB.out ?_;rintro e w1 ⟨rfl,hb1⟩;have HB1:=hdz hb1;clear hb1)
  | (have _:=HB3;go_at_call 222;refine(Jfx w3).mono ?_;rintro e w4 ⟨rfl,hG4,hz4,hb4⟩;have HG4:=hdz hG4;have HZ4:=hdz hz4;have HB4:=hdz (HB3.out.trans (hb4.mono HB3.out.size));clear hG4 hz4 hb4))
 obtain⟨X5,hX5⟩:∃X,X=(w4.alloc (.cells #[.func (.func 265) #[] #[.pointer (some ⟨w3.heap.size+1,0,none⟩),.pointer (some ⟨w3.heap.size+2,0,none⟩),.pointer (some ⟨w3.heap.size+3,0,none⟩),.pointer (some ⟨w3.heap.size,0,none⟩)]] 342)):=⟨_,rfl⟩;rw[←hX5];have H45:Hid (Below w4.heap.size w4 X5):=by rw[hX5];exact(brf _ _).alloc (nlr _) _
 have HX5:Hid (Below w.heap.size w X5):=HB4.out.trans (H45.out.mono HB4.out.size);have HBX:Hid (Jgx [(w4.heap.size,.cells #[addV w3.heap.size] 342 (0,0))] X5):=by
  intro x hx;simp only[List.mem_singleton]at hx;subst hx;rw[hX5];exact heap_alloc_new _ _
 have HKX:Hid (∀x∈([(w4.heap.size,.cells #[addV w3.heap.size] 342 (0,0))]:List (Nat×Obj)),w3.heap.size+4<=x.1/\(∀c fz,x.2≠.cells c 5 fz)/\∀c fz,x.2≠.cells c 50 fz):=by
  intro x hx;simp only[List.mem_singleton]at hx;subst hx;exact⟨by have:=HZ4.out;omega,fun c fz e=>(by cases e),fun c fz e=>(by cases e)⟩
 clear hX5;refine(cN1.out _ HX5.out).mono ?_;rintro e w5 ⟨v5,rfl,o5,b5,s5⟩;have HO5:=hdz o5;have HB5:Hid (Below X5.heap.size X5 w5):=(by first | exact b5 | exact(brf _ X5).drew.trans b5);have HS5:=hdz s5;have HW5:Hid (Below w.heap.size w w5):=HX5.out.trans (HB5.out.mono HX5.out.size);obtain⟨pp5,cc5,rfl⟩:=Jae o5;clear o5 b5 s5
 go_wp2_with (first
  | (have _:=HG7;go_at_call 266;refine(Jgs w3.heap.size S w7 HG7.out HSM.out.1 HSM.out.2).mono ?_;rintro e w8 ⟨v8,rfl,o8,b8⟩)
  | (have _:=HO6;go_at_call 223;obtain⟨g1,g2,hI,ho,i1,i2,i3,i4,i5⟩:=JgB [(w4.heap.size,.cells #[addV w3.heap.size] 342 (0,0))] HG4.out HZ4.out HBX.out HKX.out H45.out HO5.out HB5.out HS5.out HO6.out HB6.out HS6.out;refine(JjF 211 225 226 Ja8 Jaf Jbv _ _ g1 g2 w4.heap.size [(w4.heap.size,.cells #[addV w3.heap.size] 342 (0,0))] _ _ _ _ _ nst0 w6 hI HSD.out HBD.out ho i1 i2 i3 i4 i5 (fun s x T n W hg hbx hB hS hT hn=>JsK _ _ _ s x.1 x.2 W hg (hbx (w4.heap.size,.cells #[addV w3.heap.size] 342 (0,0)) (by simp)) hB hS hT hn) Jcr.2.1 Jcr.1 Jcr.2.2.2.2 Jd7 Jdg).mono ?_;rintro e w7 ⟨⟨v7,rfl⟩,hg7,hx7,hb7⟩;rw[HS.out]at hg7;have HG7:=hdz hg7;have HB7:=hdz hb7;clear hI ho i1 i2 i3 i4 i5 hg7 hx7 hb7)
  | (have _:=HO5;go_at_call 224;refine(cN2.out _ HW5.out).mono ?_;rintro e w6 ⟨v6,rfl,o6,b6,s6⟩;have HO6:=hdz o6;have HB6:=hdz b6;have HS6:=hdz s6;have HW6:=hdz (HW5.out.trans (HB6.out.mono HW5.out.size));have HB56:=hdz (HB5.out.trans (HB6.out.mono HB5.out.size));obtain⟨pp6,cc6,rfl⟩:=Jae o6;clear o6 b6 s6))
 obtain⟨p8,c8,rfl⟩:=Jae o8
 go_ret2
 exact⟨_,rfl,JeE HW6.out.size o8,(HW6.out.trans (HB7.out.mono HB3.out.size)).trans (b8.below.mono HB3.out.size)⟩
end
end Go.Proofs.YtedgnlgjmnccgabGreatDoor
