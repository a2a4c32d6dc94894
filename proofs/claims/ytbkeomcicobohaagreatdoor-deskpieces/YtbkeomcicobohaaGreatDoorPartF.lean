/-
  A part of the texts that the proof uses.
-/
import Derived.Test.YtbkeomcicobohaaGreatDoorPartE
set_option maxRecDepth 100000
set_option maxHeartbeats 40000000
set_option linter.unusedVariables false
namespace Go.Proofs.YtbkeomcicobohaaGreatDoor
open Go.Proofs.Tryz Go.RowKit Go.Maps
section
attribute [local go_sem] Oper.semAt_some
theorem row1(X:List Nat):rowZ 1 X=(encs X).map λb=>(b.toNat:Int):=rfl
theorem row2(X:List Nat):rowZ 2 X=toI (hals X):=rfl
theorem row3(X:List Nat):rowZ 3 X=toI X:=rfl
theorem Jrt{X:List Nat}(h:C1 X<=1000000):(encs X).length<=1000000/\X.length<=1000000/\(hals X).length<=2000000:=by
 have h1:=Jcb X;have h2:=Jmi X;have h3:=(Jvq X).1;omega
theorem Jpq(w:World)(e:TypeId)(s:ByteArray):Bw w (Lib.bytesWorld w e s) :=
 ⟨rfl,rfl,rfl,by rw[Lib.bytesWorld_size];omega,λk hk=>Lib.bytesWorld_at_old w e s k hk⟩
theorem Ju4(U:List UInt8)(hU:(scan U).2=true)(hl:U.length<=1000000)(w:World) :
    Cg 142 #[Sx U] w λe w'=>∃p n c,e=.returned (.slice p n c)/\sl w' .u8 p n c (rowZ 1 (Ja0 U))/\Bw w w':=by
 have hconv:=Lib.run_convert_string_bytes (P:=prog) w 9 29 5 ⟨U.toArray⟩ (u:=.string) underlying9 underlying29 underlying5;have hz:(ByteArray.mk U.toArray).size=U.length:=by simp[ByteArray.size]
 have hsl:sl (Lib.bytesWorld w 5 ⟨U.toArray⟩) .u8 (some (Ad w.heap.size 0)) (ByteArray.mk U.toArray).size (grownCap w (ByteArray.mk U.toArray).size 0 5) (rowZ 1 (Ja0 U)):=by
  rw[row1,JbD hU];refine⟨by rw[hz,List.length_map],.inr ⟨w.heap.size,0,rfl,?_,?_,?_,λi z hi=>?_⟩⟩
  . rw[List.length_map,←hz];exact grownCap_ge _ _ _ _
  . exact grownCap_le_maxLen _ _ _ _ (by rw[hz];unfold maxLen;omega)
  . rw[Lib.bytesWorld_size];omega
  . have hil:i<U.length:=by have:=(llt hi);rwa[List.length_map]at this
    rw[Nat.zero_add,Lib.bytesWorld_cell _ _ _ _ (by rw[hz];exact hil)];rw[List.getElem?_map,lgg hil]at hi;have:=osi hi;rw[←this,List.getD_eq_getElem?_getD];simp[hil]
 have hbl:=Jpq w 5 ⟨U.toArray⟩;have HSL:=hdz hsl;have HBL:=hdz hbl;generalize Lib.bytesWorld w 5 ⟨U.toArray⟩=W at *;clear hsl hbl
 go_enter func142,ntmps142
 go_wp2;go_ret;exact⟨_,_,_,rfl,HSL.out,HBL.out⟩
theorem Ju3(U:List UInt8)(hU:(scan U).2=true)(hl:U.length<=1000000)(w:World)(hT:Lib.Utf8Tabs 3 4 w) :
    Cg 145 #[Sx U] w λe w'=>∃p n c,e=.returned (.slice p n c)/\sl w' .u16 p n c (rowZ 2 (Ja0 U))/\Bw w w':=by
 have cC:Hid (Cg 146 #[Sx U] w λe w'=>∃p n c,e=.returned (.tuple #[.slice p n c,.nilIface])/\sl w' .u16 p n c (rowZ 2 (Ja0 U))/\Bw w w') :=
  (JrM ⟨U.toArray⟩ (by simp[ByteArray.size];omega) w hT).mono λe w' ⟨v,x,h1,h2,h3⟩=>by
    rcases h3 with ⟨_,rfl,p,c,h4,h5⟩|⟨h4,_⟩
    . have e0:(ByteArray.mk U.toArray).data.toList=U:=rfl
      have e1:=JrA U;rw[e0]at h4 h5;have hlen:(Jc6 (scan U).1).length=(rowZ 2 (Ja0 U)).length:=by rw[e1,row2,List.length_map]
      rw[hlen]at h4 h5;obtain⟨p',c',q1,q2⟩:=JvY e1 h5;exact⟨p',_,c',by rw[h1,q1],q2,h2⟩
    . rw[show(ByteArray.mk U.toArray).data.toList=U from rfl,hU]at h4;cases h4
 clear hT hU hl
 go_enter func145,ntmps145
 go_wp2_with (go_at_call 146;refine Calls.mono cC.out ?_;rintro e w1 ⟨p,n,c,rfl,hs1,hb1⟩;have HS1:=hdz hs1;clear hs1)
 go_ret;exact⟨_,_,_,rfl,HS1.out,hb1⟩
theorem Ju2(U:List UInt8)(hU:(scan U).2=true)(hl:U.length<=1000000)(w:World)(hT:Lib.Utf8Tabs 3 4 w) :
    Cg 149 #[Sx U] w λe w'=>∃p n c,e=.returned (.slice p n c)/\sl w' .i32 p n c (rowZ 3 (Ja0 U))/\Bw w w':=by
 have cC:Hid (Cg 150 #[Sx U] w λe w'=>∃p n c,e=.returned (.tuple #[.slice p n c,.nilIface])/\sl w' .i32 p n c (rowZ 3 (Ja0 U))/\Bw w w') :=
  (Jud ⟨U.toArray⟩ (by simp[ByteArray.size];omega) w hT).mono λe w' ⟨v,x,h1,h2,h3⟩=>by
    rcases h3 with ⟨_,rfl,p,c,h4,h5⟩|⟨h4,_⟩
    . have e0:(ByteArray.mk U.toArray).data.toList=U:=rfl
      have e1:=JrB U;rw[e0]at h4 h5;have hlen:(Jdk (scan U).1).length=(rowZ 3 (Ja0 U)).length:=by rw[e1,row3,List.length_map]
      rw[hlen]at h4 h5;obtain⟨p',c',q1,q2⟩:=JvY e1 h5;exact⟨p',_,c',by rw[h1,q1],q2,h2⟩
    . rw[show(ByteArray.mk U.toArray).data.toList=U from rfl,hU]at h4;cases h4
 clear hT hU hl
 go_enter func149,ntmps149
 go_wp2_with (go_at_call 150;refine Calls.mono cC.out ?_;rintro e w1 ⟨p,n,c,rfl,hs1,hb1⟩;have HS1:=hdz hs1;clear hs1)
 go_ret;exact⟨_,_,_,rfl,HS1.out,hb1⟩
end
def plE (u:Int) (R:List Nat) (qs:List Pt):Int:=if okZ u R qs then (if C1 (Jep u R qs)<=8000 then 0 else 12) else 10
section
attribute [local go_sem] Oper.semAt_some
def Juq (u:Nat):Prop:=u=1\/u=2\/u=3
theorem Jup{u:Nat}(h:Juq u):JaH (u:Int):=by unfold Juq at h;unfold JaH;omega
def shE (u:Int) (R:List Nat) (qs:List Pt):Int:=if chkE qs (by_ u R)=0 then plE u R qs else chkE qs (by_ u R)
def shR (u:Int) (R:List Nat) (qs:List Pt):List Nat:=if shE u R qs=0 then Jep u R qs else R
theorem Jsk(v1 v2:Value)(first:Bool)(a b:List Pt)(w:World)(hT:Lib.Utf8Tabs 3 4 w)(h1:opAt w v1 a)(h2:opAt w v2 b)(w1:∀p∈a,wfP p)(w2:∀p∈b,wfP p)(l1:a.length<10000000)(l2:b.length<10000000)(he:Jcw a b≠0) :
    Cg 259 #[v1,v2,.bool first] w (Rt w (.tuple #[.slice none 0 0,errV (Jcw a b)])):=by
 have cB:Hid _:=Jcj v1 v2 a b w hT h1 h2 w1 w2 l1 l2;have hV:errV (Jcw a b)=.iface 25 (I6 (Jcw a b)):=by unfold errV;rw[if_neg he]
 rw[hV]at cB ⊢;generalize Jcw a b=E at *;obtain⟨p1,c1,rfl,_⟩:=h1;obtain⟨p2,c2,rfl,_⟩:=h2;clear hT w1 w2 hV
 go_enter func259,ntmps259
 go_wp2_with (go_at_call 204;refine Calls.mono cB.out ?_;rintro e w1 ⟨rfl,hb1⟩)
 go_ret2
 exact⟨rfl,hb1⟩
theorem Jsi(v1 v2:Value)(first:Bool)(a b:List Pt)(w:World)(hT:Lib.Utf8Tabs 3 4 w)(h1:opAt w v1 a)(h2:opAt w v2 b)(w1:∀p∈a,wfP p)(w2:∀p∈b,wfP p)(l1:a.length<10000000)(l2:b.length<10000000)(he:Jcw a b=0)(hl:(JaS b).1≠(JaS a).1) :
    Cg 259 #[v1,v2,.bool first] w (Rt w (.tuple #[.slice none 0 0,errV (2)])):=by
 have cB:Hid _:=Jcj v1 v2 a b w hT h1 h2 w1 w2 l1 l2;have hV:errV (Jcw a b)=.nilIface:=by unfold errV;rw[if_pos he]
 have hV2:errV 2=.iface 25 (I6 2):=rfl;rw[hV]at cB;rw[hV2];have cL1:=hdz λwx (hb:Bw w wx)=>Jct v1 a wx (JaV h1 hb) l1;have cL2:=hdz λwx (hb:Bw w wx)=>Jct v2 b wx (JaV h2 hb) l2;generalize (JaS a).1=A1 at *;generalize (JaS a).2=A2 at *;generalize (JaS b).1=B1 at *;generalize (JaS b).2=B2 at *;obtain⟨p1,c1,rfl,_⟩:=h1;obtain⟨p2,c2,rfl,_⟩:=h2;clear hT w1 w2 hV hV2
 go_enter func259,ntmps259
 go_wp2_with (first
  | (have _:=HB2;go_at_call 100;refine(cL2.out _ HB2.out).mono ?_;rintro e w3 ⟨rfl,hb3⟩;have HB3:=hdz (HB2.out.trans (hb3.mono HB2.out.size));clear hb3)
  | (go_at_call 100;refine(cL1.out _ HB1.out).mono ?_;rintro e w2 ⟨rfl,hb2⟩;have HB2:=hdz (HB1.out.trans (hb2.mono HB1.out.size));clear hb2)
  | (go_at_call 204;refine Calls.mono cB.out ?_;rintro e w1 ⟨rfl,hb1⟩;have HB1:=hdz hb1;clear hb1))
 go_ret2
 exact⟨rfl,HB3.out⟩
theorem Jkn(v1 v2:Value)(first:Bool)(a b:List Pt)(w:World)(hT:Lib.Utf8Tabs 3 4 w)(h1:opAt w v1 a)(h2:opAt w v2 b)(w1:∀p∈a,wfP p)(w2:∀p∈b,wfP p)(l1:a.length<10000000)(l2:b.length<10000000)(hf:Jcw a b=0->fineP a/\fineP b) :
    Cg 259 #[v1,v2,.bool first] w λe w'=>∃v',e=.returned (.tuple #[v',errV (Jom a b)])/\opN w.heap.size w' v' (if Jom a b=0 then JaG (Jbj first a b) else [])/\Bw w w':=by
 have none:∀w',opN w.heap.size w' (.slice none 0 0) []:=Jfl _;unfold Jom
 by_cases he:Jcw a b=0
 . obtain ⟨f1,f2⟩:=hf he
   rw[if_pos he]
   by_cases hl:(JaS b).1=(JaS a).1
   . rw[if_pos hl,if_pos rfl]
     show Calls _ _ _ _ λe w'=>∃v',e=.returned (.tuple #[v',.nilIface])/\_
     cases first with
     | true=>exact(Jux v1 v2 a b w hT h1 h2 w1 w2 f1 f2 he hl)
     | false=>exact(Juw v1 v2 a b w hT h1 h2 w1 w2 f1 f2 he hl)
   . rw[if_neg hl,if_neg (by decide)]
     exact(Jsi v1 v2 first a b w hT h1 h2 w1 w2 l1 l2 he hl).mono λe w' h=>⟨_,h.1,none w',h.2⟩
 . rw[if_neg he,if_neg he]
   exact(Jsk v1 v2 first a b w hT h1 h2 w1 w2 l1 l2 he).mono λe w' h=>⟨_,h.1,none w',h.2⟩
theorem Jv7(v1 v2:Value)(a b:List Pt)(w:World)(hT:Lib.Utf8Tabs 3 4 w)(h1:opAt w v1 a)(h2:opAt w v2 b)(w1:∀p∈a,wfP p)(w2:∀p∈b,wfP p)(l1:a.length<10000000)(l2:b.length<10000000)(he:Jcw a b≠0) :
    Cg 160 #[v1,v2] w (Rt w (.tuple #[.slice none 0 0,errV (Jcw a b)])):=by
 have cB:Hid _:=Jcj v1 v2 a b w hT h1 h2 w1 w2 l1 l2;have hV:errV (Jcw a b)=.iface 25 (I6 (Jcw a b)):=by unfold errV;rw[if_neg he]
 rw[hV]at cB ⊢;generalize Jcw a b=E at *;obtain⟨p1,c1,rfl,_⟩:=h1;obtain⟨p2,c2,rfl,_⟩:=h2;clear hT w1 w2 hV
 go_enter func160,ntmps160
 go_wp2_with (go_at_call 204;refine Calls.mono cB.out ?_;rintro e w1 ⟨rfl,hb1⟩)
 go_ret2
 exact⟨rfl,hb1⟩
theorem Jv6(v1 v2:Value)(a b:List Pt)(w:World)(hT:Lib.Utf8Tabs 3 4 w)(h1:opAt w v1 a)(h2:opAt w v2 b)(w1:∀p∈a,wfP p)(w2:∀p∈b,wfP p)(l1:a.length<10000000)(l2:b.length<10000000)(he:Jcw a b=0)(hl:(JaS b).1≠(JaS a).2) :
    Cg 160 #[v1,v2] w (Rt w (.tuple #[.slice none 0 0,errV (2)])):=by
 have cB:Hid _:=Jcj v1 v2 a b w hT h1 h2 w1 w2 l1 l2;have hV:errV (Jcw a b)=.nilIface:=by unfold errV;rw[if_pos he]
 have hV2:errV 2=.iface 25 (I6 2):=rfl;rw[hV]at cB;rw[hV2];have cL1:=hdz λwx (hb:Bw w wx)=>Jct v1 a wx (JaV h1 hb) l1;have cL2:=hdz λwx (hb:Bw w wx)=>Jct v2 b wx (JaV h2 hb) l2;generalize (JaS a).1=A1 at *;generalize (JaS a).2=A2 at *;generalize (JaS b).1=B1 at *;generalize (JaS b).2=B2 at *;obtain⟨p1,c1,rfl,_⟩:=h1;obtain⟨p2,c2,rfl,_⟩:=h2;clear hT w1 w2 hV hV2
 go_enter func160,ntmps160
 go_wp2_with (first
  | (have _:=HB2;go_at_call 100;refine(cL2.out _ HB2.out).mono ?_;rintro e w3 ⟨rfl,hb3⟩;have HB3:=hdz (HB2.out.trans (hb3.mono HB2.out.size));clear hb3)
  | (go_at_call 100;refine(cL1.out _ HB1.out).mono ?_;rintro e w2 ⟨rfl,hb2⟩;have HB2:=hdz (HB1.out.trans (hb2.mono HB1.out.size));clear hb2)
  | (go_at_call 204;refine Calls.mono cB.out ?_;rintro e w1 ⟨rfl,hb1⟩;have HB1:=hdz hb1;clear hb1))
 go_ret2
 exact⟨rfl,HB3.out⟩
theorem JtG(v1 v2:Value)(a b:List Pt)(w:World)(hT:Lib.Utf8Tabs 3 4 w)(h1:opAt w v1 a)(h2:opAt w v2 b)(w1:∀p∈a,wfP p)(w2:∀p∈b,wfP p)(l1:a.length<10000000)(l2:b.length<10000000)(hf:Jcw a b=0->fineP a/\fineP b) :
    Cg 160 #[v1,v2] w λe w'=>∃v',e=.returned (.tuple #[v',errV (JtH a b)])/\opN w.heap.size w' v' (if JtH a b=0 then JaG (Jj7 a b) else [])/\Bw w w':=by
 have none:∀w',opN w.heap.size w' (.slice none 0 0) []:=Jfl _;unfold JtH
 by_cases he:Jcw a b=0
 . obtain ⟨f1,f2⟩:=hf he
   rw[if_pos he]
   by_cases hl:(JaS b).1=(JaS a).2
   . rw[if_pos hl,if_pos rfl]
     show Calls _ _ _ _ λe w'=>∃v',e=.returned (.tuple #[v',.nilIface])/\_;exact(Jrx v1 v2 a b w hT h1 h2 w1 w2 f1 f2 he hl)
   . rw[if_neg hl,if_neg (by decide)]
     exact(Jv6 v1 v2 a b w hT h1 h2 w1 w2 l1 l2 he hl).mono λe w' h=>⟨_,h.1,none w',h.2⟩
 . rw[if_neg he,if_neg he]
   exact(Jv7 v1 v2 a b w hT h1 h2 w1 w2 l1 l2 he).mono λe w' h=>⟨_,h.1,none w',h.2⟩
theorem JuE{W:World}{g:Nat}{ps:List Pt}{t:TypeId}{fz:Nat×Nat}(h:W.heap[g]?=some (.cells (JaM ps).toArray t fz))(hl:ps.length<=maxLen):opAt W (Sl g ps.length ps.length) ps:=by
 refine⟨_,_,rfl,nlr _,hl,λ_=>⟨g,0,rfl,Jaw h,λi q hi=>?_⟩⟩;have hc:=Jgl ps i q hi;have key:∀j,j<3->W.cell? (Ad g (0+i*3+j))=(JaL q)[j]?:=λj hj=>by
  have:=chp h (0+i*3+j);rw[this,Nat.zero_add,←hc j hj];simp
 exact⟨key 0 (by omega),key 1 (by omega),key 2 (by omega)⟩
def d1:List Pt:=[⟨0,0,[120]⟩,⟨3,0,[]⟩]
def d2:List Pt:=[⟨2,0,[]⟩,⟨0,0,[120]⟩,⟨1,0,[]⟩]
end
end Go.Proofs.YtbkeomcicobohaaGreatDoor
