/-
  A part of the texts that the proof uses.
-/
import Derived.Test.YtbkeomcicobohaaGreatDoorPartA
set_option maxRecDepth 100000
set_option maxHeartbeats 40000000
set_option linter.unusedVariables false
namespace Go.Proofs.YtbkeomcicobohaaGreatDoor
open Go.Proofs.Tryz Go.RowKit Go.Maps
section
attribute [local go_sem] Jaj JaD
theorem turn_A(pl pr:Option Addr)(ll a d r:T)(c lc b:List Nat)(w:World)(hl:Jau w pl (.node ll lc (.node a b d)))(hr:Jau w pr r)(hz:big (.node (.node ll lc a) b (.node d c r)))(hd:(T.node ll lc (.node a b d)).height=r.height+2)(hc:ll.height<(T.node a b d).height) :
    Cg 272 #[.pointer pl,JaF c,.pointer pr] w λe w'=>∃p,e=.returned (.pointer p)/\Jau w' p (.node (.node ll lc a) b (.node d c r))/\Bw w w':=by
 have hb0:∀o,Bw w (w.alloc o):=λo=>(brf _ w).alloc (nlr _) o;have HR:Hid (Jau w pr r):=hr;have cl:=λo=>Ja6 pl (.node ll lc (.node a b d)) (w.alloc o) (Jab (hb0 o) hl);have cr:=λo=>Ja6 pr r (w.alloc o) (Jab (hb0 o) hr);have hzT:=hz;obtain⟨z1,z2,_,_⟩:=JbW hz;obtain⟨b1,pll,plr,rfl,⟨uc0,uc1,uc2,uc3,uc4⟩,⟨uc5,uc6⟩,_,_,hlu,hru⟩:=hl;have hruT:=hru;obtain⟨b2,pa,pd,rfl,⟨vc0,vc1,vc2,vc3,vc4⟩,⟨vc5,vc6⟩,_,_,hlv,hrv⟩:=hruT;have hq:((T.node ll lc (.node a b d)).height:Int)<1000000000/\(r.height:Int)<1000000000/\((T.node a b d).height:Int)<1000000000/\(ll.height:Int)<1000000000:=by
  have e1:=(JbW hz).2.2.2;have e2:=JbU (T.node (.node ll lc a) b (.node d c r));have e3:=hz.2;simp only[T.height,T.size]at *;omega
 have hp:0<=((T.node ll lc (.node a b d)).height:Int)/\0<=(r.height:Int):=by omega
 have k0:((T.node ll lc (.node a b d)).height:Int)=(r.height:Int)+2:=by rw[hd];push_cast;rfl
 have k1:(((T.node ll lc (.node a b d)).height:Int) - r.height==2)=true:=by rw[beq_iff_eq];omega
 have k2:(((T.node ll lc (.node a b d)).height:Int) - r.height == -2)=false:=by rw[beq_eq_false_iff_ne];omega
 have k3:((ll.height:Int)<((T.node a b d).height:Int)):=by omega
 have ck:=λwx (hb:Bw w wx)=>(Ja6 (some (Ad b2 0)) (.node a b d) wx (Jab hb hru)).mono (R':=(Rt wx (I6 (T.node a b d).height))) (by rintro e w' ⟨rfl,rfl⟩;exact⟨rfl,brf _ _⟩);have co:=λwx (hb:Bw w wx)=>(Ja6 pll ll wx (Jab hb hlu)).mono (R':=(Rt wx (I6 ll.height))) (by rintro e w' ⟨rfl,rfl⟩;exact⟨rfl,brf _ _⟩);have HLU:=hdz hlu;have HLV:=hdz hlv;have HRV:=hdz hrv;clear k0 hd hc hzT;generalize ((T.node ll lc (.node a b d)).height:Int)=x1 at *;generalize (r.height:Int)=x2 at *;generalize ((T.node a b d).height:Int)=x3 at *;generalize (ll.height:Int)=x4 at *;have HZ:=hdz hz;have Hz1:=hdz z1;have Hz2:=hdz z2;clear hz z1 z2 hlu hru hlv hrv;have d6:=λo=>Jac (hb0 o) uc6;unfold JaF
 go_enter func272,ntmps272
 go_wp2_with (first | (go_at_call_of 271 b1;refine(cl _).mono ?_;rintro e w1 ⟨rfl,rfl⟩) | (go_at_call_of 271 pr;refine(cr _).mono ?_;rintro e w1 ⟨rfl,rfl⟩))
 obtain⟨W1,hW1⟩:∃W1,w.alloc (Oc #[.string (Jah c),I6 (C1 c),I6 (C2 c),I6 (C3 c),I6 (C4 c)] 275)=W1:=⟨_,rfl⟩;have hbW1:Bw w W1:=by rw[←hW1];exact hb0 _
 have x0:W1.cell? (Ad w.heap.size 0)=some (.string (Jah c)):=by rw[←hW1];simp[go_sem]
 have y1:W1.cell? (Ad w.heap.size 1)=some (I6 (C1 c)):=by rw[←hW1];simp[go_sem]
 have y2:W1.cell? (Ad w.heap.size 2)=some (I6 (C2 c)):=by rw[←hW1];simp[go_sem]
 have y3:W1.cell? (Ad w.heap.size 3)=some (I6 (C3 c)):=by rw[←hW1];simp[go_sem]
 have y4:W1.cell? (Ad w.heap.size 4)=some (I6 (C4 c)):=by rw[←hW1];simp[go_sem]
 rw[hW1];clear hW1 cl cr;obtain⟨G0,hG0⟩:=Jas W1;have hb0w:∀x,Bw w (G0 x):=λx=>hbW1.trans ((hG0.below x).mono hbW1.size);have q5:=hG0.cell (Jac hbW1 uc5);have HG0:Hid (Growth W1 G0):=hG0;refine Jdy hG0 (by kernel_rfl) (by kernel_rfl) ?_;clear hG0 d6
 repeat (first
  | go_big_quiet_skip
  | (go_big_quiet_want;go_big_quiet_op;first | go_big_quiet_on | (apply Exists.intro;refine⟨λ_=>?_,?_⟩;(first | (go_at_call_of 271 b2;exact JfJ HG0.out (ck _ (hb0w _))) | (go_at_call_of 271 pll;exact JfJ HG0.out (co _ (hb0w _))));go_big_quiet_on)))
 refine wpQuiet_nil ?_;rintro w0 ⟨xx,rfl⟩;go_wp2;have hbx:=hb0w xx;have hbx1:Bw W1 (G0 xx):=HG0.out.below xx;obtain⟨w0,hw0⟩:∃w0,G0 xx=w0:=⟨_,rfl⟩;rw[hw0]at hbx hbx1 ⊢;clear hw0 q5 HG0 hb0w ck co;refine Ja4 26 26 (by kernel_rfl) rfl ?_;intro w1 hb1;have hbw:Bw w w1:=hbx.trans (hb1.mono hbx.size);have hbb:Bw W1 w1:=hbx1.trans (hb1.mono hbx1.size);obtain⟨G,hG⟩:=Jas w1;have g0:=hG.cell (Jac hbb x0);have g1:=hG.cell (Jac hbb y1);have g2:=hG.cell (Jac hbb y2);have g3:=hG.cell (Jac hbb y3);have g4:=hG.cell (Jac hbb y4);have ug0:=hG.cell (Jac hbw uc0);have ug1:=hG.cell (Jac hbw uc1);have ug2:=hG.cell (Jac hbw uc2);have ug3:=hG.cell (Jac hbw uc3);have ug4:=hG.cell (Jac hbw uc4);have ug5:=hG.cell (Jac hbw uc5);have ug6:=hG.cell (Jac hbw uc6);have vg0:=hG.cell (Jac hbw vc0);have vg1:=hG.cell (Jac hbw vc1);have vg2:=hG.cell (Jac hbw vc2);have vg3:=hG.cell (Jac hbw vc3);have vg4:=hG.cell (Jac hbw vc4);have vg5:=hG.cell (Jac hbw vc5);have vg6:=hG.cell (Jac hbw vc6);clear uc0 uc1 uc2 uc3 uc4 uc5 uc6 vc0 vc1 vc2 vc3 vc4 vc5 vc6 x0 y1 y2 y3 y4 hbb hbx hbx1 hb1
 (refine Jaa hG (i:=0) rfl (by kernel_rfl) (by kernel_rfl) (by kernel_rfl) (λK hK=>?_);go_simp;refine hK _ ?_;clear hK K)
 (refine Jaa hG (i:=1) rfl (by kernel_rfl) (by kernel_rfl) (by kernel_rfl) (λK hK=>?_);go_simp;refine hK _ ?_;clear hK K)
 (refine Jaa hG (i:=2) rfl (by kernel_rfl) (by kernel_rfl) (by kernel_rfl) (λK hK=>?_);go_simp;refine hK _ ?_;clear hK K)
 (refine Jaa hG (i:=3) rfl (by kernel_rfl) (by kernel_rfl) (by kernel_rfl) (λK hK=>?_);go_simp;refine hK _ ?_;clear hK K)
 (refine Jaa hG (i:=4) rfl (by kernel_rfl) (by kernel_rfl) (by kernel_rfl) (λK hK=>?_);go_simp;refine hK _ ?_;clear hK K)
 (refine Jaa hG (i:=5) rfl (by kernel_rfl) (by kernel_rfl) (by kernel_rfl) (λK hK=>?_);go_simp;refine hK _ ?_;clear hK K)
 (refine Jaa hG (i:=6) rfl (by kernel_rfl) (by kernel_rfl) (by kernel_rfl) (λK hK=>?_);go_simp;refine hK _ ?_;clear hK K)
 (refine Jaa hG (i:=7) rfl (by kernel_rfl) (by kernel_rfl) (by kernel_rfl) (λK hK=>?_);go_simp;refine hK _ ?_;clear hK K)
 (refine Jaa hG (i:=8) rfl (by kernel_rfl) (by kernel_rfl) (by kernel_rfl) (λK hK=>?_);go_simp;refine hK _ ?_;clear hK K)
 (refine Jaa hG (i:=9) rfl (by kernel_rfl) (by kernel_rfl) (by kernel_rfl) (λK hK=>?_);go_simp;refine hK _ ?_;clear hK K)
 (refine Jaa hG (i:=10) rfl (by kernel_rfl) (by kernel_rfl) (by kernel_rfl) (λK hK=>?_);go_simp;refine hK _ ?_;clear hK K)
 (refine Jaa hG (i:=11) rfl (by kernel_rfl) (by kernel_rfl) (by kernel_rfl) (λK hK=>?_);go_simp;refine hK _ ?_;clear hK K)
 (refine Jaa hG (i:=13) rfl (by kernel_rfl) (by kernel_rfl) (by kernel_rfl) (λK hK=>?_);go_simp;refine hK _ ?_;clear hK K)
 (refine Jaa hG (i:=14) rfl (by kernel_rfl) (by kernel_rfl) (by kernel_rfl) (λK hK=>?_);go_simp;refine hK _ ?_;clear hK K)
 (refine Jaa hG (i:=15) rfl (by kernel_rfl) (by kernel_rfl) (by kernel_rfl) (λK hK=>?_);go_simp;refine hK _ ?_;clear hK K)
 (refine Jaa hG (i:=16) rfl (by kernel_rfl) (by kernel_rfl) (by kernel_rfl) (λK hK=>?_);go_simp;refine hK _ ?_;clear hK K)
 (refine Jaa hG (i:=17) rfl (by kernel_rfl) (by kernel_rfl) (by kernel_rfl) (λK hK=>?_);go_simp;refine hK _ ?_;clear hK K)
 (refine Jaa hG (i:=18) rfl (by kernel_rfl) (by kernel_rfl) (by kernel_rfl) (λK hK=>?_);go_simp;refine hK _ ?_;clear hK K)
 (refine Jaa hG (i:=19) rfl (by kernel_rfl) (by kernel_rfl) (by kernel_rfl) (λK hK=>?_);go_simp;refine hK _ ?_;clear hK K)
 (refine Jaa hG (i:=20) rfl (by kernel_rfl) (by kernel_rfl) (by kernel_rfl) (λK hK=>?_);go_simp;refine hK _ ?_;clear hK K)
 (refine Jaa hG (i:=21) rfl (by kernel_rfl) (by kernel_rfl) (by kernel_rfl) (λK hK=>?_);go_simp;refine hK _ ?_;clear hK K)
 (refine Jaa hG (i:=22) rfl (by kernel_rfl) (by kernel_rfl) (by kernel_rfl) (λK hK=>?_);go_simp;refine hK _ ?_;clear hK K)
 clear g0 g1 g2 g3 g4 ug0 ug1 ug2 ug3 ug4 ug5 ug6 vg0 vg1 vg2 vg3 vg4 vg5 vg6 hG;refine Jbf (i:=12) rfl (by kernel_rfl) ?_;intro w2 hbw2 K hK;have hww2:Bw w w2:=hbw.trans (hbw2.mono hbw.size);have ck:=Jcl Hz1.out (Jab hww2 HLU.out) (Jab hww2 HLV.out);unfold JaF at ck
 go_simp
 refine ck.mono ?_;rintro e w3 ⟨p1,rfl,ht1,hb3⟩;have hww3:Bw w w3:=hww2.trans (hb3.mono hww2.size);refine⟨_,rfl,hK _ _ hb3 ?_⟩;clear hK K ck;refine Jbf (i:=23) rfl (by kernel_rfl) ?_;intro w4 hbw4 K hK;have hww4:Bw w w4:=hww3.trans (hbw4.mono hww3.size);have ck:=Jcl Hz2.out (Jab hww4 HRV.out) (Jab hww4 HR.out);unfold JaF at ck
 go_simp
 refine ck.mono ?_;rintro e w5 ⟨p2,rfl,ht2,hb5⟩;have hww5:Bw w w5:=hww4.trans (hb5.mono hww4.size);refine⟨_,rfl,hK _ _ hb5 ?_⟩;clear hK K ck;have ht1':=Jab (hbw4.trans (hb5.mono hbw4.size)) ht1;refine Jbf (i:=24) rfl (by kernel_rfl) ?_;intro w6 hbw6 K hK;have hww6:Bw w w6:=hww5.trans (hbw6.mono hww5.size);have ck:=Jcl HZ.out (Jab hbw6 ht1') (Jab hbw6 ht2);unfold JaF at ck
 go_simp
 refine ck.mono ?_;rintro e w7 ⟨p3,rfl,ht3,hb7⟩;have hww7:Bw w w7:=hww6.trans (hb7.mono hww6.size);refine⟨_,rfl,hK _ _ hb7 ?_⟩;clear hK K ck;clear ht1 ht2 ht1';refine Jbf (i:=25) rfl (by kernel_rfl) ?_;intro w90 hb90 K hK
 go_simp
 refine hK _ _ (brf _ w90) ?_;clear hK K;refine Jbi (by kernel_rfl) ?_;intro w91 hb91;have hb92:=hb90.trans (hb91.mono hb90.size);have hw92:Bw w w91:=hww7.trans (hb92.mono hww7.size);have HT:Hid _:=Jab hb92 ht3;clear hb90 hb91 hb92 ht3;go_wp2;go_ret;exact⟨_,rfl,HT.out,hw92⟩
theorem JvV(pl pr:Option Addr)(ll lr r:T)(c lc:List Nat)(w:World)(hl:Jau w pl (.node ll lc lr))(hr:Jau w pr r)(hz:big (.node ll lc (.node lr c r)))(hd:(T.node ll lc lr).height=r.height+2)(hc:¬ll.height<lr.height) :
    Cg 272 #[.pointer pl,JaF c,.pointer pr] w λe w'=>∃p,e=.returned (.pointer p)/\Jau w' p (.node ll lc (.node lr c r))/\Bw w w':=by
 have hb0:∀o,Bw w (w.alloc o):=λo=>(brf _ w).alloc (nlr _) o;have HR:Hid (Jau w pr r):=hr;have cl:=λo=>Ja6 pl (.node ll lc lr) (w.alloc o) (Jab (hb0 o) hl);have cr:=λo=>Ja6 pr r (w.alloc o) (Jab (hb0 o) hr);have hzT:=hz;obtain⟨_,z2,_,_⟩:=JbW hz;obtain⟨b1,pll,plr,rfl,⟨uc0,uc1,uc2,uc3,uc4⟩,⟨uc5,uc6⟩,_,_,hlu,hru⟩:=hl;have hq:((T.node ll lc lr).height:Int)<1000000000/\(r.height:Int)<1000000000/\(lr.height:Int)<1000000000/\(ll.height:Int)<1000000000:=by
  have e1:=(JbW hz).2.2.2;have e2:=JbU (T.node ll lc (.node lr c r));have e3:=hz.2;simp only[T.height,T.size]at *;omega
 have hp:0<=((T.node ll lc lr).height:Int)/\0<=(r.height:Int):=by omega
 have k0:((T.node ll lc lr).height:Int)=(r.height:Int)+2:=by rw[hd];push_cast;rfl
 have k1:(((T.node ll lc lr).height:Int) - r.height==2)=true:=by rw[beq_iff_eq];omega
 have k2:(((T.node ll lc lr).height:Int) - r.height == -2)=false:=by rw[beq_eq_false_iff_ne];omega
 have k3:¬((ll.height:Int)<(lr.height:Int)):=by omega
 have ck:=λwx (hb:Bw w wx)=>(Ja6 plr lr wx (Jab hb hru)).mono (R':=(Rt wx (I6 lr.height))) (by rintro e w' ⟨rfl,rfl⟩;exact⟨rfl,brf _ _⟩);have co:=λwx (hb:Bw w wx)=>(Ja6 pll ll wx (Jab hb hlu)).mono (R':=(Rt wx (I6 ll.height))) (by rintro e w' ⟨rfl,rfl⟩;exact⟨rfl,brf _ _⟩);have HLU:=hdz hlu;have HRU:=hdz hru;clear k0 hd hc hzT;generalize ((T.node ll lc lr).height:Int)=x1 at *;generalize (r.height:Int)=x2 at *;generalize (lr.height:Int)=x3 at *;generalize (ll.height:Int)=x4 at *;have HZ:=hdz hz;have Hz2:=hdz z2;clear hz z2 hlu hru;have d6:=λo=>Jac (hb0 o) uc6;unfold JaF
 go_enter func272,ntmps272
 go_wp2_with (first | (go_at_call_of 271 b1;refine(cl _).mono ?_;rintro e w1 ⟨rfl,rfl⟩) | (go_at_call_of 271 pr;refine(cr _).mono ?_;rintro e w1 ⟨rfl,rfl⟩))
 obtain⟨W1,hW1⟩:∃W1,w.alloc (Oc #[.string (Jah c),I6 (C1 c),I6 (C2 c),I6 (C3 c),I6 (C4 c)] 275)=W1:=⟨_,rfl⟩;have hbW1:Bw w W1:=by rw[←hW1];exact hb0 _
 have x0:W1.cell? (Ad w.heap.size 0)=some (.string (Jah c)):=by rw[←hW1];simp[go_sem]
 have y1:W1.cell? (Ad w.heap.size 1)=some (I6 (C1 c)):=by rw[←hW1];simp[go_sem]
 have y2:W1.cell? (Ad w.heap.size 2)=some (I6 (C2 c)):=by rw[←hW1];simp[go_sem]
 have y3:W1.cell? (Ad w.heap.size 3)=some (I6 (C3 c)):=by rw[←hW1];simp[go_sem]
 have y4:W1.cell? (Ad w.heap.size 4)=some (I6 (C4 c)):=by rw[←hW1];simp[go_sem]
 rw[hW1];clear hW1 cl cr;obtain⟨G0,hG0⟩:=Jas W1;have hb0w:∀x,Bw w (G0 x):=λx=>hbW1.trans ((hG0.below x).mono hbW1.size);have q5:=hG0.cell (Jac hbW1 uc5);have HG0:Hid (Growth W1 G0):=hG0;refine Jdy hG0 (by kernel_rfl) (by kernel_rfl) ?_;clear hG0 d6
 repeat (first
  | go_big_quiet_skip
  | (go_big_quiet_want;go_big_quiet_op;first | go_big_quiet_on | (apply Exists.intro;refine⟨λ_=>?_,?_⟩;(first | (go_at_call_of 271 plr;exact JfJ HG0.out (ck _ (hb0w _))) | (go_at_call_of 271 pll;exact JfJ HG0.out (co _ (hb0w _))));go_big_quiet_on)))
 refine wpQuiet_nil ?_;rintro w0 ⟨xx,rfl⟩;go_wp2;have hbx:=hb0w xx;have hbx1:Bw W1 (G0 xx):=HG0.out.below xx;obtain⟨w0,hw0⟩:∃w0,G0 xx=w0:=⟨_,rfl⟩;rw[hw0]at hbx hbx1 ⊢;clear hw0 q5 HG0 hb0w ck co;refine Ja4 17 17 (by kernel_rfl) rfl ?_;intro w1 hb1;have hbw:Bw w w1:=hbx.trans (hb1.mono hbx.size);have hbb:Bw W1 w1:=hbx1.trans (hb1.mono hbx1.size);obtain⟨G,hG⟩:=Jas w1;have g0:=hG.cell (Jac hbb x0);have g1:=hG.cell (Jac hbb y1);have g2:=hG.cell (Jac hbb y2);have g3:=hG.cell (Jac hbb y3);have g4:=hG.cell (Jac hbb y4);have ug0:=hG.cell (Jac hbw uc0);have ug1:=hG.cell (Jac hbw uc1);have ug2:=hG.cell (Jac hbw uc2);have ug3:=hG.cell (Jac hbw uc3);have ug4:=hG.cell (Jac hbw uc4);have ug5:=hG.cell (Jac hbw uc5);have ug6:=hG.cell (Jac hbw uc6);clear uc0 uc1 uc2 uc3 uc4 uc5 uc6 x0 y1 y2 y3 y4 hbb hbx hbx1 hb1
 (refine Jaa hG (i:=0) rfl (by kernel_rfl) (by kernel_rfl) (by kernel_rfl) (λK hK=>?_);go_simp;refine hK _ ?_;clear hK K)
 (refine Jaa hG (i:=1) rfl (by kernel_rfl) (by kernel_rfl) (by kernel_rfl) (λK hK=>?_);go_simp;refine hK _ ?_;clear hK K)
 (refine Jaa hG (i:=2) rfl (by kernel_rfl) (by kernel_rfl) (by kernel_rfl) (λK hK=>?_);go_simp;refine hK _ ?_;clear hK K)
 (refine Jaa hG (i:=3) rfl (by kernel_rfl) (by kernel_rfl) (by kernel_rfl) (λK hK=>?_);go_simp;refine hK _ ?_;clear hK K)
 (refine Jaa hG (i:=4) rfl (by kernel_rfl) (by kernel_rfl) (by kernel_rfl) (λK hK=>?_);go_simp;refine hK _ ?_;clear hK K)
 (refine Jaa hG (i:=5) rfl (by kernel_rfl) (by kernel_rfl) (by kernel_rfl) (λK hK=>?_);go_simp;refine hK _ ?_;clear hK K)
 (refine Jaa hG (i:=6) rfl (by kernel_rfl) (by kernel_rfl) (by kernel_rfl) (λK hK=>?_);go_simp;refine hK _ ?_;clear hK K)
 (refine Jaa hG (i:=7) rfl (by kernel_rfl) (by kernel_rfl) (by kernel_rfl) (λK hK=>?_);go_simp;refine hK _ ?_;clear hK K)
 (refine Jaa hG (i:=8) rfl (by kernel_rfl) (by kernel_rfl) (by kernel_rfl) (λK hK=>?_);go_simp;refine hK _ ?_;clear hK K)
 (refine Jaa hG (i:=9) rfl (by kernel_rfl) (by kernel_rfl) (by kernel_rfl) (λK hK=>?_);go_simp;refine hK _ ?_;clear hK K)
 (refine Jaa hG (i:=10) rfl (by kernel_rfl) (by kernel_rfl) (by kernel_rfl) (λK hK=>?_);go_simp;refine hK _ ?_;clear hK K)
 (refine Jaa hG (i:=11) rfl (by kernel_rfl) (by kernel_rfl) (by kernel_rfl) (λK hK=>?_);go_simp;refine hK _ ?_;clear hK K)
 (refine Jaa hG (i:=12) rfl (by kernel_rfl) (by kernel_rfl) (by kernel_rfl) (λK hK=>?_);go_simp;refine hK _ ?_;clear hK K)
 (refine Jaa hG (i:=13) rfl (by kernel_rfl) (by kernel_rfl) (by kernel_rfl) (λK hK=>?_);go_simp;refine hK _ ?_;clear hK K)
 clear g0 g1 g2 g3 g4 ug0 ug1 ug2 ug3 ug4 ug5 ug6 hG;refine Jbf (i:=14) rfl (by kernel_rfl) ?_;intro w2 hbw2 K hK;have hww2:Bw w w2:=hbw.trans (hbw2.mono hbw.size);have ck:=Jcl Hz2.out (Jab hww2 HRU.out) (Jab hww2 HR.out);unfold JaF at ck
 go_simp
 refine ck.mono ?_;rintro e w3 ⟨p1,rfl,ht1,hb3⟩;have hww3:Bw w w3:=hww2.trans (hb3.mono hww2.size);refine⟨_,rfl,hK _ _ hb3 ?_⟩;clear hK K ck;refine Jbf (i:=15) rfl (by kernel_rfl) ?_;intro w4 hbw4 K hK;have hww4:Bw w w4:=hww3.trans (hbw4.mono hww3.size);have ck:=Jcl HZ.out (Jab hww4 HLU.out) (Jab hbw4 ht1);unfold JaF at ck
 go_simp
 refine ck.mono ?_;rintro e w5 ⟨p2,rfl,ht2,hb5⟩;have hww5:Bw w w5:=hww4.trans (hb5.mono hww4.size);refine⟨_,rfl,hK _ _ hb5 ?_⟩;clear hK K ck;clear ht1;refine Jbf (i:=16) rfl (by kernel_rfl) ?_;intro w90 hb90 K hK
 go_simp
 refine hK _ _ (brf _ w90) ?_;clear hK K;refine Jbi (by kernel_rfl) ?_;intro w91 hb91;have hb92:=hb90.trans (hb91.mono hb90.size);have hw92:Bw w w91:=hww5.trans (hb92.mono hww5.size);have HT:Hid _:=Jab hb92 ht2;clear hb90 hb91 hb92 ht2;go_wp2;go_ret;exact⟨_,rfl,HT.out,hw92⟩
theorem turn_C(pl pr:Option Addr)(l a d rr:T)(c b rc:List Nat)(w:World)(hl:Jau w pl l)(hr:Jau w pr (.node (.node a b d) rc rr))(hz:big (.node (.node l c a) b (.node d rc rr)))(hd:(T.node (.node a b d) rc rr).height=l.height+2)(hc:rr.height<(T.node a b d).height) :
    Cg 272 #[.pointer pl,JaF c,.pointer pr] w λe w'=>∃p,e=.returned (.pointer p)/\Jau w' p (.node (.node l c a) b (.node d rc rr))/\Bw w w':=by
 have hb0:∀o,Bw w (w.alloc o):=λo=>(brf _ w).alloc (nlr _) o;have HL:Hid (Jau w pl l):=hl;have cl:=λo=>Ja6 pl l (w.alloc o) (Jab (hb0 o) hl);have cr:=λo=>Ja6 pr (.node (.node a b d) rc rr) (w.alloc o) (Jab (hb0 o) hr);have hzT:=hz;obtain⟨z1,z2,_,_⟩:=JbW hz;obtain⟨b1,prl,prr,rfl,⟨uc0,uc1,uc2,uc3,uc4⟩,⟨uc5,uc6⟩,_,_,hlu,hru⟩:=hr;have hluT:=hlu;obtain⟨b2,pa,pd,rfl,⟨vc0,vc1,vc2,vc3,vc4⟩,⟨vc5,vc6⟩,_,_,hlv,hrv⟩:=hluT;have hq:(l.height:Int)<1000000000/\((T.node (.node a b d) rc rr).height:Int)<1000000000/\((T.node a b d).height:Int)<1000000000/\(rr.height:Int)<1000000000:=by
  have e1:=(JbW hz).2.2.2;have e2:=JbU (T.node (.node l c a) b (.node d rc rr));have e3:=hz.2;simp only[T.height,T.size]at *;omega
 have hp:0<=(l.height:Int)/\0<=((T.node (.node a b d) rc rr).height:Int):=by omega
 have k0:((T.node (.node a b d) rc rr).height:Int)=(l.height:Int)+2:=by rw[hd];push_cast;rfl
 have k1:((l.height:Int) - (T.node (.node a b d) rc rr).height==2)=false:=by rw[beq_eq_false_iff_ne];omega
 have k2:((l.height:Int) - (T.node (.node a b d) rc rr).height == -2)=true:=by rw[beq_iff_eq];omega
 have k3:((rr.height:Int)<((T.node a b d).height:Int)):=by omega
 have ck:=λwx (hb:Bw w wx)=>(Ja6 (some (Ad b2 0)) (.node a b d) wx (Jab hb hlu)).mono (R':=(Rt wx (I6 (T.node a b d).height))) (by rintro e w' ⟨rfl,rfl⟩;exact⟨rfl,brf _ _⟩);have co:=λwx (hb:Bw w wx)=>(Ja6 prr rr wx (Jab hb hru)).mono (R':=(Rt wx (I6 rr.height))) (by rintro e w' ⟨rfl,rfl⟩;exact⟨rfl,brf _ _⟩);have HRU:=hdz hru;have HLV:=hdz hlv;have HRV:=hdz hrv;clear k0 hd hc hzT;generalize (l.height:Int)=x1 at *;generalize ((T.node (.node a b d) rc rr).height:Int)=x2 at *;generalize ((T.node a b d).height:Int)=x3 at *;generalize (rr.height:Int)=x4 at *;have HZ:=hdz hz;have Hz1:=hdz z1;have Hz2:=hdz z2;clear hz z1 z2 hlu hru hlv hrv;have d5:=λo=>Jac (hb0 o) uc5;unfold JaF
 go_enter func272,ntmps272
 go_wp2_with (first | (go_at_call_of 271 pl;refine(cl _).mono ?_;rintro e w1 ⟨rfl,rfl⟩) | (go_at_call_of 271 b1;refine(cr _).mono ?_;rintro e w1 ⟨rfl,rfl⟩))
 obtain⟨W1,hW1⟩:∃W1,w.alloc (Oc #[.string (Jah c),I6 (C1 c),I6 (C2 c),I6 (C3 c),I6 (C4 c)] 275)=W1:=⟨_,rfl⟩;have hbW1:Bw w W1:=by rw[←hW1];exact hb0 _
 have x0:W1.cell? (Ad w.heap.size 0)=some (.string (Jah c)):=by rw[←hW1];simp[go_sem]
 have y1:W1.cell? (Ad w.heap.size 1)=some (I6 (C1 c)):=by rw[←hW1];simp[go_sem]
 have y2:W1.cell? (Ad w.heap.size 2)=some (I6 (C2 c)):=by rw[←hW1];simp[go_sem]
 have y3:W1.cell? (Ad w.heap.size 3)=some (I6 (C3 c)):=by rw[←hW1];simp[go_sem]
 have y4:W1.cell? (Ad w.heap.size 4)=some (I6 (C4 c)):=by rw[←hW1];simp[go_sem]
 rw[hW1];clear hW1 cl cr;obtain⟨G0,hG0⟩:=Jas W1;have hb0w:∀x,Bw w (G0 x):=λx=>hbW1.trans ((hG0.below x).mono hbW1.size);have q6:=hG0.cell (Jac hbW1 uc6);have HG0:Hid (Growth W1 G0):=hG0;refine Jdy hG0 (by kernel_rfl) (by kernel_rfl) ?_;clear hG0 d5
 repeat (first
  | go_big_quiet_skip
  | (go_big_quiet_want;go_big_quiet_op;first | go_big_quiet_on | (apply Exists.intro;refine⟨λ_=>?_,?_⟩;(first | (go_at_call_of 271 b2;exact JfJ HG0.out (ck _ (hb0w _))) | (go_at_call_of 271 prr;exact JfJ HG0.out (co _ (hb0w _))));go_big_quiet_on)))
 refine wpQuiet_nil ?_;rintro w0 ⟨xx,rfl⟩;go_wp2;have hbx:=hb0w xx;have hbx1:Bw W1 (G0 xx):=HG0.out.below xx;obtain⟨w0,hw0⟩:∃w0,G0 xx=w0:=⟨_,rfl⟩;rw[hw0]at hbx hbx1 ⊢;clear hw0 q6 HG0 hb0w ck co;refine Ja4 26 26 (by kernel_rfl) rfl ?_;intro w1 hb1;have hbw:Bw w w1:=hbx.trans (hb1.mono hbx.size);have hbb:Bw W1 w1:=hbx1.trans (hb1.mono hbx1.size);obtain⟨G,hG⟩:=Jas w1;have g0:=hG.cell (Jac hbb x0);have g1:=hG.cell (Jac hbb y1);have g2:=hG.cell (Jac hbb y2);have g3:=hG.cell (Jac hbb y3);have g4:=hG.cell (Jac hbb y4);have ug0:=hG.cell (Jac hbw uc0);have ug1:=hG.cell (Jac hbw uc1);have ug2:=hG.cell (Jac hbw uc2);have ug3:=hG.cell (Jac hbw uc3);have ug4:=hG.cell (Jac hbw uc4);have ug5:=hG.cell (Jac hbw uc5);have ug6:=hG.cell (Jac hbw uc6);have vg0:=hG.cell (Jac hbw vc0);have vg1:=hG.cell (Jac hbw vc1);have vg2:=hG.cell (Jac hbw vc2);have vg3:=hG.cell (Jac hbw vc3);have vg4:=hG.cell (Jac hbw vc4);have vg5:=hG.cell (Jac hbw vc5);have vg6:=hG.cell (Jac hbw vc6);clear uc0 uc1 uc2 uc3 uc4 uc5 uc6 vc0 vc1 vc2 vc3 vc4 vc5 vc6 x0 y1 y2 y3 y4 hbb hbx hbx1 hb1
 (refine Jaa hG (i:=0) rfl (by kernel_rfl) (by kernel_rfl) (by kernel_rfl) (λK hK=>?_);go_simp;refine hK _ ?_;clear hK K)
 (refine Jaa hG (i:=1) rfl (by kernel_rfl) (by kernel_rfl) (by kernel_rfl) (λK hK=>?_);go_simp;refine hK _ ?_;clear hK K)
 (refine Jaa hG (i:=2) rfl (by kernel_rfl) (by kernel_rfl) (by kernel_rfl) (λK hK=>?_);go_simp;refine hK _ ?_;clear hK K)
 (refine Jaa hG (i:=3) rfl (by kernel_rfl) (by kernel_rfl) (by kernel_rfl) (λK hK=>?_);go_simp;refine hK _ ?_;clear hK K)
 (refine Jaa hG (i:=4) rfl (by kernel_rfl) (by kernel_rfl) (by kernel_rfl) (λK hK=>?_);go_simp;refine hK _ ?_;clear hK K)
 (refine Jaa hG (i:=5) rfl (by kernel_rfl) (by kernel_rfl) (by kernel_rfl) (λK hK=>?_);go_simp;refine hK _ ?_;clear hK K)
 (refine Jaa hG (i:=7) rfl (by kernel_rfl) (by kernel_rfl) (by kernel_rfl) (λK hK=>?_);go_simp;refine hK _ ?_;clear hK K)
 (refine Jaa hG (i:=8) rfl (by kernel_rfl) (by kernel_rfl) (by kernel_rfl) (λK hK=>?_);go_simp;refine hK _ ?_;clear hK K)
 (refine Jaa hG (i:=9) rfl (by kernel_rfl) (by kernel_rfl) (by kernel_rfl) (λK hK=>?_);go_simp;refine hK _ ?_;clear hK K)
 (refine Jaa hG (i:=10) rfl (by kernel_rfl) (by kernel_rfl) (by kernel_rfl) (λK hK=>?_);go_simp;refine hK _ ?_;clear hK K)
 (refine Jaa hG (i:=11) rfl (by kernel_rfl) (by kernel_rfl) (by kernel_rfl) (λK hK=>?_);go_simp;refine hK _ ?_;clear hK K)
 (refine Jaa hG (i:=12) rfl (by kernel_rfl) (by kernel_rfl) (by kernel_rfl) (λK hK=>?_);go_simp;refine hK _ ?_;clear hK K)
 (refine Jaa hG (i:=13) rfl (by kernel_rfl) (by kernel_rfl) (by kernel_rfl) (λK hK=>?_);go_simp;refine hK _ ?_;clear hK K)
 (refine Jaa hG (i:=14) rfl (by kernel_rfl) (by kernel_rfl) (by kernel_rfl) (λK hK=>?_);go_simp;refine hK _ ?_;clear hK K)
 (refine Jaa hG (i:=15) rfl (by kernel_rfl) (by kernel_rfl) (by kernel_rfl) (λK hK=>?_);go_simp;refine hK _ ?_;clear hK K)
 (refine Jaa hG (i:=16) rfl (by kernel_rfl) (by kernel_rfl) (by kernel_rfl) (λK hK=>?_);go_simp;refine hK _ ?_;clear hK K)
 (refine Jaa hG (i:=17) rfl (by kernel_rfl) (by kernel_rfl) (by kernel_rfl) (λK hK=>?_);go_simp;refine hK _ ?_;clear hK K)
 (refine Jaa hG (i:=18) rfl (by kernel_rfl) (by kernel_rfl) (by kernel_rfl) (λK hK=>?_);go_simp;refine hK _ ?_;clear hK K)
 (refine Jaa hG (i:=19) rfl (by kernel_rfl) (by kernel_rfl) (by kernel_rfl) (λK hK=>?_);go_simp;refine hK _ ?_;clear hK K)
 (refine Jaa hG (i:=20) rfl (by kernel_rfl) (by kernel_rfl) (by kernel_rfl) (λK hK=>?_);go_simp;refine hK _ ?_;clear hK K)
 (refine Jaa hG (i:=21) rfl (by kernel_rfl) (by kernel_rfl) (by kernel_rfl) (λK hK=>?_);go_simp;refine hK _ ?_;clear hK K)
 (refine Jaa hG (i:=22) rfl (by kernel_rfl) (by kernel_rfl) (by kernel_rfl) (λK hK=>?_);go_simp;refine hK _ ?_;clear hK K)
 clear g0 g1 g2 g3 g4 ug0 ug1 ug2 ug3 ug4 ug5 ug6 vg0 vg1 vg2 vg3 vg4 vg5 vg6 hG;refine Jbf (i:=6) rfl (by kernel_rfl) ?_;intro w2 hbw2 K hK;have hww2:Bw w w2:=hbw.trans (hbw2.mono hbw.size);have ck:=Jcl Hz1.out (Jab hww2 HL.out) (Jab hww2 HLV.out);unfold JaF at ck
 go_simp
 refine ck.mono ?_;rintro e w3 ⟨p1,rfl,ht1,hb3⟩;have hww3:Bw w w3:=hww2.trans (hb3.mono hww2.size);refine⟨_,rfl,hK _ _ hb3 ?_⟩;clear hK K ck;refine Jbf (i:=23) rfl (by kernel_rfl) ?_;intro w4 hbw4 K hK;have hww4:Bw w w4:=hww3.trans (hbw4.mono hww3.size);have ck:=Jcl Hz2.out (Jab hww4 HRV.out) (Jab hww4 HRU.out);unfold JaF at ck
 go_simp
 refine ck.mono ?_;rintro e w5 ⟨p2,rfl,ht2,hb5⟩;have hww5:Bw w w5:=hww4.trans (hb5.mono hww4.size);refine⟨_,rfl,hK _ _ hb5 ?_⟩;clear hK K ck;have ht1':=Jab (hbw4.trans (hb5.mono hbw4.size)) ht1;refine Jbf (i:=24) rfl (by kernel_rfl) ?_;intro w6 hbw6 K hK;have hww6:Bw w w6:=hww5.trans (hbw6.mono hww5.size);have ck:=Jcl HZ.out (Jab hbw6 ht1') (Jab hbw6 ht2);unfold JaF at ck
 go_simp
 refine ck.mono ?_;rintro e w7 ⟨p3,rfl,ht3,hb7⟩;have hww7:Bw w w7:=hww6.trans (hb7.mono hww6.size);refine⟨_,rfl,hK _ _ hb7 ?_⟩;clear hK K ck;clear ht1 ht2 ht1';refine Jbf (i:=25) rfl (by kernel_rfl) ?_;intro w90 hb90 K hK
 go_simp
 refine hK _ _ (brf _ w90) ?_;clear hK K;refine Jbi (by kernel_rfl) ?_;intro w91 hb91;have hb92:=hb90.trans (hb91.mono hb90.size);have hw92:Bw w w91:=hww7.trans (hb92.mono hww7.size);have HT:Hid _:=Jab hb92 ht3;clear hb90 hb91 hb92 ht3;go_wp2;go_ret;exact⟨_,rfl,HT.out,hw92⟩
theorem JvU(pl pr:Option Addr)(l rl rr:T)(c rc:List Nat)(w:World)(hl:Jau w pl l)(hr:Jau w pr (.node rl rc rr))(hz:big (.node (.node l c rl) rc rr))(hd:(T.node rl rc rr).height=l.height+2)(hc:¬rr.height<rl.height) :
    Cg 272 #[.pointer pl,JaF c,.pointer pr] w λe w'=>∃p,e=.returned (.pointer p)/\Jau w' p (.node (.node l c rl) rc rr)/\Bw w w':=by
 have hb0:∀o,Bw w (w.alloc o):=λo=>(brf _ w).alloc (nlr _) o;have HL:Hid (Jau w pl l):=hl;have cl:=λo=>Ja6 pl l (w.alloc o) (Jab (hb0 o) hl);have cr:=λo=>Ja6 pr (.node rl rc rr) (w.alloc o) (Jab (hb0 o) hr);have hzT:=hz;obtain⟨z1,_,_,_⟩:=JbW hz;obtain⟨b1,prl,prr,rfl,⟨uc0,uc1,uc2,uc3,uc4⟩,⟨uc5,uc6⟩,_,_,hlu,hru⟩:=hr;have hq:(l.height:Int)<1000000000/\((T.node rl rc rr).height:Int)<1000000000/\(rl.height:Int)<1000000000/\(rr.height:Int)<1000000000:=by
  have e1:=(JbW hz).2.2.2;have e2:=JbU (T.node (.node l c rl) rc rr);have e3:=hz.2;simp only[T.height,T.size]at *;omega
 have hp:0<=(l.height:Int)/\0<=((T.node rl rc rr).height:Int):=by omega
 have k0:((T.node rl rc rr).height:Int)=(l.height:Int)+2:=by rw[hd];push_cast;rfl
 have k1:((l.height:Int) - (T.node rl rc rr).height==2)=false:=by rw[beq_eq_false_iff_ne];omega
 have k2:((l.height:Int) - (T.node rl rc rr).height == -2)=true:=by rw[beq_iff_eq];omega
 have k3:¬((rr.height:Int)<(rl.height:Int)):=by omega
 have ck:=λwx (hb:Bw w wx)=>(Ja6 prl rl wx (Jab hb hlu)).mono (R':=(Rt wx (I6 rl.height))) (by rintro e w' ⟨rfl,rfl⟩;exact⟨rfl,brf _ _⟩);have co:=λwx (hb:Bw w wx)=>(Ja6 prr rr wx (Jab hb hru)).mono (R':=(Rt wx (I6 rr.height))) (by rintro e w' ⟨rfl,rfl⟩;exact⟨rfl,brf _ _⟩);have HLU:=hdz hlu;have HRU:=hdz hru;clear k0 hd hc hzT;generalize (l.height:Int)=x1 at *;generalize ((T.node rl rc rr).height:Int)=x2 at *;generalize (rl.height:Int)=x3 at *;generalize (rr.height:Int)=x4 at *;have HZ:=hdz hz;have Hz1:=hdz z1;clear hz z1 hlu hru;have d5:=λo=>Jac (hb0 o) uc5;unfold JaF
 go_enter func272,ntmps272
 go_wp2_with (first | (go_at_call_of 271 pl;refine(cl _).mono ?_;rintro e w1 ⟨rfl,rfl⟩) | (go_at_call_of 271 b1;refine(cr _).mono ?_;rintro e w1 ⟨rfl,rfl⟩))
 obtain⟨W1,hW1⟩:∃W1,w.alloc (Oc #[.string (Jah c),I6 (C1 c),I6 (C2 c),I6 (C3 c),I6 (C4 c)] 275)=W1:=⟨_,rfl⟩;have hbW1:Bw w W1:=by rw[←hW1];exact hb0 _
 have x0:W1.cell? (Ad w.heap.size 0)=some (.string (Jah c)):=by rw[←hW1];simp[go_sem]
 have y1:W1.cell? (Ad w.heap.size 1)=some (I6 (C1 c)):=by rw[←hW1];simp[go_sem]
 have y2:W1.cell? (Ad w.heap.size 2)=some (I6 (C2 c)):=by rw[←hW1];simp[go_sem]
 have y3:W1.cell? (Ad w.heap.size 3)=some (I6 (C3 c)):=by rw[←hW1];simp[go_sem]
 have y4:W1.cell? (Ad w.heap.size 4)=some (I6 (C4 c)):=by rw[←hW1];simp[go_sem]
 rw[hW1];clear hW1 cl cr;obtain⟨G0,hG0⟩:=Jas W1;have hb0w:∀x,Bw w (G0 x):=λx=>hbW1.trans ((hG0.below x).mono hbW1.size);have q6:=hG0.cell (Jac hbW1 uc6);have HG0:Hid (Growth W1 G0):=hG0;refine Jdy hG0 (by kernel_rfl) (by kernel_rfl) ?_;clear hG0 d5
 repeat (first
  | go_big_quiet_skip
  | (go_big_quiet_want;go_big_quiet_op;first | go_big_quiet_on | (apply Exists.intro;refine⟨λ_=>?_,?_⟩;(first | (go_at_call_of 271 prl;exact JfJ HG0.out (ck _ (hb0w _))) | (go_at_call_of 271 prr;exact JfJ HG0.out (co _ (hb0w _))));go_big_quiet_on)))
 refine wpQuiet_nil ?_;rintro w0 ⟨xx,rfl⟩;go_wp2;have hbx:=hb0w xx;have hbx1:Bw W1 (G0 xx):=HG0.out.below xx;obtain⟨w0,hw0⟩:∃w0,G0 xx=w0:=⟨_,rfl⟩;rw[hw0]at hbx hbx1 ⊢;clear hw0 q6 HG0 hb0w ck co;refine Ja4 17 17 (by kernel_rfl) rfl ?_;intro w1 hb1;have hbw:Bw w w1:=hbx.trans (hb1.mono hbx.size);have hbb:Bw W1 w1:=hbx1.trans (hb1.mono hbx1.size);obtain⟨G,hG⟩:=Jas w1;have g0:=hG.cell (Jac hbb x0);have g1:=hG.cell (Jac hbb y1);have g2:=hG.cell (Jac hbb y2);have g3:=hG.cell (Jac hbb y3);have g4:=hG.cell (Jac hbb y4);have ug0:=hG.cell (Jac hbw uc0);have ug1:=hG.cell (Jac hbw uc1);have ug2:=hG.cell (Jac hbw uc2);have ug3:=hG.cell (Jac hbw uc3);have ug4:=hG.cell (Jac hbw uc4);have ug5:=hG.cell (Jac hbw uc5);have ug6:=hG.cell (Jac hbw uc6);clear uc0 uc1 uc2 uc3 uc4 uc5 uc6 x0 y1 y2 y3 y4 hbb hbx hbx1 hb1
 (refine Jaa hG (i:=0) rfl (by kernel_rfl) (by kernel_rfl) (by kernel_rfl) (λK hK=>?_);go_simp;refine hK _ ?_;clear hK K)
 (refine Jaa hG (i:=1) rfl (by kernel_rfl) (by kernel_rfl) (by kernel_rfl) (λK hK=>?_);go_simp;refine hK _ ?_;clear hK K)
 (refine Jaa hG (i:=2) rfl (by kernel_rfl) (by kernel_rfl) (by kernel_rfl) (λK hK=>?_);go_simp;refine hK _ ?_;clear hK K)
 (refine Jaa hG (i:=3) rfl (by kernel_rfl) (by kernel_rfl) (by kernel_rfl) (λK hK=>?_);go_simp;refine hK _ ?_;clear hK K)
 (refine Jaa hG (i:=4) rfl (by kernel_rfl) (by kernel_rfl) (by kernel_rfl) (λK hK=>?_);go_simp;refine hK _ ?_;clear hK K)
 (refine Jaa hG (i:=5) rfl (by kernel_rfl) (by kernel_rfl) (by kernel_rfl) (λK hK=>?_);go_simp;refine hK _ ?_;clear hK K)
 (refine Jaa hG (i:=7) rfl (by kernel_rfl) (by kernel_rfl) (by kernel_rfl) (λK hK=>?_);go_simp;refine hK _ ?_;clear hK K)
 (refine Jaa hG (i:=8) rfl (by kernel_rfl) (by kernel_rfl) (by kernel_rfl) (λK hK=>?_);go_simp;refine hK _ ?_;clear hK K)
 (refine Jaa hG (i:=9) rfl (by kernel_rfl) (by kernel_rfl) (by kernel_rfl) (λK hK=>?_);go_simp;refine hK _ ?_;clear hK K)
 (refine Jaa hG (i:=10) rfl (by kernel_rfl) (by kernel_rfl) (by kernel_rfl) (λK hK=>?_);go_simp;refine hK _ ?_;clear hK K)
 (refine Jaa hG (i:=11) rfl (by kernel_rfl) (by kernel_rfl) (by kernel_rfl) (λK hK=>?_);go_simp;refine hK _ ?_;clear hK K)
 (refine Jaa hG (i:=12) rfl (by kernel_rfl) (by kernel_rfl) (by kernel_rfl) (λK hK=>?_);go_simp;refine hK _ ?_;clear hK K)
 (refine Jaa hG (i:=13) rfl (by kernel_rfl) (by kernel_rfl) (by kernel_rfl) (λK hK=>?_);go_simp;refine hK _ ?_;clear hK K)
 (refine Jaa hG (i:=14) rfl (by kernel_rfl) (by kernel_rfl) (by kernel_rfl) (λK hK=>?_);go_simp;refine hK _ ?_;clear hK K)
 clear g0 g1 g2 g3 g4 ug0 ug1 ug2 ug3 ug4 ug5 ug6 hG;refine Jbf (i:=6) rfl (by kernel_rfl) ?_;intro w2 hbw2 K hK;have hww2:Bw w w2:=hbw.trans (hbw2.mono hbw.size);have ck:=Jcl Hz1.out (Jab hww2 HL.out) (Jab hww2 HLU.out);unfold JaF at ck
 go_simp
 refine ck.mono ?_;rintro e w3 ⟨p1,rfl,ht1,hb3⟩;have hww3:Bw w w3:=hww2.trans (hb3.mono hww2.size);refine⟨_,rfl,hK _ _ hb3 ?_⟩;clear hK K ck;refine Jbf (i:=15) rfl (by kernel_rfl) ?_;intro w4 hbw4 K hK;have hww4:Bw w w4:=hww3.trans (hbw4.mono hww3.size);have ck:=Jcl HZ.out (Jab hbw4 ht1) (Jab hww4 HRU.out);unfold JaF at ck
 go_simp
 refine ck.mono ?_;rintro e w5 ⟨p2,rfl,ht2,hb5⟩;have hww5:Bw w w5:=hww4.trans (hb5.mono hww4.size);refine⟨_,rfl,hK _ _ hb5 ?_⟩;clear hK K ck;clear ht1;refine Jbf (i:=16) rfl (by kernel_rfl) ?_;intro w90 hb90 K hK
 go_simp
 refine hK _ _ (brf _ w90) ?_;clear hK K;refine Jbi (by kernel_rfl) ?_;intro w91 hb91;have hb92:=hb90.trans (hb91.mono hb90.size);have hw92:Bw w w91:=hww5.trans (hb92.mono hww5.size);have HT:Hid _:=Jab hb92 ht2;clear hb90 hb91 hb92 ht2;go_wp2;go_ret;exact⟨_,rfl,HT.out,hw92⟩
end
theorem Jp2(pl pr:Option Addr)(l r:T)(c:List Nat)(w:World)(hl:Jau w pl l)(hr:Jau w pr r)(hz:big (.node l c r)) :
    Cg 272 #[.pointer pl,JaF c,.pointer pr] w λe w'=>∃p,e=.returned (.pointer p)/\Jau w' p (Jgp l c r)/\Bw w w':=by
 have hb:big (Jgp l c r):=JiC hz (by rw[Jd0];rfl)
 by_cases h1:l.height=r.height+2
 . unfold Jgp at hb ⊢
   rw[if_pos h1]at hb ⊢
   match l,hl,hb,h1 with
   | .nil,_,_,h1=>simp[T.height]at h1
   | .node ll lc .nil,hl,hb,h1=>exact JvV pl pr ll .nil r c lc w hl hr hb h1 (by simp[T.height])
   | .node ll lc (.node a b d),hl,hb,h1 =>
    by_cases hc:ll.height<(T.node a b d).height
    . simp only[hc,if_true]at hb ⊢
      exact turn_A pl pr ll a d r c lc b w hl hr hb h1 hc
    . simp only[hc,if_false]at hb ⊢
      exact JvV pl pr ll (.node a b d) r c lc w hl hr hb h1 hc
 . by_cases h2:r.height=l.height+2
   . unfold Jgp at hb ⊢
     rw[if_neg h1,if_pos h2]at hb ⊢
     match r,hr,hb,h2 with
     | .nil,_,_,h2=>simp[T.height]at h2
     | .node .nil rc rr,hr,hb,h2=>exact JvU pl pr l .nil rr c rc w hl hr hb h2 (by simp[T.height])
     | .node (.node a b d) rc rr,hr,hb,h2 =>
      by_cases hc:rr.height<(T.node a b d).height
      . simp only[hc,if_true]at hb ⊢
        exact turn_C pl pr l a d rr c b rc w hl hr hb h2 hc
      . simp only[hc,if_false]at hb ⊢
        exact JvU pl pr l (.node a b d) rr c rc w hl hr hb h2 hc
   . unfold Jgp
     rw[if_neg h1,if_neg h2];exact turn_E pl pr l r c w hl hr hz h1 h2
section
attribute [local go_sem] Jaj JaD
variable {l r t : T}{c : List Nat}
def JdL (l r:T) (c:List Nat) (t:T):Prop:=t.chunks=l.chunks++[c]++r.chunks/\t.bal/\max l.height r.height<=t.height/\t.height<=1+max l.height r.height
theorem Jjv(c:List Nat)(hl:l.bal)(hr:r.bal)(h1:l.height<=r.height+1)(h2:r.height<=l.height+1):JdL l r c (.node l c r) :=
 ⟨rfl,⟨hl,hr,h1,h2⟩,by show _<=1+max l.height r.height;omega,nlr _⟩
theorem JoR{ll lr:T}{lc:List Nat}(hl:(T.node ll lc lr).bal)(hr:r.bal)(h:r.height+1<(T.node ll lc lr).height)(hj:JdL lr r c t):JdL (.node ll lc lr) r c (Jgp ll lc t):=by
 obtain⟨j1,j2,j3,j4⟩:=hj;obtain⟨b1,b2,b3,b4⟩:=hl;have eh:(T.node ll lc lr).height=1+max ll.height lr.height:=rfl;obtain⟨t1,t2,t3,t4⟩:=JmB lc b1 j2 (by omega) (by omega);refine⟨by rw[Jd0,j1];simp[T.chunks],t1,?_,?_⟩
 . by_cases h1:ll.height<=t.height+1
   . by_cases h2:t.height<=ll.height+1
     . have:=t2 h1 h2;omega
     . omega
   . omega
 . by_cases h1:ll.height<=t.height+1
   . by_cases h2:t.height<=ll.height+1
     . have:=t2 h1 h2;omega
     . omega
   . omega
theorem Jns{rl rr:T}{rc:List Nat}(hl:l.bal)(hr:(T.node rl rc rr).bal)(h:l.height+1<(T.node rl rc rr).height)(hj:JdL l rl c t):JdL l (.node rl rc rr) c (Jgp t rc rr):=by
 obtain⟨j1,j2,j3,j4⟩:=hj;obtain⟨b1,b2,b3,b4⟩:=hr;have eh:(T.node rl rc rr).height=1+max rl.height rr.height:=rfl;obtain⟨t1,t2,t3,t4⟩:=JmB rc j2 b2 (by omega) (by omega);refine⟨by rw[Jd0,j1];simp[T.chunks],t1,?_,?_⟩
 . by_cases h1:t.height<=rr.height+1
   . by_cases h2:rr.height<=t.height+1
     . have:=t2 h1 h2;omega
     . omega
   . omega
 . by_cases h1:t.height<=rr.height+1
   . by_cases h2:rr.height<=t.height+1
     . have:=t2 h1 h2;omega
     . omega
   . omega
theorem Jqi(h:big (.node l c r))(hj:JdL l r c t):big t:=JiC h hj.1
theorem Jwe(pl pr:Option Addr)(l r:T)(c:List Nat)(w:World)(hl:Jau w pl l)(hr:Jau w pr r)(hz:big (.node l c r))(h1:l.height<=r.height+1)(h2:r.height<=l.height+1) :
    Cg 260 #[.pointer pl,JaF c,.pointer pr] w λe w'=>∃p,e=.returned (.pointer p)/\Jau w' p (.node l c r)/\Bw w w':=by
 have hb0:∀o,Bw w (w.alloc o):=λo=>(brf _ w).alloc (nlr _) o;have cl:=λo=>Ja6 pl l (w.alloc o) (Jab (hb0 o) hl);have cr:=λo=>Ja6 pr r (w.alloc o) (Jab (hb0 o) hr);have ck:=λo=>Jcl hz (Jab (hb0 o) hl) (Jab (hb0 o) hr);obtain⟨_,_,_,_,_,s3,s4⟩:=JbW hz;have k1:¬(1<(l.height:Int) - r.height):=by omega
 have k2:¬((l.height:Int) - r.height < -1):=by omega
 have k3:0<=(l.height:Int)/\(l.height:Int)<1000000000:=by omega
 have k4:0<=(r.height:Int)/\(r.height:Int)<1000000000:=by omega
 clear h1 h2 s3 s4 hz;clear hl hr;generalize (l.height:Int)=x1 at *;generalize (r.height:Int)=x2 at *;unfold JaF at *
 go_enter func260,ntmps260
 go_wp2_with (first | (go_at_call_of 271 pl;refine(cl _).mono ?_;rintro e w1 ⟨rfl,rfl⟩) | (go_at_call_of 271 pr;refine(cr _).mono ?_;rintro e w1 ⟨rfl,rfl⟩) | (go_at_call 262;refine(ck _).mono ?_;rintro e w2 ⟨p,rfl,ht,hb⟩;have HT:=hdz ht;clear ht))
 go_ret;exact⟨p,rfl,HT.out,(hb0 _).trans (hb.mono (hb0 _).size)⟩
theorem join_L(pl pr:Option Addr)(ll lr r:T)(c lc:List Nat)(w:World)(hl:Jau w pl (.node ll lc lr))(hr:Jau w pr r)(hz:big (.node (.node ll lc lr) c r))(hd:r.height+1<(T.node ll lc lr).height)(hbl:(T.node ll lc lr).bal)(hbr:r.bal)
    (ih:∀(p1 p2:Option Addr) (w:World),Jau w p1 lr->Jau w p2 r->Cg 260 #[.pointer p1,JaF c,.pointer p2] w λe w'=>∃p t,e=.returned (.pointer p)/\Jau w' p t/\JdL lr r c t/\Bw w w') :
    Cg 260 #[.pointer pl,JaF c,.pointer pr] w λe w'=>∃p t,e=.returned (.pointer p)/\Jau w' p t/\JdL (.node ll lc lr) r c t/\Bw w w':=by
 have hb0:∀o,Bw w (w.alloc o):=λo=>(brf _ w).alloc (nlr _) o;have HR:Hid (Jau w pr r):=hr;have cl:=λo=>Ja6 pl (.node ll lc lr) (w.alloc o) (Jab (hb0 o) hl);have cr:=λo=>Ja6 pr r (w.alloc o) (Jab (hb0 o) hr);have HJ:Hid (∀t,JdL lr r c t->JdL (.node ll lc lr) r c (Jgp ll lc t)/\big (.node ll lc t)):=λt ht=>by
  have hj:=JoR hbl hbr hd ht;exact⟨hj,JiC (Jqi hz hj) (by rw[Jd0];rfl)⟩
 have IH:=hdz ih;obtain⟨_,_,_,_,_,s3,s4⟩:=JbW hz;have k1:(1<((T.node ll lc lr).height:Int) - r.height):=by omega
 have k2:¬(((T.node ll lc lr).height:Int) - r.height < -1):=by omega
 have k3:0<=((T.node ll lc lr).height:Int)/\((T.node ll lc lr).height:Int)<1000000000:=by omega
 have k4:0<=(r.height:Int)/\(r.height:Int)<1000000000:=by omega
 clear hd hbl hbr hz s3 s4 ih;obtain⟨b1,qa,qb,rfl,⟨uc0,uc1,uc2,uc3,uc4⟩,⟨uc5,uc6⟩,_,_,hlu,hru⟩:=hl;have HLU:=hdz hlu;have HRU:=hdz hru;clear hlu hru;generalize ((T.node ll lc lr).height:Int)=x1 at *;generalize (r.height:Int)=x2 at *;unfold JaF
 go_enter func260,ntmps260
 go_wp2_with (first | (go_at_call_of 271 b1;refine(cl _).mono ?_;rintro e w1 ⟨rfl,rfl⟩) | (go_at_call_of 271 pr;refine(cr _).mono ?_;rintro e w1 ⟨rfl,rfl⟩))
 obtain⟨W1,hW1⟩:∃W1,w.alloc (Oc #[.string (Jah c),I6 (C1 c),I6 (C2 c),I6 (C3 c),I6 (C4 c)] 275)=W1:=⟨_,rfl⟩;have hbW1:Bw w W1:=by rw[←hW1];exact hb0 _
 have x0:W1.cell? (Ad w.heap.size 0)=some (.string (Jah c)):=by rw[←hW1];simp[go_sem]
 have y1:W1.cell? (Ad w.heap.size 1)=some (I6 (C1 c)):=by rw[←hW1];simp[go_sem]
 have y2:W1.cell? (Ad w.heap.size 2)=some (I6 (C2 c)):=by rw[←hW1];simp[go_sem]
 have y3:W1.cell? (Ad w.heap.size 3)=some (I6 (C3 c)):=by rw[←hW1];simp[go_sem]
 have y4:W1.cell? (Ad w.heap.size 4)=some (I6 (C4 c)):=by rw[←hW1];simp[go_sem]
 rw[hW1];clear hW1 cl cr;refine Ja4 17 17 (by kernel_rfl) rfl ?_;intro w1 hbb;have hbw:Bw w w1:=hbW1.trans (hbb.mono hbW1.size);obtain⟨G,hG⟩:=Jas w1;have g0:=hG.cell (Jac hbb x0);have g1:=hG.cell (Jac hbb y1);have g2:=hG.cell (Jac hbb y2);have g3:=hG.cell (Jac hbb y3);have g4:=hG.cell (Jac hbb y4);have ug0:=hG.cell (Jac hbw uc0);have ug1:=hG.cell (Jac hbw uc1);have ug2:=hG.cell (Jac hbw uc2);have ug3:=hG.cell (Jac hbw uc3);have ug4:=hG.cell (Jac hbw uc4);have ug5:=hG.cell (Jac hbw uc5);have ug6:=hG.cell (Jac hbw uc6);clear uc0 uc1 uc2 uc3 uc4 uc5 uc6 x0 y1 y2 y3 y4 hbb hbW1
 (refine Jaa hG (i:=0) rfl (by kernel_rfl) (by kernel_rfl) (by kernel_rfl) (λK hK=>?_);go_simp;refine hK _ ?_;clear hK K)
 (refine Jaa hG (i:=1) rfl (by kernel_rfl) (by kernel_rfl) (by kernel_rfl) (λK hK=>?_);go_simp;refine hK _ ?_;clear hK K)
 (refine Jaa hG (i:=2) rfl (by kernel_rfl) (by kernel_rfl) (by kernel_rfl) (λK hK=>?_);go_simp;refine hK _ ?_;clear hK K)
 (refine Jaa hG (i:=3) rfl (by kernel_rfl) (by kernel_rfl) (by kernel_rfl) (λK hK=>?_);go_simp;refine hK _ ?_;clear hK K)
 (refine Jaa hG (i:=4) rfl (by kernel_rfl) (by kernel_rfl) (by kernel_rfl) (λK hK=>?_);go_simp;refine hK _ ?_;clear hK K)
 (refine Jaa hG (i:=5) rfl (by kernel_rfl) (by kernel_rfl) (by kernel_rfl) (λK hK=>?_);go_simp;refine hK _ ?_;clear hK K)
 (refine Jaa hG (i:=6) rfl (by kernel_rfl) (by kernel_rfl) (by kernel_rfl) (λK hK=>?_);go_simp;refine hK _ ?_;clear hK K)
 (refine Jaa hG (i:=7) rfl (by kernel_rfl) (by kernel_rfl) (by kernel_rfl) (λK hK=>?_);go_simp;refine hK _ ?_;clear hK K)
 (refine Jaa hG (i:=8) rfl (by kernel_rfl) (by kernel_rfl) (by kernel_rfl) (λK hK=>?_);go_simp;refine hK _ ?_;clear hK K)
 (refine Jaa hG (i:=9) rfl (by kernel_rfl) (by kernel_rfl) (by kernel_rfl) (λK hK=>?_);go_simp;refine hK _ ?_;clear hK K)
 (refine Jaa hG (i:=10) rfl (by kernel_rfl) (by kernel_rfl) (by kernel_rfl) (λK hK=>?_);go_simp;refine hK _ ?_;clear hK K)
 (refine Jaa hG (i:=11) rfl (by kernel_rfl) (by kernel_rfl) (by kernel_rfl) (λK hK=>?_);go_simp;refine hK _ ?_;clear hK K)
 (refine Jaa hG (i:=12) rfl (by kernel_rfl) (by kernel_rfl) (by kernel_rfl) (λK hK=>?_);go_simp;refine hK _ ?_;clear hK K)
 (refine Jaa hG (i:=13) rfl (by kernel_rfl) (by kernel_rfl) (by kernel_rfl) (λK hK=>?_);go_simp;refine hK _ ?_;clear hK K)
 clear g0 g1 g2 g3 g4 ug0 ug1 ug2 ug3 ug4 ug5 ug6 hG;refine Jbf (i:=14) rfl (by kernel_rfl) ?_;intro w2 hbw2 K hK;have hww2:Bw w w2:=hbw.trans (hbw2.mono hbw.size);have ck:=IH.out _ _ w2 (Jab hww2 HRU.out) (Jab hww2 HR.out);unfold JaF at ck
 go_simp
 refine ck.mono ?_;rintro e w3 ⟨p1,t1,rfl,ht1,hj1,hb3⟩;have hww3:Bw w w3:=hww2.trans (hb3.mono hww2.size);refine⟨_,rfl,hK _ _ hb3 ?_⟩;clear hK K ck;refine Jbf (i:=15) rfl (by kernel_rfl) ?_;intro w4 hbw4 K hK;have hww4:Bw w w4:=hww3.trans (hbw4.mono hww3.size);have ck:=Jp2 _ _ _ _ _ w4 (Jab hww4 HLU.out) (Jab hbw4 ht1) (HJ.out _ hj1).2;unfold JaF at ck
 go_simp
 refine ck.mono ?_;rintro e w5 ⟨p2,rfl,ht2,hb5⟩;have hww5:Bw w w5:=hww4.trans (hb5.mono hww4.size);refine⟨_,rfl,hK _ _ hb5 ?_⟩;clear hK K ck;clear ht1;refine Jbf (i:=16) rfl (by kernel_rfl) ?_;intro w90 hb90 K hK
 go_simp
 refine hK _ _ (brf _ w90) ?_;clear hK K;refine Jbi (by kernel_rfl) ?_;intro w91 hb91;have hb92:=hb90.trans (hb91.mono hb90.size);have hw92:Bw w w91:=hww5.trans (hb92.mono hww5.size);have HT:Hid _:=Jab hb92 ht2;clear hb90 hb91 hb92 ht2;go_wp2;go_ret;exact⟨_,_,rfl,HT.out,(HJ.out _ hj1).1,hw92⟩
theorem join_R(pl pr:Option Addr)(l rl rr:T)(c rc:List Nat)(w:World)(hl:Jau w pl l)(hr:Jau w pr (.node rl rc rr))(hz:big (.node l c (.node rl rc rr)))(hd:l.height+1<(T.node rl rc rr).height)(hbl:l.bal)(hbr:(T.node rl rc rr).bal)
    (ih:∀(p1 p2:Option Addr) (w:World),Jau w p1 l->Jau w p2 rl->Cg 260 #[.pointer p1,JaF c,.pointer p2] w λe w'=>∃p t,e=.returned (.pointer p)/\Jau w' p t/\JdL l rl c t/\Bw w w') :
    Cg 260 #[.pointer pl,JaF c,.pointer pr] w λe w'=>∃p t,e=.returned (.pointer p)/\Jau w' p t/\JdL l (.node rl rc rr) c t/\Bw w w':=by
 have hb0:∀o,Bw w (w.alloc o):=λo=>(brf _ w).alloc (nlr _) o;have HL:Hid (Jau w pl l):=hl;have cl:=λo=>Ja6 pl l (w.alloc o) (Jab (hb0 o) hl);have cr:=λo=>Ja6 pr (.node rl rc rr) (w.alloc o) (Jab (hb0 o) hr);have HJ:Hid (∀t,JdL l rl c t->JdL l (.node rl rc rr) c (Jgp t rc rr)/\big (.node t rc rr)):=λt ht=>by
  have hj:=Jns hbl hbr hd ht;exact⟨hj,JiC (Jqi hz hj) (by rw[Jd0];rfl)⟩
 have IH:=hdz ih;obtain⟨_,_,_,_,_,s3,s4⟩:=JbW hz;have k1:¬(1<(l.height:Int) - (T.node rl rc rr).height):=by omega
 have k2:((l.height:Int) - (T.node rl rc rr).height < -1):=by omega
 have k3:0<=(l.height:Int)/\(l.height:Int)<1000000000:=by omega
 have k4:0<=((T.node rl rc rr).height:Int)/\((T.node rl rc rr).height:Int)<1000000000:=by omega
 clear hd hbl hbr hz s3 s4 ih;obtain⟨b1,qa,qb,rfl,⟨uc0,uc1,uc2,uc3,uc4⟩,⟨uc5,uc6⟩,_,_,hlu,hru⟩:=hr;have HLU:=hdz hlu;have HRU:=hdz hru;clear hlu hru;generalize (l.height:Int)=x1 at *;generalize ((T.node rl rc rr).height:Int)=x2 at *;unfold JaF
 go_enter func260,ntmps260
 go_wp2_with (first | (go_at_call_of 271 pl;refine(cl _).mono ?_;rintro e w1 ⟨rfl,rfl⟩) | (go_at_call_of 271 b1;refine(cr _).mono ?_;rintro e w1 ⟨rfl,rfl⟩))
 obtain⟨W1,hW1⟩:∃W1,w.alloc (Oc #[.string (Jah c),I6 (C1 c),I6 (C2 c),I6 (C3 c),I6 (C4 c)] 275)=W1:=⟨_,rfl⟩;have hbW1:Bw w W1:=by rw[←hW1];exact hb0 _
 have x0:W1.cell? (Ad w.heap.size 0)=some (.string (Jah c)):=by rw[←hW1];simp[go_sem]
 have y1:W1.cell? (Ad w.heap.size 1)=some (I6 (C1 c)):=by rw[←hW1];simp[go_sem]
 have y2:W1.cell? (Ad w.heap.size 2)=some (I6 (C2 c)):=by rw[←hW1];simp[go_sem]
 have y3:W1.cell? (Ad w.heap.size 3)=some (I6 (C3 c)):=by rw[←hW1];simp[go_sem]
 have y4:W1.cell? (Ad w.heap.size 4)=some (I6 (C4 c)):=by rw[←hW1];simp[go_sem]
 rw[hW1];clear hW1 cl cr;refine Ja4 17 17 (by kernel_rfl) rfl ?_;intro w1 hbb;have hbw:Bw w w1:=hbW1.trans (hbb.mono hbW1.size);obtain⟨G,hG⟩:=Jas w1;have g0:=hG.cell (Jac hbb x0);have g1:=hG.cell (Jac hbb y1);have g2:=hG.cell (Jac hbb y2);have g3:=hG.cell (Jac hbb y3);have g4:=hG.cell (Jac hbb y4);have ug0:=hG.cell (Jac hbw uc0);have ug1:=hG.cell (Jac hbw uc1);have ug2:=hG.cell (Jac hbw uc2);have ug3:=hG.cell (Jac hbw uc3);have ug4:=hG.cell (Jac hbw uc4);have ug5:=hG.cell (Jac hbw uc5);have ug6:=hG.cell (Jac hbw uc6);clear uc0 uc1 uc2 uc3 uc4 uc5 uc6 x0 y1 y2 y3 y4 hbb hbW1
 (refine Jaa hG (i:=0) rfl (by kernel_rfl) (by kernel_rfl) (by kernel_rfl) (λK hK=>?_);go_simp;refine hK _ ?_;clear hK K)
 (refine Jaa hG (i:=1) rfl (by kernel_rfl) (by kernel_rfl) (by kernel_rfl) (λK hK=>?_);go_simp;refine hK _ ?_;clear hK K)
 (refine Jaa hG (i:=2) rfl (by kernel_rfl) (by kernel_rfl) (by kernel_rfl) (λK hK=>?_);go_simp;refine hK _ ?_;clear hK K)
 (refine Jaa hG (i:=3) rfl (by kernel_rfl) (by kernel_rfl) (by kernel_rfl) (λK hK=>?_);go_simp;refine hK _ ?_;clear hK K)
 (refine Jaa hG (i:=4) rfl (by kernel_rfl) (by kernel_rfl) (by kernel_rfl) (λK hK=>?_);go_simp;refine hK _ ?_;clear hK K)
 (refine Jaa hG (i:=5) rfl (by kernel_rfl) (by kernel_rfl) (by kernel_rfl) (λK hK=>?_);go_simp;refine hK _ ?_;clear hK K)
 (refine Jaa hG (i:=7) rfl (by kernel_rfl) (by kernel_rfl) (by kernel_rfl) (λK hK=>?_);go_simp;refine hK _ ?_;clear hK K)
 (refine Jaa hG (i:=8) rfl (by kernel_rfl) (by kernel_rfl) (by kernel_rfl) (λK hK=>?_);go_simp;refine hK _ ?_;clear hK K)
 (refine Jaa hG (i:=9) rfl (by kernel_rfl) (by kernel_rfl) (by kernel_rfl) (λK hK=>?_);go_simp;refine hK _ ?_;clear hK K)
 (refine Jaa hG (i:=10) rfl (by kernel_rfl) (by kernel_rfl) (by kernel_rfl) (λK hK=>?_);go_simp;refine hK _ ?_;clear hK K)
 (refine Jaa hG (i:=11) rfl (by kernel_rfl) (by kernel_rfl) (by kernel_rfl) (λK hK=>?_);go_simp;refine hK _ ?_;clear hK K)
 (refine Jaa hG (i:=12) rfl (by kernel_rfl) (by kernel_rfl) (by kernel_rfl) (λK hK=>?_);go_simp;refine hK _ ?_;clear hK K)
 (refine Jaa hG (i:=13) rfl (by kernel_rfl) (by kernel_rfl) (by kernel_rfl) (λK hK=>?_);go_simp;refine hK _ ?_;clear hK K)
 (refine Jaa hG (i:=14) rfl (by kernel_rfl) (by kernel_rfl) (by kernel_rfl) (λK hK=>?_);go_simp;refine hK _ ?_;clear hK K)
 clear g0 g1 g2 g3 g4 ug0 ug1 ug2 ug3 ug4 ug5 ug6 hG;refine Jbf (i:=6) rfl (by kernel_rfl) ?_;intro w2 hbw2 K hK;have hww2:Bw w w2:=hbw.trans (hbw2.mono hbw.size);have ck:=IH.out _ _ w2 (Jab hww2 HL.out) (Jab hww2 HLU.out);unfold JaF at ck
 go_simp
 refine ck.mono ?_;rintro e w3 ⟨p1,t1,rfl,ht1,hj1,hb3⟩;have hww3:Bw w w3:=hww2.trans (hb3.mono hww2.size);refine⟨_,rfl,hK _ _ hb3 ?_⟩;clear hK K ck;refine Jbf (i:=15) rfl (by kernel_rfl) ?_;intro w4 hbw4 K hK;have hww4:Bw w w4:=hww3.trans (hbw4.mono hww3.size);have ck:=Jp2 _ _ _ _ _ w4 (Jab hbw4 ht1) (Jab hww4 HRU.out) (HJ.out _ hj1).2;unfold JaF at ck
 go_simp
 refine ck.mono ?_;rintro e w5 ⟨p2,rfl,ht2,hb5⟩;have hww5:Bw w w5:=hww4.trans (hb5.mono hww4.size);refine⟨_,rfl,hK _ _ hb5 ?_⟩;clear hK K ck;clear ht1;refine Jbf (i:=16) rfl (by kernel_rfl) ?_;intro w90 hb90 K hK
 go_simp
 refine hK _ _ (brf _ w90) ?_;clear hK K;refine Jbi (by kernel_rfl) ?_;intro w91 hb91;have hb92:=hb90.trans (hb91.mono hb90.size);have hw92:Bw w w91:=hww5.trans (hb92.mono hww5.size);have HT:Hid _:=Jab hb92 ht2;clear hb90 hb91 hb92 ht2;go_wp2;go_ret;exact⟨_,_,rfl,HT.out,(HJ.out _ hj1).1,hw92⟩
theorem Jma:∀(n:Nat)(pl pr:Option Addr)(l r:T)(c:List Nat)(w:World),l.size+r.size<=n->Jau w pl l->Jau w pr r->big (.node l c r)->l.bal->r.bal ->
    Cg 260 #[.pointer pl,JaF c,.pointer pr] w λe w'=>∃p t,e=.returned (.pointer p)/\Jau w' p t/\JdL l r c t/\Bw w w':=by
 intro n
 induction n with
 | zero =>
  intro pl pr l r c w hn hl hr hz hbl hbr;have e1:=JbU l;have e2:=JbU r;refine(Jwe pl pr l r c w hl hr hz (by omega) (by omega)).mono ?_;rintro e w' ⟨p,rfl,ht,hb⟩;exact⟨p,_,rfl,ht,Jjv c hbl hbr (by omega) (by omega),hb⟩
 | succ n ih =>
  intro pl pr l r c w hn hl hr hz hbl hbr
  by_cases h1:r.height+1<l.height
  . match l,hl,hz,hbl,h1,hn with
    | .nil,_,_,_,h1,_=>simp[T.height]at h1
    | .node ll lc lr,hl,hz,hbl,h1,hn =>
     simp only[T.size]at hn;exact join_L pl pr ll lr r c lc w hl hr hz h1 hbl hbr λp1 p2 w' t1 t2=>ih p1 p2 lr r c w' (by omega) t1 t2 (by
      obtain⟨z1,z2⟩:=hz;simp only[T.runes,Jbc,T.size]at z1 z2;have q1:=JdN ll.runes;have q2:=JdN lc
      exact⟨by simp only[T.runes,Jbc];omega,by simp only[T.size];omega⟩) hbl.2.1 hbr
  by_cases h2:l.height+1<r.height
  . match r,hr,hz,hbr,h2,hn with
    | .nil,_,_,_,h2,_=>simp[T.height]at h2
    | .node rl rc rr,hr,hz,hbr,h2,hn =>
     simp only[T.size]at hn;exact join_R pl pr l rl rr c rc w hl hr hz h2 hbl hbr λp1 p2 w' t1 t2=>ih p1 p2 l rl c w' (by omega) t1 t2 (by
      obtain⟨z1,z2⟩:=hz;simp only[T.runes,Jbc,T.size]at z1 z2;have q1:=JdN rr.runes;have q2:=JdN rc
      exact⟨by simp only[T.runes,Jbc];omega,by simp only[T.size];omega⟩) hbl hbr.1
  refine(Jwe pl pr l r c w hl hr hz (by omega) (by omega)).mono ?_;rintro e w' ⟨p,rfl,ht,hb⟩;exact⟨p,_,rfl,ht,Jjv c hbl hbr (by omega) (by omega),hb⟩
end
section
attribute [local go_sem] Jaj JaD
def Jv9:Go.Shelf.Ren:=⟨λ| 25=>89 | n=>n,λ| 9=>9 | 5=>5 | 3=>3 | 4=>4 | 37=>29 | 47=>61 | 0=>0 | n=>n,λ| n=>n⟩
theorem JtI:Go.Proofs.LaysPu.n25 prog Jv9:={
 mixed:=by kernel_rfl
 f25:=func89.trans (congrArg some (by kernel_rfl))
 t0:=by kernel_rfl
 a0:=λ_=>by kernel_rfl
 z0:=λ_=>by kernel_rfl
 v0:=λ_=>by kernel_rfl
 i0:=by kernel_rfl
 t3:=by kernel_rfl
 a3:=λ_=>by kernel_rfl
 z3:=λ_=>by kernel_rfl
 v3:=λ_=>by kernel_rfl
 i3:=by kernel_rfl
 t4:=by kernel_rfl
 a4:=λ_=>by kernel_rfl
 z4:=λ_=>by kernel_rfl
 v4:=λ_=>by kernel_rfl
 i4:=by kernel_rfl
 t5:=by kernel_rfl
 a5:=λ_=>by kernel_rfl
 z5:=λ_=>by kernel_rfl
 v5:=λ_=>by kernel_rfl
 i5:=by kernel_rfl
 t9:=by kernel_rfl
 a9:=λ_=>by kernel_rfl
 z9:=λ_=>by kernel_rfl
 v9:=λ_=>by kernel_rfl
 i9:=by kernel_rfl
 t37:=by kernel_rfl
 a37:=λ_=>by kernel_rfl
 z37:=λ_=>by kernel_rfl
 v37:=λ_=>by kernel_rfl
 i37:=by kernel_rfl
 t47:=by kernel_rfl
 a47:=λ_=>by kernel_rfl
 z47:=λ_=>by kernel_rfl
 v47:=λ_=>by kernel_rfl
 i47:=by kernel_rfl }
theorem Juf(s:ByteArray)(w:World)(hs:s.size<=281474976710656):Cg 48 #[.string s] w (Rt w (.string s)):=by
 have c:=Go.Proofs.AnyPu.stringslite_Clone JtI s w hs;have c2:Cg 89 #[.string s] w (Rt w (.string s)):=c
 go_enter func48,ntmps48
 go_wp2_with (go_at_call 89;refine c2.mono ?_;rintro e w1 ⟨rfl,hb1⟩)
 go_ret;exact⟨rfl,hb1⟩
theorem JiA(rs:List Nat)(hr:∀r∈rs,Jbp r)(hz:C1 rs<=300000000)(w:World)(hT:Lib.Utf8Tabs 3 4 w) :
    Cg 47 #[.string (Jah rs)] w (Rt w (.tuple #[.agg #[I6 (C1 rs),I6 (C2 rs),I6 (C3 rs),I6 (C4 rs)],.nilIface])):=by
 have hs:(Jah rs).size<400000000:=by rw[JaI];rw[Jcb]at hz;omega
 have hsc:scan (Jah rs).data.toList=(wide rs,true):=by rw[JbT];exact JeF rs hr
 refine(JfS _ hs w hT).mono ?_;rintro e w' ⟨v,x,rfl,hb,⟨_,rfl,rfl⟩|⟨h,_⟩⟩
 . refine⟨?_,hb⟩
   rw[hsc];have e3:((wide rs).length:Int)=C3 rs:=by simp[wide,C3]
   simp only[e3];rfl
 . rw[hsc]at h;cases h
variable {W W' : World}{B lo : Nat}{v0 v1 v2 v3 v4 : Value}
def JeC (W:World) (B:Nat) (v0 v1 v2 v3 v4:Value):Prop :=
 (W.cell? (Ad B 0)=some v0/\W.cell? (Ad B 1)=some v1/\W.cell? (Ad B 2)=some v2/\W.cell? (Ad B 3)=some v3/\W.cell? (Ad B 4)=some v4) /\
 (W.frozen? (Ad B 0)=false/\W.frozen? (Ad B 1)=false/\W.frozen? (Ad B 2)=false/\W.frozen? (Ad B 3)=false/\W.frozen? (Ad B 4)=false)
theorem JeV(h:JeC W B v0 v1 v2 v3 v4):B<W.heap.size:=blt W _ h.1.1
theorem Jpp(h:JeC W B v0 v1 v2 v3 v4)(hb:Below lo W W')(hlo:B<lo):JeC W' B v0 v1 v2 v3 v4:=by
 obtain⟨⟨a0,a1,a2,a3,a4⟩,b0,b1,b2,b3,b4⟩:=h;have c:∀o v,W.cell? (Ad B o)=some v->W'.cell? (Ad B o)=some v:=λo v h=>(zC hb B o hlo).trans h;have f:∀o,W.frozen? (Ad B o)=false->W'.frozen? (Ad B o)=false:=λo h=>(hb.frozen (p:=(Ad B o)) hlo).trans h;exact⟨⟨c _ _ a0,c _ _ a1,c _ _ a2,c _ _ a3,c _ _ a4⟩,f _ b0,f _ b1,f _ b2,f _ b3,f _ b4⟩
theorem JaC(h:JeC W B v0 v1 v2 v3 v4)(hb:Bw W W'):JeC W' B v0 v1 v2 v3 v4:=Jpp h hb (JeV h)
theorem Jeq(w:World)(v0 v1 v2 v3 v4:Value)(t:TypeId):JeC (w.alloc (Oc #[v0,v1,v2,v3,v4] t)) w.heap.size v0 v1 v2 v3 v4:=by
 refine⟨⟨?_,?_,?_,?_,?_⟩,?_,?_,?_,?_,?_⟩<;>simp[go_sem]
theorem JgE{u0 u1 u2 u3 u4:Value}(h:JeC W B v0 v1 v2 v3 v4) :
    JeC (((((W.setCell (Ad B 0) u0).setCell (Ad B 1) u1).setCell (Ad B 2) u2).setCell (Ad B 3) u3).setCell (Ad B 4) u4) B u0 u1 u2 u3 u4:=by
 obtain⟨⟨a0,a1,a2,a3,a4⟩,b0,b1,b2,b3,b4⟩:=h;refine⟨⟨?_,?_,?_,?_,?_⟩,?_,?_,?_,?_,?_⟩<;>simp[go_sem,a0,a1,a2,a3,a4,b0,b1,b2,b3,b4]
theorem JeY{w:World}(hb:Below lo w W)(hlo:lo<=B)(u0 u1 u2 u3 u4:Value) :
    Below lo w (((((W.setCell (Ad B 0) u0).setCell (Ad B 1) u1).setCell (Ad B 2) u2).setCell (Ad B 3) u3).setCell (Ad B 4) u4) :=
 ((((hb.setCell (p:=(Ad B 0)) hlo _).setCell (p:=(Ad B 1)) hlo _).setCell (p:=(Ad B 2)) hlo _).setCell (p:=(Ad B 3)) hlo _).setCell (p:=(Ad B 4)) hlo _
theorem JjB(rs:List Nat)(hr:∀r∈rs,Jbp r)(hz:C1 rs<=300000000)(w:World)(hT:Lib.Utf8Tabs 3 4 w) :
    Cg 225 #[.string (Jah rs)] w (Rt w (JaF rs)):=by
 have hb0:∀o,Bw w (w.alloc o):=λo=>(brf _ w).alloc (nlr _) o;have cC:=λo=>JiA rs hr hz (w.alloc o) (Go.Proofs.Utf8Tabs_below hT (hb0 o));have cK:=λwx=>Juf (Jah rs) wx (by rw[JaI];rw[Jcb]at hz;omega);unfold JaF;generalize Jah rs=B at *;generalize C1 rs=x1 at *;generalize C2 rs=x2 at *;generalize C3 rs=x3 at *;generalize C4 rs=x4 at *;clear hr hz hT
 go_enter func225,ntmps225
 go_wp2_with (go_at_call 47;refine(cC _).mono ?_;rintro e w1 ⟨rfl,hb1⟩)
 have hbw:Bw w (w1.alloc (Oc #[I6 x1,I6 x2,I6 x3,I6 x4] 78)):=((hb0 _).trans (hb1.mono (hb0 _).size)).alloc (Nat.le_trans (hb0 (Oc #[.string ⟨#[]⟩,I6 0,I6 0,I6 0,I6 0] 275)).size hb1.size) _
 have hA:JeC (w1.alloc (Oc #[I6 x1,I6 x2,I6 x3,I6 x4] 78)) w.heap.size (.string ⟨#[]⟩) (I6 0) (I6 0) (I6 0) (I6 0) :=
  JaC (JaC (Jeq w _ _ _ _ _ _) hb1) ((brf _ w1).alloc (nlr _) _)
 have hc:counted (w1.alloc (Oc #[I6 x1,I6 x2,I6 x3,I6 x4] 78)) w1.heap.size x1 x2 x3 x4:=by refine⟨⟨?_,?_,?_,?_⟩,?_,?_,?_,?_⟩<;>simp[go_sem]
 generalize (w1.alloc (Oc #[I6 x1,I6 x2,I6 x3,I6 x4] 78))=W at *;generalize w1.heap.size=C at *;clear cC hb1;refine Ja4 4 5 (by kernel_rfl) rfl ?_;intro w2 hb2;have hc2:=Jad hc hb2;obtain⟨⟨c0,c1,c2,c3⟩,_⟩:=hc2;have hbw2:=hbw.trans (hb2.mono hbw.size);have hA2:=JaC hA hb2;obtain⟨G,hG⟩:=Jas w2;have g0:=hG.cell c0;have g1:=hG.cell c1;have g2:=hG.cell c2;have g3:=hG.cell c3;clear hc hA c0 c1 c2 c3
 (refine Jaa hG (i:=0) rfl (by kernel_rfl) (by kernel_rfl) (by kernel_rfl) (λK hK=>?_);go_simp;refine hK _ ?_;clear hK K)
 (refine Jaa hG (i:=1) rfl (by kernel_rfl) (by kernel_rfl) (by kernel_rfl) (λK hK=>?_);go_simp;apply Exists.intro;refine⟨λ_=>?_,hK _ ?_⟩;exact cK _;clear hK K)
 (refine Jaa hG (i:=2) rfl (by kernel_rfl) (by kernel_rfl) (by kernel_rfl) (λK hK=>?_);go_simp;refine hK _ ?_;clear hK K)
 (refine Jaa hG (i:=3) rfl (by kernel_rfl) (by kernel_rfl) (by kernel_rfl) (λK hK=>?_);go_simp;refine hK _ ?_;clear hK K)
 clear g0 g1 g2 g3 hG;refine JdF (i:=4) rfl (by kernel_rfl) (by kernel_rfl) ?_;intro w3 hb3 K hK;have hA3:=JaC hA2 hb3;have hbw3:=hbw2.trans (hb3.mono hbw2.size);have HA3:=hdz hA3;obtain⟨⟨a0,a1,a2,a3,a4⟩,b0,b1,b2,b3,b4⟩:=hA3
 go_simp
 refine hK _ _ ?_;clear hK K;refine Jbi (by kernel_rfl) ?_;intro w4 hb4;have hA4:=JaC (JgE HA3.out) hb4;have hbw4:=(JeY hbw3 (nlr _) _ _ _ _ _).trans (hb4.mono (JeY hbw3 (nlr _) _ _ _ _ _).size);clear a0 a1 a2 a3 a4 b0 b1 b2 b3 b4 hb4 HA3 hA2;obtain⟨⟨a0,a1,a2,a3,a4⟩,b0,b1,b2,b3,b4⟩:=hA4;go_wp2;refine bodyPost_ret (v:=.agg #[.string B,I6 x1,I6 x2,I6 x3,I6 x4]) (by simp[results,results225,go_sem,a0,a1,a2,a3,a4]) rfl ⟨rfl,hbw4⟩
end
structure But (B:Nat) (A A':World):Prop where
 os:A'.os=A.os
 tape:A'.tape=A.tape
 output:A'.output=A.output
 size:A.heap.size<=A'.heap.size
 block:∀k,k<A.heap.size->k≠B->A'.heap[k]?=A.heap[k]?
theorem But.refl(B:Nat)(A:World):But B A A:=⟨rfl,rfl,rfl,nlr _,λ_ _ _=>rfl⟩
theorem But.trans{B:Nat}{a b c:World}(h:But B a b)(k:But B b c):But B a c :=
 ⟨k.os.trans h.os,k.tape.trans h.tape,k.output.trans h.output,Nat.le_trans h.size k.size,λi h1 h2=>(k.block i (Nat.lt_of_lt_of_le h1 h.size) h2).trans (h.block i h1 h2)⟩
theorem But.of_below{B:Nat}{A A':World}(h:Bw A A'):But B A A':=⟨h.os,h.tape,h.output,h.size,λk h1 _=>h.block k h1⟩
theorem But.setCell{B:Nat}{A W:World}(h:But B A W){p:Addr}(hp:p.block=B)(v:Value):But B A (W.setCell p v) :=
 h.trans ⟨rfl,rfl,rfl,by simp[World.setCell],λk _ h2=>Below.heap_setCell W p v k (by rw[hp];exact h2)⟩
theorem But.below{B:Nat}{A A':World}(h:But B A A')(hB:B<=A.heap.size):Below B A A':=⟨h.os,h.tape,h.output,h.size,λk hk=>h.block k (by omega) (by omega)⟩
theorem But.cell{B:Nat}{A A':World}(h:But B A A'){b o:Nat}{v:Value}(hb:b≠B)(hc:A.cell? (Ad b o)=some v):A'.cell? (Ad b o)=some v :=
 (World.cell?_of_block (w:=A) (a:=(Ad b o)) (h.block b (blt A _ hc) hb)).trans hc
theorem JcC{B:Nat}{A A':World}(h:But B A A')(hB:A.cell? (Ad B 5)=none):∀{t:T}{p:Option Addr},Jau A p t->Jau A' p t
 | .nil,_,h=>h
 | .node l rs r,_,⟨b,pl,pr,e,⟨a0,a1,a2,a3,a4⟩,⟨a5,a6⟩,⟨a7,a8,a9,a10⟩,⟨a11,a12⟩,hl,hr⟩=>by
  have hb:b≠B:=λe=>by subst e;rw[hB]at a5;cases a5
  exact⟨b,pl,pr,e,⟨h.cell hb a0,h.cell hb a1,h.cell hb a2,h.cell hb a3,h.cell hb a4⟩,⟨h.cell hb a5,h.cell hb a6⟩,⟨h.cell hb a7,h.cell hb a8,h.cell hb a9,h.cell hb a10⟩,⟨h.cell hb a11,h.cell hb a12⟩,JcC h hB hl,JcC h hB hr⟩
structure GrowB (B:Nat) (W:World) (G:World->World):Prop where
 but:∀x,But B W (G x)
 onto:∀w,But B W w->G w=w
open Classical in
theorem JfN(B:Nat)(W:World):∃G,GrowB B W G :=
 ⟨λx=>if But B W x then x else W,λx=>by
  show But B W (if But B W x then x else W)
  split
  . assumption
  . exact But.refl _ _,λw h=>if_pos h⟩
theorem GrowB.cell{B:Nat}{W:World}{G:World->World}(hG:GrowB B W G){b o:Nat}{v:Value}(hb:b≠B)(h:W.cell? (Ad b o)=some v):∀x,(G x).cell? (Ad b o)=some v :=
 λx=>(hG.but x).cell hb h
section
variable {P : Program} {ops : Array Oper} {md : Region.Mode} {m B : Nat} {W0 : World} {Q : Exit → Act → World → Prop}
def anyB (B:Nat) (W0:World) (P:Program) (md:Region.Mode) (ops:Array Oper) (m:Nat) (Q:Exit->Act->World->Prop):Nat->Array Bool->Act->World->Prop
 | 0,listed,a,w=>Region.ready md ops listed=[]/\∀w',Bw w w'->Q .normal a w'
 | fuel+1,listed,a,w =>
  (Region.ready md ops listed=[]->∀w',Bw w w'->Q .normal a w') /\
  ∀i∈Region.ready md ops listed,∀w',Bw w w'->opG P ops i (λa' w''=>(i<m->But B W0 w'->But B W0 w'')/\anyB B W0 P md ops m Q fuel (listed.setIfInBounds i true) a' w'') a w'
theorem JjL:∀(fuel:Nat)(listed:Array Bool)(a:Act)(w:World),anyB B W0 P md ops m Q fuel listed a w->wpAny P md ops Q fuel listed a w
 | 0,_,_,w,h=>⟨h.1,h.2 w (brf _ _)⟩
 | fuel + 1,listed,a,w,h=>⟨λh0=>h.1 h0 w (brf _ _),λi hi=>by
     have h1:=h.2 i hi w (brf _ _);have h2:=Je2 (λa' w'' hh=>JjL fuel _ a' w'' hh.2) h1;unfold opG at h2;unfold wpOp
     split
     . rename_i ho;simp only[ho]at h2;exact h2
     . rename_i o ho
       simp only[ho]at h2
       split
       . rename_i hw;simp only[hw,if_true]at h2;exact .inl (Jh3 h2)
       . rename_i hw;simp only[hw]at h2;exact h2⟩
theorem Jlr:∀{fuel:Nat}{listed:Array Bool}{a:Act}{w w2:World},anyB B W0 P md ops m Q fuel listed a w->Bw w w2->anyB B W0 P md ops m Q fuel listed a w2
 | 0,_,_,_,_,h,hb=>⟨h.1,λw' hb'=>h.2 w' (hb.trans (hb'.mono hb.size))⟩
 | _+1,_,_,_,_,h,hb=>⟨λh0 w' hb'=>h.1 h0 w' (hb.trans (hb'.mono hb.size)),λi hi w' hb'=>h.2 i hi w' (hb.trans (hb'.mono hb.size))⟩
def Jeb (B:Nat) (W0:World) (P:Program) (ops:Array Oper) (o:Oper) (v:Value) (a:Act):Prop :=
 if Region.wanted o (yielded ops a.tmps) then ∀w',But B W0 w'->Jaj P w' v ((execOp a.eval o).run P w') else v=undef
theorem Jm4{o:Oper}{v:Value}{a a':Act}(hy:Jeb B W0 P ops o v a)(he:execOp a'.eval o=execOp a.eval o)
    (hw:Region.wanted o (yielded ops a'.tmps)=Region.wanted o (yielded ops a.tmps)):Jeb B W0 P ops o v a':=by
 unfold Jeb at *;rw[hw,he];exact hy
theorem Jgw{i:Nat}{o:Oper}{v:Value}{a:Act}{w':World}(hi:ops[i]?=some o)(hy:Jeb B W0 P ops o v a)(hb:But B W0 w'){K:Act->World->Prop}
    (h:∀w'',Bw w' w''->K (a.put o.dst v) w''):opG P ops i K a w':=by
 unfold opG;simp only[hi];unfold Jeb at hy
 split
 . rename_i hw
   rw[if_pos hw]at hy;have h3:=hy w' hb;generalize (execOp a.eval o).run P w'=r at *
   cases r with
   | ok n w2 =>
    cases n<;>simp only[Jaj]at h3<;>simp only[JaD]
    case value u =>
     obtain⟨e1,e2⟩:=h3;rw[e2];exact h _ (by rw[e1];exact brf _ _)
    case skip =>
     obtain⟨e1,e2⟩:=h3;rw[←e2];exact h _ (by rw[e1];exact brf _ _)
    case enter f args =>
     obtain⟨e1,hc⟩:=h3;rw[e1];exact hc.mono λe w'' ⟨he,hw''⟩=>⟨v,he,h _ hw''⟩
   | halt x w2=>simp only[Jaj]at h3
 . rename_i hw
   rw[if_neg hw]at hy;rw[←hy];exact h _ (brf _ _)
theorem JuD{j:Nat}{oi oj:Oper}{v:Value}(hj:ops[j]?=some oj)(hap:oi.apart ops oj=true)(hsi:∀cs b,oi.op≠.select cs b)(hsj:∀cs b,oj.op≠.select cs b)
    {K:Act->World->Prop} {a:Act} {w:World} (hy:Jeb B W0 P ops oi v a) (h:opG P ops j K (a.put oi.dst v) w) :
    opG P ops j (λa' w'=>Jeb B W0 P ops oi v a'/\K (a'.put oi.dst v) w') a w:=by
 obtain⟨h1,h2,h3⟩:=Oper.apart_spec hap;have keep:∀u,Jeb B W0 P ops oi v (a.put oj.dst u):=λu=>Jm4 hy (execOp_put oi hsi a oj.dst u h3) (wanted_put oi a oj.dst u h3);unfold opG at *;simp only[hj]at *;rw[wanted_put oj a oi.dst v h1]at h
 split
 . rename_i hw
   simp only[hw,if_true]at h;rw[execOp_put oj hsj a oi.dst v h1]at h;generalize (execOp a.eval oj).run P w=r at *
   cases r with
   | ok n w2 =>
    cases n<;>simp only[JaD]at h ⊢
    case value u=>exact⟨keep u,by rw[←Act.put_comm a v u h2];exact h⟩
    case skip=>exact⟨keep _,by rw[←Act.put_comm a v undef h2];exact h⟩
    case enter f args=>exact h.mono λe w'' ⟨u,e1,e2⟩=>⟨u,e1,keep u,by rw[←Act.put_comm a v u h2];exact e2⟩
   | halt x w2=>simp only[JaD]at h
 . rename_i hw
   simp only[hw]at h;exact⟨keep _,by rw[←Act.put_comm a v undef h2];exact h⟩
theorem Jls{i:Nat}{oi:Oper}{v:Value}(hi:ops[i]?=some oi)(him:i<m)(hsel:∀(j:Nat)(o:Oper) cs b,ops[j]?=some o->o.op≠.select cs b)(hlate:JeJ md ops m=true) :
    ∀ (fuel:Nat) (listed:Array Bool) (a:Act) (w:World),But B W0 w ->
     (∀j oj,ops[j]?=some oj->j≠i->listed.getD j true=false->(∀e∈oj.after,Region.binds md e=true->e.on≠i)->oi.apart ops oj=true) ->
     i∈Region.ready md ops listed->Jeb B W0 P ops oi v a ->
     anyB B W0 P md ops m Q fuel (listed.setIfInBounds i true) (a.put oi.dst v) w->anyB B W0 P md ops m Q (fuel+1) listed a w:=by
 intro fuel
 induction fuel with
 | zero =>
  intro listed a w hC _ hr hy H;refine⟨λh=>(by rw[h]at hr;cases hr),λj hj w' hb=>?_⟩
  by_cases hji:j=i
  . subst hji;exact Jgw hi hy (hC.trans (But.of_below hb)) λw'' hb'=>⟨λ_ h=>h.trans (But.of_below hb'),Jlr H (hb.trans (hb'.mono hb.size))⟩
  . have:=ready_mono hj hji
    rw[H.1]at this
    cases this
 | succ fuel ih =>
  intro listed a w hC hfree hr hy H;refine⟨λh=>(by rw[h]at hr;cases hr),λj hj w' hb=>?_⟩;have hC':=hC.trans (But.of_below hb)
  by_cases hji:j=i
  . subst hji;exact Jgw hi hy hC' λw'' hb'=>⟨λ_ h=>h.trans (But.of_below hb'),Jlr H (hb.trans (hb'.mono hb.size))⟩
  . have h1:=H.2 j (ready_mono hj hji) w' hb
    obtain⟨hjun,oj,hoj,hall⟩:=mem_ready.1 hj;have hnot:∀e∈oj.after,Region.binds md e=true->e.on≠i:=λe he hb heq=>by
     have h1:=hall e he hb;have h0:=(mem_ready.1 hr).1;rw[heq]at h1
     rcases Nat.lt_or_ge i listed.size with h' | h'
     . simp[h']at h0 h1;rw[h0]at h1;cases h1
     . simp[Array.getElem?_eq_none h']at h1
    have hjm:j<m:=by
     by_cases hjm:j<m
     . exact hjm
     . obtain⟨e,he,hb,hon⟩:=Jfq hlate hoj hjm him
       exact absurd hon (hnot e he hb)
    have h2:=JuD hoj (hfree j oj hoj hji hjun hnot) (λcs b=>hsel i oi cs b hi) (λcs b=>hsel j oj cs b hoj) hy h1
    have hfree':∀k ok,ops[k]?=some ok->k≠i->(listed.setIfInBounds j true).getD k true=false ->
        (∀e∈ok.after,Region.binds md e=true->e.on≠i)->oi.apart ops ok=true:=λk ok hk hki hun hno=>by
     refine hfree k ok hk hki ?_ hno
     by_cases hjk:j=k
     . subst hjk;exact hjun
     . rw[getD_set_ne true hjk]at hun;exact hun
    refine Je2 (λa' w'' h3=>?_) h2;obtain⟨h3y,h3g,h3a⟩:=h3;refine⟨λ_=>h3g hjm,ih (listed.setIfInBounds j true) a' w'' (h3g hjm hC') hfree' (ready_mono hr (Ne.symm hji)) h3y ?_⟩;rw[Array.setIfInBounds_comm _ _ hji];exact h3a
theorem JaZ{i fuel:Nat}{o:Oper}{listed:Array Bool}{a:Act}{w:World}{G:World->World}(hG:GrowB B W0 G)(hw0:But B W0 w)(hi:ops[i]?=some o)(him:decide (i<m)=true)(hs:(Region.noSelect ops && JeJ md ops m)=true)
    (hf:(Region.free md ops listed i && (Region.ready md ops listed).contains i)=true)
    (h:∀K:Act->Prop,(∀a,anyB B W0 P md ops m Q fuel (listed.setIfInBounds i true) a w->K a)->if Region.wanted o (yielded ops a.tmps) then ∃v,(∀x,Jaj P (G x) v ((execOp a.eval o).run P (G x)))/\K (a.put o.dst v) else K (a.put o.dst undef)) :
    anyB B W0 P md ops m Q (fuel+1) listed a w:=by
 have h1:=h _ λ_ h=>h;have him':i<m:=of_decide_eq_true him;rw[Bool.and_eq_true]at hs hf
 split at h1
 . rename_i hw
   obtain⟨v,h2,h3⟩:=h1;refine Jls hi him' (Region.noSelect_spec hs.1) hs.2 fuel listed a w hw0 (Region.free_spec hi hf.1) (by simpa using hf.2) ?_ h3;unfold Jeb;rw[if_pos hw];intro w' hb;have:=h2 w';rw[hG.onto w' hb]at this;exact this
 . rename_i hw
   refine Jls hi him' (Region.noSelect_spec hs.1) hs.2 fuel listed a w hw0 (Region.free_spec hi hf.1) (by simpa using hf.2) ?_ h1;unfold Jeb;rw[if_neg hw]
def askB (B:Nat) (W0:World) (P:Program) (md:Region.Mode) (ops:Array Oper) (m:Nat) (Q:Exit->Act->World->Prop) (fuel:Nat) (listed:Array Bool) (a:Act) (w:World) (i:Nat):Prop :=
 ∃o,ops[i]?=some o/\∀w',Bw w w'->∀K:Act->World->Prop,(∀a' w'',(But B W0 w'->But B W0 w'')->anyB B W0 P md ops m Q fuel (listed.setIfInBounds i true) a' w''->K a' w'')->if Region.wanted o (yielded ops a.tmps) then JaD P o a K ((execOp a.eval o).run P w') else K (a.put o.dst undef) w'
theorem Jfx{i fuel:Nat}{listed:Array Bool}{a:Act}{w:World}(hr:Region.ready md ops listed=[i])(h:askB B W0 P md ops m Q fuel listed a w i):anyB B W0 P md ops m Q (fuel+1) listed a w:=by
 obtain⟨o,hi,h⟩:=h;refine⟨λh0=>absurd (hr.symm.trans h0) (by simp),λj hj w' hb=>?_⟩;rw[hr,List.mem_singleton]at hj;subst hj;unfold opG;simp only[hi];exact h w' hb _ λa' w'' hb' ha=>⟨λ_=>hb',ha⟩
theorem Jmv{fuel:Nat}{listed:Array Bool}{a:Act}{w:World}(hr:Region.ready md ops listed=[])(h:∀w',Bw w w'->Q .normal a w'):anyB B W0 P md ops m Q fuel listed a w:=by
 cases fuel with
 | zero=>exact⟨hr,h⟩
 | succ n=>exact⟨λ_=>h,λi hi=>(by rw[hr]at hi;cases hi)⟩
theorem Jfa{id:Nat}{a:Act}{w:World}{l:List Oper}(B m n:Nat)(hm:P.follows .mixedOrders=true)(hn:l.length=n)
    (h:∀w',Bw w w'->anyB B w' P .any l.toArray m Q n (Array.replicate n false) a w'):(Code.region id l.toArray true).wp P Q a w :=
 wp_region_any hm (JjL (B:=B) (W0:={ w with drawn:=w.drawn+1 }) _ _ _ _ (by subst hn;simpa using h { w with drawn:=w.drawn+1 } (Below.drew (brf _ w))))
end
section
attribute [local go_sem] Jaj JaD
def Jmh (t:T) (c:List Nat) (t':T):Prop:=t.chunks=t'.chunks++[c]/\t'.bal
theorem JuZ(p:Option Addr)(l:T)(c:List Nat)(w:World)(ht:Jau w p (.node l c .nil)) :
    Cg 221 #[.pointer p] w λe w'=>∃q,e=.returned (.tuple #[JaF c,.pointer q])/\Jau w' q l/\Bw w w':=by
 obtain⟨b1,pl,pr,rfl,⟨c0,c1,c2,c3,c4⟩,⟨c5,c6⟩,_,_,hl,hr⟩:=ht;have hb0:∀o,Bw w (w.alloc o):=λo=>(brf _ w).alloc (nlr _) o;have hlt:b1<w.heap.size:=blt w _ c0;have HT:Hid (Jau w pl l):=hl;obtain rfl:pr=none:=hr;clear hl;have d6:=λo=>Jac (hb0 o) c6;have hA:=Jeq w (.string ⟨#[]⟩) (I6 0) (I6 0) (I6 0) (I6 0) 275;unfold JaF;generalize Jah c=v0 at *;generalize C1 c=v1 at *;generalize C2 c=v2 at *;generalize C3 c=v3 at *;generalize C4 c=v4 at *
 go_enter func221,ntmps221
 go_wp2;have hbW:=hb0 (Oc #[.string ⟨#[]⟩,I6 0,I6 0,I6 0,I6 0] 275);generalize (w.alloc (Oc #[.string ⟨#[]⟩,I6 0,I6 0,I6 0,I6 0] 275))=W at *;clear d6 hb0;refine Jfa w.heap.size 10 10 (by kernel_rfl) rfl ?_;intro w1 hb1;have hbw:=hbW.trans (hb1.mono hbW.size);have hA1:=JaC hA hb1;obtain⟨G,hG⟩:=JfN w.heap.size w1;have hw0:=But.refl w.heap.size w1;have hne:b1≠w.heap.size:=Nat.ne_of_lt hlt;have g0:=hG.cell hne (Jac hbw c0);have g1:=hG.cell hne (Jac hbw c1);have g2:=hG.cell hne (Jac hbw c2);have g3:=hG.cell hne (Jac hbw c3);have g4:=hG.cell hne (Jac hbw c4);have g5:=hG.cell hne (Jac hbw c5);clear c0 c1 c2 c3 c4 c5 c6 hA
 (refine JaZ hG hw0 (i:=0) rfl (by kernel_rfl) (by kernel_rfl) (by kernel_rfl) (λK hK=>?_);go_simp;refine hK _ ?_;clear hK K)
 (refine JaZ hG hw0 (i:=1) rfl (by kernel_rfl) (by kernel_rfl) (by kernel_rfl) (λK hK=>?_);go_simp;refine hK _ ?_;clear hK K)
 (refine JaZ hG hw0 (i:=2) rfl (by kernel_rfl) (by kernel_rfl) (by kernel_rfl) (λK hK=>?_);go_simp;refine hK _ ?_;clear hK K)
 (refine JaZ hG hw0 (i:=3) rfl (by kernel_rfl) (by kernel_rfl) (by kernel_rfl) (λK hK=>?_);go_simp;refine hK _ ?_;clear hK K)
 (refine JaZ hG hw0 (i:=4) rfl (by kernel_rfl) (by kernel_rfl) (by kernel_rfl) (λK hK=>?_);go_simp;refine hK _ ?_;clear hK K)
 (refine JaZ hG hw0 (i:=5) rfl (by kernel_rfl) (by kernel_rfl) (by kernel_rfl) (λK hK=>?_);go_simp;refine hK _ ?_;clear hK K)
 (refine JaZ hG hw0 (i:=6) rfl (by kernel_rfl) (by kernel_rfl) (by kernel_rfl) (λK hK=>?_);go_simp;refine hK _ ?_;clear hK K)
 (refine JaZ hG hw0 (i:=7) rfl (by kernel_rfl) (by kernel_rfl) (by kernel_rfl) (λK hK=>?_);go_simp;refine hK _ ?_;clear hK K)
 clear g0 g1 g2 g3 g4 g5 hG;refine Jfx (i:=8) (by kernel_rfl) ⟨_,rfl,?_⟩;intro w2 hb2 K hK;have hA2:=JaC hA1 hb2;have hbw2:=hbw.trans (hb2.mono hbw.size);have HA2:=hdz hA2;obtain⟨⟨a0,a1,a2,a3,a4⟩,f0,f1,f2,f3,f4⟩:=hA2
 go_simp
 refine hK _ _ (λh=>((((h.setCell rfl _).setCell rfl _).setCell rfl _).setCell rfl _).setCell rfl _) ?_;clear hK K;refine Jfx (i:=9) (by kernel_rfl) ⟨_,rfl,?_⟩;intro w3 hb3 K hK;have hA3:=JaC (JgE HA2.out) hb3;have hbw3:=(JeY hbw2 (nlr _) _ _ _ _ _).trans (hb3.mono (JeY hbw2 (nlr _) _ _ _ _ _).size)
 go_simp
 refine hK _ _ (λh=>h) ?_;clear hK K;refine Jmv (by kernel_rfl) ?_;intro w4 hb4;have hA4:=JaC hA3 hb4;have hbw4:=hbw3.trans (hb4.mono hbw3.size);clear a0 a1 a2 a3 a4 f0 f1 f2 f3 f4 hb3 hb4 hA3 HA2 hA1;have HT4:Hid _:=Jab hbw4 HT.out;obtain⟨⟨a0,a1,a2,a3,a4⟩,f0,f1,f2,f3,f4⟩:=hA4;go_wp2;refine bodyPost_ret (v:=.tuple #[.agg #[.string v0,I6 v1,I6 v2,I6 v3,I6 v4],.pointer pl]) (by simp[results,results221,go_sem,a0,a1,a2,a3,a4]) rfl ⟨_,rfl,HT4.out,hbw4⟩
theorem Jtb(p:Option Addr)(l r:T)(c:List Nat)(w:World)(ht:Jau w p (.node l c r))(hne:r≠.nil)(hz:big (.node l c r))(hbal:(T.node l c r).bal)
    (ih:∀(p:Option Addr) (w:World),Jau w p r->Cg 221 #[.pointer p] w λe w'=>∃c q t,e=.returned (.tuple #[JaF c,.pointer q])/\Jau w' q t/\Jmh r c t/\Bw w w') :
    Cg 221 #[.pointer p] w λe w'=>∃c1 q t,e=.returned (.tuple #[JaF c1,.pointer q])/\Jau w' q t/\Jmh (.node l c r) c1 t/\Bw w w':=by
 obtain⟨b1,pl,pr,rfl,⟨c0,c1,c2,c3,c4⟩,⟨c5,c6⟩,_,_,hl,hr⟩:=ht;have hb0:∀o,Bw w (w.alloc o):=λo=>(brf _ w).alloc (nlr _) o;have hlt:b1<w.heap.size:=blt w _ c0;have hsub:∃b2,pr=some (Ad b2 0):=by
  cases r with
  | nil=>exact absurd rfl hne
  | node x y z=>obtain⟨b,_,_,e,_⟩:=hr;exact⟨b,e⟩
 obtain⟨b2,rfl⟩:=hsub;have cI:=λo=>ih _ (w.alloc o) (Jab (hb0 o) hr);have HT:Hid (Jau w pl l):=hl
 have HJ:Hid (∀c1 t,Jmh r c1 t->∀p1 p2 W,Jau W p1 l->Jau W p2 t->Cg 260 #[.pointer p1,JaF c,.pointer p2] W λe w'=>∃q t',e=.returned (.pointer q)/\Jau w' q t'/\Jmh (.node l c r) c1 t'/\Bw W w'):=λc1 t he p1 p2 W h1 h2=>by
  obtain⟨b1,b2,b3,b4⟩:=hbal;have hbig:big (.node l c t):=by
   obtain⟨z1,z2⟩:=hz;have e1:=he.1;simp only[T.runes,T.size,Jbc]at z1 z2;rw[Jbk r,e1]at z1;rw[Jbz r,e1]at z2;simp only[List.flatten_append,Jbc,List.length_append,List.length_singleton]at z1 z2;have:=JdN [c1].flatten;exact⟨by simp only[T.runes,Jbc,Jbk t];omega,by simp only[T.size,Jbz t];omega⟩
  refine(Jma _ p1 p2 l t c W (nlr _) h1 h2 hbig b1 he.2).mono ?_;rintro e w' ⟨q,t',rfl,ht',⟨j1,j2,_,_⟩,hb⟩;exact⟨q,t',rfl,ht',⟨by rw[j1,T.chunks,he.1];simp,j2⟩,hb⟩
 clear hl hr hne hz hbal ih;have d6:=λo=>Jac (hb0 o) c6;have hA:=Jeq w (.string ⟨#[]⟩) (I6 0) (I6 0) (I6 0) (I6 0) 275;have hN:(w.alloc (Oc #[.string ⟨#[]⟩,I6 0,I6 0,I6 0,I6 0] 275)).cell? (Ad w.heap.size 5)=none:=by simp[go_sem]
 have HA:=hdz hA;have HN:=hdz hN;clear hA hN;unfold JaF at cI HJ ⊢
 go_enter func221,ntmps221
 go_wp2_with (go_at_call 221;refine(cI _).mono ?_;rintro e w1 ⟨x,p',t,rfl,ht1,he,hb1⟩;have HT1:=hdz ht1;have HE:=hdz he;clear ht1 he)
 obtain⟨W,hW⟩:∃W,w1.alloc (Oc #[.string (Jah x),I6 (C1 x),I6 (C2 x),I6 (C3 x),I6 (C4 x)] 275)=W:=⟨_,rfl⟩;have hB4:JeC W w1.heap.size (.string (Jah x)) (I6 (C1 x)) (I6 (C2 x)) (I6 (C3 x)) (I6 (C4 x)):=by rw[←hW];exact Jeq _ _ _ _ _ _ _
 have hb1W:Bw w1 W:=by rw[←hW];exact zA _ _
 rw[hW];clear hW cI d6;have hA:=JaC (JaC HA.out hb1) hb1W;have hltA:=JeV HA.out;have hN:=((zC (hb1.trans (hb1W.mono hb1.size)) w.heap.size 5 hltA)).trans HN.out;have ht1:=Jab hb1W HT1.out;have hbW:=(hb0 (Oc #[.string ⟨#[]⟩,I6 0,I6 0,I6 0,I6 0] 275)).trans ((hb1.trans (hb1W.mono hb1.size)).mono (hb0 (Oc #[.string ⟨#[]⟩,I6 0,I6 0,I6 0,I6 0] 275)).size);have hn14:w1.heap.size≠w.heap.size:=Nat.ne_of_gt (Nat.lt_of_lt_of_le (by rw[wsa];omega) hb1.size);clear HA HN HT1 hb1 hb1W hb0;refine Jfa w.heap.size 13 13 (by kernel_rfl) rfl ?_;intro w2 hb2;have hbw:=hbW.trans (hb2.mono hbW.size);have HA1:Hid _:=JaC hA hb2;have HN1:Hid _:=(zC hb2 w.heap.size 5 (JeV hA)).trans hN;have HT1:Hid _:=Jab hb2 ht1;have hB4':=JaC hB4 hb2;obtain⟨⟨e0,e1,e2,e3,e4⟩,_⟩:=hB4';obtain⟨G,hG⟩:=JfN w.heap.size w2;have hw0:=But.refl w.heap.size w2;have hne:b1≠w.heap.size:=Nat.ne_of_lt hlt;have g0:=hG.cell hne (Jac hbw c0);have g1:=hG.cell hne (Jac hbw c1);have g2:=hG.cell hne (Jac hbw c2);have g3:=hG.cell hne (Jac hbw c3);have g4:=hG.cell hne (Jac hbw c4);have g5:=hG.cell hne (Jac hbw c5);have k0:=hG.cell hn14 e0;have k1:=hG.cell hn14 e1;have k2:=hG.cell hn14 e2;have k3:=hG.cell hn14 e3;have k4:=hG.cell hn14 e4;clear c0 c1 c2 c3 c4 c5 c6 hA hN ht1 hB4 e0 e1 e2 e3 e4
 (refine JaZ hG hw0 (i:=0) rfl (by kernel_rfl) (by kernel_rfl) (by kernel_rfl) (λK hK=>?_);go_simp;refine hK _ ?_;clear hK K)
 (refine JaZ hG hw0 (i:=1) rfl (by kernel_rfl) (by kernel_rfl) (by kernel_rfl) (λK hK=>?_);go_simp;refine hK _ ?_;clear hK K)
 (refine JaZ hG hw0 (i:=2) rfl (by kernel_rfl) (by kernel_rfl) (by kernel_rfl) (λK hK=>?_);go_simp;refine hK _ ?_;clear hK K)
 (refine JaZ hG hw0 (i:=3) rfl (by kernel_rfl) (by kernel_rfl) (by kernel_rfl) (λK hK=>?_);go_simp;refine hK _ ?_;clear hK K)
 (refine JaZ hG hw0 (i:=4) rfl (by kernel_rfl) (by kernel_rfl) (by kernel_rfl) (λK hK=>?_);go_simp;refine hK _ ?_;clear hK K)
 (refine JaZ hG hw0 (i:=5) rfl (by kernel_rfl) (by kernel_rfl) (by kernel_rfl) (λK hK=>?_);go_simp;refine hK _ ?_;clear hK K)
 (refine JaZ hG hw0 (i:=6) rfl (by kernel_rfl) (by kernel_rfl) (by kernel_rfl) (λK hK=>?_);go_simp;refine hK _ ?_;clear hK K)
 (refine JaZ hG hw0 (i:=7) rfl (by kernel_rfl) (by kernel_rfl) (by kernel_rfl) (λK hK=>?_);go_simp;refine hK _ ?_;clear hK K)
 (refine JaZ hG hw0 (i:=8) rfl (by kernel_rfl) (by kernel_rfl) (by kernel_rfl) (λK hK=>?_);go_simp;refine hK _ ?_;clear hK K)
 (refine JaZ hG hw0 (i:=9) rfl (by kernel_rfl) (by kernel_rfl) (by kernel_rfl) (λK hK=>?_);go_simp;refine hK _ ?_;clear hK K)
 clear g0 g1 g2 g3 g4 g5 k0 k1 k2 k3 k4 hG hb2;refine Jfx (i:=10) (by kernel_rfl) ⟨_,rfl,?_⟩
 . intro w3 hb3 K hK
   have hbw3:=hbw.trans (hb3.mono hbw.size);have ht3:=Jab hb3 HT1.out;have cj:=HJ.out x t HE.out _ _ w3 (Jab hbw3 HT.out) ht3
   go_simp
   refine cj.mono ?_;rintro e w4 ⟨q,t',rfl,ht4,he4,hb4⟩;have HE9:=hdz he4;refine⟨_,rfl,hK _ _ (λh=>h.trans (But.of_below hb4)) ?_⟩;clear hK K cj he4 ht3;have hb34:=hb3.trans (hb4.mono hb3.size);have hbw4:=hbw3.trans (hb4.mono hbw3.size);have HA4:Hid _:=JaC HA1.out hb34;have HN4:Hid _:=(zC hb34 w.heap.size 5 (JeV HA1.out)).trans HN1.out;refine Jfx (i:=11) (by kernel_rfl) ⟨_,rfl,?_⟩;intro w5 hb5 K hK;have hbw5:=hbw4.trans (hb5.mono hbw4.size);have hN5:=(zC hb5 w.heap.size 5 (JeV HA4.out)).trans HN4.out;have HT5:Hid _:=JcC (((((But.refl w.heap.size w5).setCell (p:=(Ad w.heap.size 0)) rfl (.string (Jah x))).setCell (p:=(Ad w.heap.size 1)) rfl (I6 (C1 x))).setCell (p:=(Ad w.heap.size 2)) rfl (I6 (C2 x))).setCell (p:=(Ad w.heap.size 3)) rfl (I6 (C3 x)) |>.setCell (p:=(Ad w.heap.size 4)) rfl (I6 (C4 x))) hN5 (Jab hb5 ht4);clear ht4 hN5;have HA5:Hid _:=JaC HA4.out hb5;have hx:=HA5.out;obtain⟨⟨a0,a1,a2,a3,a4⟩,f0,f1,f2,f3,f4⟩:=hx
   go_simp
   refine hK _ _ (λh=>((((h.setCell rfl _).setCell rfl _).setCell rfl _).setCell rfl _).setCell rfl _) ?_;clear hK K a0 a1 a2 a3 a4 f0 f1 f2 f3 f4;have hbs:=JeY hbw5 (nlr _) (.string (Jah x)) (I6 (C1 x)) (I6 (C2 x)) (I6 (C3 x)) (I6 (C4 x));have hAs:=JgE (u0:=.string (Jah x)) (u1:=I6 (C1 x)) (u2:=I6 (C2 x)) (u3:=I6 (C3 x)) (u4:=I6 (C4 x)) HA5.out;have hts:=HT5.out;refine Jfx (i:=12) (by kernel_rfl) ⟨_,rfl,?_⟩;intro w8 hb8 K hK
   go_simp
   refine hK _ _ (λh=>h) ?_;clear hK K;refine Jmv (by kernel_rfl) ?_;intro w9 hb9;have hb89:=hb8.trans (hb9.mono hb8.size);have hA9:=JaC hAs hb89;have hbw9:=hbs.trans (hb89.mono hbs.size);have HT9:Hid _:=Jab hb89 hts;clear hb8 hb9 hb89 hts;obtain⟨⟨a0,a1,a2,a3,a4⟩,f0,f1,f2,f3,f4⟩:=hA9;go_wp2;refine bodyPost_ret (v:=.tuple #[JaF x,.pointer q]) (by simp[results,results221,go_sem,a0,a1,a2,a3,a4,JaF]) rfl ⟨_,_,_,rfl,HT9.out,HE9.out,hbw9⟩
theorem Jva:∀(n:Nat)(t:T)(p:Option Addr)(w:World),t.size<=n->t≠.nil->Jau w p t->big t->t.bal ->
    Cg 221 #[.pointer p] w λe w'=>∃c q t',e=.returned (.tuple #[JaF c,.pointer q])/\Jau w' q t'/\Jmh t c t'/\Bw w w':=by
 intro n
 induction n with
 | zero =>
  intro t p w hn hne
  cases t with
  | nil=>exact absurd rfl hne
  | node l c r=>simp[T.size]at hn
 | succ n ih =>
  intro t p w hn hne ht hz hbal
  match t,hn,hne,ht,hz,hbal with
  | .nil,_,hne,_,_,_=>exact absurd rfl hne
  | .node l c r,hn,_,ht,hz,hbal =>
   by_cases hs:r=.nil
   . subst hs
     refine(JuZ p l c w ht).mono ?_;rintro e w' ⟨q,rfl,hq,hb⟩;exact⟨c,q,l,rfl,hq,⟨by simp[T.chunks],hbal.1⟩,hb⟩
   . simp only[T.size]at hn
     exact Jtb p l r c w ht hs hz hbal λp' w' h'=>ih r p' w' (by omega) hs h' (JbW hz).2.1 hbal.2.1
end
def JbO (c:List Nat):Prop:=c≠[]/\(encs c).length<=32/\∀r∈c,Jbp r
def okT (t:T):Prop:=t.bal/\∀c∈t.chunks,JbO c
theorem okT_nil:okT .nil:=⟨trivial,λc h=>by cases h⟩
def JtY (t:T) (c:List Nat) (t':T):Prop:=t'.runes=t.runes++c/\okT t'/\t'.size<=t.size+1
theorem JkG{t t':T}{c:List Nat}(h:JdL t .nil c t')(ht:okT t)(hc:JbO c):JtY t c t':=by
 obtain⟨j1,j2,_,_⟩:=h;refine⟨by rw[Jbk,Jbk t,j1];simp[T.chunks],⟨j2,λx hx=>?_⟩,by rw[Jbz,Jbz,j1];simp[T.chunks]⟩;rw[j1]at hx;simp only[T.chunks,List.append_nil,List.mem_append,List.mem_singleton]at hx
 rcases hx with hx|rfl
 . exact ht.2 x hx
 . exact hc
theorem add_nil(c:List Nat)(w:World)(hz:C1 c<=1000000000) :
    Cg 224 #[.pointer none,JaF c] w λe w'=>∃q,e=.returned (.pointer q)/\Jau w' q (.node .nil c .nil)/\Bw w w':=by
 have hb0:∀o,Bw w (w.alloc o):=λo=>(brf _ w).alloc (nlr _) o;have e0:C1 T.nil.runes=0:=rfl;have ck:=λwx=>JpT none none .nil .nil c wx rfl rfl (by rw[e0];omega) (by simp[T.size,T.height]);unfold JaF at *;clear hz e0
 go_enter func224,ntmps224
 go_wp2_with (go_at_call 262;refine(ck _).mono ?_;rintro e w1 ⟨q,rfl,ht,hb⟩;have HT:=hdz ht;clear ht)
 go_ret;exact⟨q,rfl,HT.out,(hb0 _).trans (hb.mono (hb0 _).size)⟩
theorem JvL(b:Nat)(t:T)(c:List Nat)(w:World)(hT:Lib.Utf8Tabs 3 4 w)(ht:Jau w (some (Ad b 0)) t)(hne:t≠.nil)(hz:big (.node t c .nil))(hok:okT t)(hc:JbO c) :
    Cg 224 #[Pd b 0,JaF c] w λe w'=>∃q t',e=.returned (.pointer q)/\Jau w' q t'/\JtY t c t'/\Bw w w':=by
 have hb0:∀o,Bw w (w.alloc o):=λo=>(brf _ w).alloc (nlr _) o;have cl:=λo=>Jva _ t _ (w.alloc o) (nlr _) hne (Jab (hb0 o) ht) (JbW hz).1 hok.1;have HT:Hid (Jau w (some (Ad b 0)) t):=ht;have HTT:Hid (Lib.Utf8Tabs 3 4 w):=hT;have HB:Hid (big (.node t c .nil)):=hz;have HO:Hid (okT t):=hok;have HC:Hid (JbO c):=hc;have hcs:(Jah c).size<=32:=by rw[JaI];exact hc.2.1
 clear hT ht hne hz hok hc;have HA0:Hid (∀x t0,Jmh t x t0->JbO x/\(encs x).length<=32/\big (.node t0 (x++c) .nil)/\okT t0):=λx t0 he=>by
  have hx:JbO x:=HO.out.2 x (by rw[he.1];simp);refine⟨hx,hx.2.1,?_,he.2,λy hy=>HO.out.2 y (by rw[he.1];simp[hy])⟩;obtain⟨z1,z2⟩:=HB.out;simp only[T.runes,T.size,Jbc]at z1 z2;rw[Jbk t,he.1]at z1;rw[Jbz t,he.1]at z2;simp only[List.flatten_append,Jbc,List.length_append,List.length_singleton,List.flatten_cons,List.flatten_nil,List.append_nil]at z1 z2;exact⟨by simp only[T.runes,Jbc,Jbk t0];omega,by simp only[T.size,Jbz t0];omega⟩
 have HK:Hid (∀x t0,Jmh t x t0->∀wx,Bw w wx->Cg 225 #[.string (Jah x++Jah c)] wx (Rt wx (JaF (x++c)))):=λx t0 he wx hb=>by
  obtain⟨h1,h2,h3,_⟩:=HA0.out x t0 he;rw[Jkd];have hl:=HC.out.2.1;refine JjB (x++c) (λr hr=>?_) ?_ wx (Go.Proofs.Utf8Tabs_below HTT.out hb)
  . rcases List.mem_append.1 hr with hr|hr
    . exact h1.2.2 r hr
    . exact HC.out.2.2 r hr
  . rw[Jbc,Jcb,Jcb];omega
 have HJ1:Hid (∀x t0,Jmh t x t0->(encs x).length+(encs c).length<=32->∀q0 wx,Jau wx q0 t0->Cg 260 #[.pointer q0,JaF (x++c),.pointer none] wx λe w'=>∃q t',e=.returned (.pointer q)/\Jau w' q t'/\JtY t c t'/\Bw wx w'):=λx t0 he hle q0 wx h=>by
  obtain⟨h1,h2,h3,h4⟩:=HA0.out x t0 he;refine(Jma _ q0 none t0 .nil (x++c) wx (nlr _) h rfl h3 he.2 trivial).mono ?_;rintro e w' ⟨q,t',rfl,ht',hj,hb⟩;have hok:JbO (x++c):=⟨by simp[h1.1],by rw[Jb1,List.length_append];exact hle,λr hr=>(List.mem_append.1 hr).elim (h1.2.2 r) (HC.out.2.2 r)⟩;obtain⟨a1,a2,a3⟩:=JkG hj h4 hok;refine⟨q,t',rfl,ht',⟨?_,a2,?_⟩,hb⟩
  . rw[a1,Jbk t,Jbk t0,he.1];simp
  . have:=Jbz t;rw[he.1]at this;have:=Jbz t0;simp at *;omega
 have HJ2:Hid (∀wx,Bw w wx->Cg 260 #[Pd b 0,JaF c,.pointer none] wx λe w'=>∃q t',e=.returned (.pointer q)/\Jau w' q t'/\JtY t c t'/\Bw wx w'):=λwx hb=>by
  refine(Jma _ _ none t .nil c wx (nlr _) (Jab hb HT.out) rfl HB.out HO.out.1 trivial).mono ?_;rintro e w' ⟨q,t',rfl,ht',hj,hb⟩;exact⟨q,t',rfl,ht',JkG hj HO.out HC.out,hb⟩
 unfold JaF at *
 go_enter func224,ntmps224
 go_wp2_with (go_at_call 221;refine(cl _).mono ?_;rintro e w1 ⟨x,q0,t0,rfl,ht0,he,hb1⟩;have HE:Hid (Jmh t x t0):=he;have hxs:(Jah x).size<=32:=(by rw[JaI];exact(HA0.out x t0 he).2.1);have hb1W:Bw w1 (w1.alloc (Oc #[.string (Jah x),I6 (C1 x),I6 (C2 x),I6 (C3 x),I6 (C4 x)] 275)):=(brf _ w1).alloc (nlr _) _;have hm:=JaC (JaC (Jeq w (.string (Jah c)) (I6 (C1 c)) (I6 (C2 c)) (I6 (C3 c)) (I6 (C4 c)) 275) hb1) hb1W;obtain⟨⟨m0,m1,m2,m3,m4⟩,_⟩:=hm;have hBW:Bw w (w1.alloc (Oc #[.string (Jah x),I6 (C1 x),I6 (C2 x),I6 (C3 x),I6 (C4 x)] 275)):=(hb0 _).trans ((hb1.trans (hb1W.mono hb1.size)).mono (hb0 _).size);have HBW:=hdz hBW;have HTW:Hid _:=Jab hb1W ht0;clear ht0 he hBW hb1 hb1W)
 . have hle:(encs x).length+(encs c).length<=32:=by rw[←JaI,←JaI];omega
   refine(HK.out x t0 HE.out _ HBW.out).mono ?_;rintro e w2 ⟨rfl,hb2⟩;have hw2:=HBW.out.trans (hb2.mono HBW.out.size);have cj:=HJ1.out x t0 HE.out hle q0 w2 (Jab hb2 HTW.out);unfold JaF at cj;clear hb2
   go_wp2_with (go_at_call 260;refine cj.mono ?_;rintro e w3 ⟨q,t',rfl,ht',ha,hb3⟩;have HT':Hid _:=ht';have HA':=hdz ha;clear ht' ha)
   go_ret;exact⟨q,t',rfl,HT'.out,HA'.out,hw2.trans (hb3.mono hw2.size)⟩
 . refine(HJ2.out _ HBW.out).mono ?_
   rintro e w3 ⟨q,t',rfl,ht',ha,hb3⟩;have hw3:=HBW.out.trans (hb3.mono HBW.out.size);have HT':Hid _:=ht';have HA':=hdz ha;clear ht' ha hb3;go_wp2;go_ret;exact⟨q,t',rfl,HT'.out,HA'.out,hw3⟩
theorem add_any(p:Option Addr)(t:T)(c:List Nat)(w:World)(hT:Lib.Utf8Tabs 3 4 w)(ht:Jau w p t)(hz:big (.node t c .nil))(hok:okT t)(hc:JbO c) :
    Cg 224 #[.pointer p,JaF c] w λe w'=>∃q t',e=.returned (.pointer q)/\Jau w' q t'/\JtY t c t'/\Bw w w':=by
 cases t with
 | nil =>
  obtain rfl:p=none:=ht;refine(add_nil c w (by obtain⟨z,_⟩:=hz;simp only[T.runes,List.nil_append,List.append_nil]at z;omega)).mono ?_;rintro e w' ⟨q,rfl,hq,hb⟩;refine⟨q,_,rfl,hq,⟨by simp[T.runes],⟨⟨trivial,trivial,by simp[T.height],by simp[T.height]⟩,λx hx=>?_⟩,by simp[T.size]⟩,hb⟩;simp only[T.chunks,List.nil_append,List.append_nil,List.mem_singleton]at hx;subst hx;exact hc
 | node l x r =>
  have h2:=ht;obtain⟨b,_,_,rfl,_⟩:=h2;exact JvL b _ c w hT ht (by simp) hz hok hc
section
variable {n r : Nat}{rs : List Nat}
def Jfz (b:UInt8):Bool:=Lib.runeStart (b.toNat:Int)
theorem Jfe(h:n<256)(h2:n / 64≠2):Jfz n.toUInt8=true:=by
 unfold Jfz Lib.runeStart;rw[toU8 h,bne_iff_ne];omega
theorem Jg2(h:n<64):Jfz (128+n).toUInt8=false:=by
 unfold Jfz Lib.runeStart;rw[toU8 (by omega),bne_eq_false_iff_eq];omega
theorem Jgh(hr:Jbp r):∃b t,enc r=b :: t/\Jfz b=true/\(∀x∈t,Jfz x=false)/\t.length<=3:=by
 unfold Jbp at hr
 by_cases h1:r<=127
 . rw[enc1 h1];exact⟨_,[],rfl,Jfe (by omega) (by omega),by simp,by simp⟩
 by_cases h2:r<=2047
 . rw[enc2 (by omega) h2]
   exact⟨_,_,rfl,Jfe (by omega) (by omega),λx hx=>by simp only[List.mem_cons,List.not_mem_nil,or_false]at hx;subst hx;exact Jg2 (by omega),by simp⟩
 by_cases h3:r<=65535
 . rw[enc3 (by omega)]
   exact⟨_,_,rfl,Jfe (by omega) (by omega),λx hx=>by simp only[List.mem_cons,List.not_mem_nil,or_false]at hx;rcases hx with rfl|rfl<;>exact Jg2 (by omega),by simp⟩
 . rw[enc4 (by omega) (by omega)]
   exact⟨_,_,rfl,Jfe (by omega) (by omega),λx hx=>by simp only[List.mem_cons,List.not_mem_nil,or_false]at hx;rcases hx with rfl|rfl|rfl<;>exact Jg2 (by omega),by simp⟩
def JeQ (rs:List Nat) (j:Nat):Prop:=∃k,k<=rs.length/\j=(encs (rs.take k)).length
theorem Jpe(rs:List Nat):JeQ rs 0:=⟨0,Nat.zero_le _,by simp[encs]⟩
theorem Jru(rs:List Nat):JeQ rs (encs rs).length:=⟨rs.length,nlr _,by rw[List.take_length]⟩
theorem Jn6(rs:List Nat):JeQ (r :: rs) (enc r).length:=⟨1,by simp,by simp[encs]⟩
theorem Jeo:∀{rs:List Nat},(∀r∈rs,Jbp r)->∀{j:Nat}{b:UInt8},(encs rs)[j]?=some b->Jfz b=true->JeQ rs j
 | [],_,j,b,h,_=>by simp[encs]at h
 | r :: rs,hr,j,b,h,hb=>by
  obtain⟨b0,t,e,h1,h2,_⟩:=Jgh (hr r (by simp));rw[JbS]at h
  by_cases hj:j<(enc r).length
  . rw [List.getElem?_append_left hj,e]at h
    cases j with
    | zero=>exact Jpe _
    | succ j =>
     rw[List.getElem?_cons_succ]at h;have:=h2 b (List.mem_of_getElem? h);rw[this]at hb
     cases hb
  . rw[List.getElem?_append_right (by omega)]at h
    obtain⟨k,hk,e2⟩:=Jeo (λx hx=>hr x (by simp[hx])) h hb;refine⟨k+1,by simp;omega,?_⟩;rw[List.take_succ_cons,JbS,List.length_append,←e2];omega
theorem Jf5:∀{rs:List Nat},(∀r∈rs,Jbp r)->∀{j:Nat}{b:UInt8},JeQ rs j->(encs rs)[j]?=some b->Jfz b=true
 | [],_,j,b,_,h=>by simp[encs]at h
 | r :: rs,hr,j,b,⟨k,hk,hj⟩,h=>by
  obtain⟨b0,t,e,h1,_,_⟩:=Jgh (hr r (by simp))
  cases k with
  | zero =>
   simp[encs]at hj;subst hj;rw[JbS,e]at h;simp at h;subst h;exact h1
  | succ k =>
   rw[List.take_succ_cons,JbS,List.length_append]at hj;rw[JbS,List.getElem?_append_right (by omega)]at h;exact Jf5 (λx hx=>hr x (by simp[hx])) ⟨k,by simpa using hk,by omega⟩ h
theorem cut_at(hr:∀r∈rs,Jbp r){j:Nat}(h:JeQ rs j)(h0:0<j)(h32:j<=32) :
    ∃x y,rs=x++y/\JbO x/\(Jah rs).extract 0 j=Jah x/\(Jah rs).extract j (Jah rs).size=Jah y/\(encs y).length+j=(encs rs).length:=by
 obtain⟨k,hk,rfl⟩:=h;refine⟨rs.take k,rs.drop k,(List.take_append_drop k rs).symm,⟨?_,h32,λr h=>hr r (List.mem_of_mem_take h)⟩,?_,?_,?_⟩
 . intro e
   rw[e]at h0;simp[encs]at h0
 . apply ByteArray.ext
   apply Array.toList_inj.1;rw[Lib.extract_data,List.drop_zero,Nat.sub_zero,JbT,JbT]
   conv=>lhs;rw[←List.take_append_drop k rs,Jb1]
   simp
 . apply ByteArray.ext
   apply Array.toList_inj.1;rw[Lib.extract_to_end,JbT,JbT]
   conv=>lhs;rw[←List.take_append_drop k rs,Jb1]
   simp
 . have e:encs rs=encs (rs.take k)++encs (rs.drop k):=by rw[←Jb1,List.take_append_drop]
   rw[e,List.length_append];omega
theorem Jty(hr:∀r∈rs,Jbp r)(hne:rs≠[]):∃f,1<=f/\f<=4/\JeQ rs f/\f<=(encs rs).length:=by
 cases rs with
 | nil=>exact absurd rfl hne
 | cons r rs =>
  obtain⟨b0,t,e,_,_,h3⟩:=Jgh (hr r (by simp));refine⟨(enc r).length,by rw[e];simp,by rw[e];simp;omega,Jn6 rs,by rw[JbS,List.length_append];omega⟩
end
section
variable {n B : Nat}
structure Same2 (n:Nat) (W W':World):Prop where
 a:W'.heap[n]?=W.heap[n]?
 b:W'.heap[n+1]?=W.heap[n+1]?
theorem Same2.refl(n:Nat)(W:World):Same2 n W W:=⟨rfl,rfl⟩
theorem Same2.of_below{W W':World}(h:Below B W W')(hB:n+2<=B):Same2 n W W':=⟨h.block n (by omega),h.block (n+1) (by omega)⟩
theorem Same2.setCell{n:Nat}{A W:World}(h:Same2 n A W){p:Addr}(h1:p.block≠n)(h2:p.block≠n+1)(v:Value):Same2 n A (W.setCell p v) :=
 ⟨(Below.heap_setCell W p v n (λe=>h1 e.symm)).trans h.a,(Below.heap_setCell W p v (n+1) (λe=>h2 e.symm)).trans h.b⟩
theorem Same2.alloc{n:Nat}{A W:World}(h:Same2 n A W)(hn:n+2<=W.heap.size)(o:Obj):Same2 n A (W.alloc o) :=
 ⟨(Below.heap_alloc W o n (by omega)).trans h.a,(Below.heap_alloc W o (n+1) (by omega)).trans h.b⟩
structure Put1 (n:Nat) (A B:World):Prop where
 os:B.os=A.os
 tape:B.tape=A.tape
 output:B.output=A.output
 size:B.heap.size=A.heap.size
 block:∀k,k≠n->B.heap[k]?=A.heap[k]?
theorem Put1.putObj(n:Nat)(A:World)(o:Obj):Put1 n A (A.putObj n o):=⟨rfl,rfl,rfl,by simp,λ_ h=>World.putObj_heap_other h⟩
theorem Put1.below{A A':World}(h:Put1 n A A')(hB:B<=n):Below B A A':=⟨h.os,h.tape,h.output,Nat.le_of_eq h.size.symm,λk hk=>h.block k (by omega)⟩
theorem Put1.cell{n:Nat}{A A':World}(h:Put1 n A A'){b o:Nat}(hb:b≠n):A'.cell? (Ad b o)=A.cell? (Ad b o):=World.cell?_of_block (w:=A) (a:=(Ad b o)) (h.block b hb)
theorem Put1.frozen{n:Nat}{A A':World}(h:Put1 n A A'){b o:Nat}(hb:b≠n):A'.frozen? (Ad b o)=A.frozen? (Ad b o):=World.frozen?_of_block (w:=A) (a:=(Ad b o)) (h.block b hb)
def JpI {α:Type} (n:Nat) (Kp:World->World->Prop) (I:List α->World->Prop) (Ix:Code->List α->World->Prop) (xs:List α) (W:World):Exit->Act->World->Prop
 | .normal,_,W'=>Same2 n W W'/\Kp W W'/\I xs W'
 | .ret,_,W'=>Same2 n W W'/\Kp W W'/\Ix .ret xs W'
 | .exit id,_,W'=>Same2 n W W'/\Kp W W'/\Ix (.exit id) xs W'
 | .goto t,_,W'=>Same2 n W W'/\Kp W W'/\Ix (.goto t) xs W'
 | .panic _,_,_=>False
 | .outgrown,_,_=>False
def Jlv {α:Type} (P:Program) (g:Nat) (lb:Array Value) (encs:List α->α->Array Value) (It Kp:World->World->Prop) (Z:World->Prop) (S Sp:List α->Prop) (W:World):Prop :=
 ∀ (l : Nat) (J Jx:List α->World->Prop),(∀pre A,J pre A->Z A)->(∀pre A,Jx pre A->Z A)->(∀pre A B,J pre A->It A B->J pre B)->(∀pre A B,Jx pre A->It A B->Jx pre B) ->
  (∀ pre x A,J pre A->Sp (pre++[x])->YieldAt Fence.wide 0 P l (encs pre x) A λe A' =>
    (e=.returned (.bool true)/\J (pre++[x]) A'/\Kp A A')\/(e=.returned (.bool false)/\Jx (pre++[x]) A'/\Kp A A')) ->
  J [] W ->
  CallsIn Fence.wide 0 P g (#[.func (.yield l) #[] #[]]++lb) W λe W'=>(∃v,e=.returned v)/\((∃xs,S xs/\J xs W')\/(∃pre,Sp pre/\Jx pre W'))
theorem Jey{α:Type}{P:Program}{g:Operand}{ps:Array Tmp}{assign body:Code}{Q:Exit->Act->World->Prop}{a:Act}{w:World}{n:Nat}
    {gf:Nat} {lb:Array Value} (hg:a.eval g=.func (.func gf) #[] lb) (eg:∀args w,(callFunc gf args).run P w=.ok (.enter gf args) w)
    {encs:List α->α->Array Value} (hps:∀pre x,(encs pre x).size=ps.size)
    {It Kp:World->World->Prop} {Z:World->Prop} {S Sp:List α->Prop}
    (hseq:∀W,W.heap.size=w.heap.size+2->Below w.heap.size w W->Jlv P gf lb encs It Kp Z S Sp W)
    (hIt:∀A B,It A B->Same2 w.heap.size A B)
    (hKt:∀{A B C:World},Kp A B->Kp B C->Kp A C) (hKb:∀(A:World) (r:Loop),Kp A (A.putObj (w.heap.size+1) (.loop r)))
    (I:List α->World->Prop) (Ix:Code->List α->World->Prop)
    (hIz:∀pre A,I pre A->Z A) (hIxz:∀c pre A,Ix c pre A->Z A)
    (hI:∀pre A B,I pre A->It A B->I pre B) (hIb:∀pre A (r:Loop),I pre A->I pre (A.putObj (w.heap.size+1) (.loop r)))
    (hIx:∀c pre A B,Ix c pre A->It A B->Ix c pre B) (hIxb:∀c pre A (r:Loop),Ix c pre A->Ix c pre (A.putObj (w.heap.size+1) (.loop r)))
    (h0:∀W,W.heap.size=w.heap.size+2->Below w.heap.size w W->(∃r,W.heap[w.heap.size+1]?=some (.loop r))->I [] W)
    (hround:∀(l:Nat) (pre:List α) (x:α) (W:World),I pre W->w.heap.size+2<=W.heap.size->Sp (pre++[x]) ->
      assign.wpIn (Fence.wide.inRound l) 0 P (Exit.then (λa₁ w₁=>Same2 w.heap.size W w₁/\Kp W w₁/\∀w₂,Put1 (w.heap.size+1) w₁ w₂->(∃r,w₂.heap[w.heap.size+1]?=some (.loop r))->body.wpIn (Fence.wide.inRound l) 0 P (JpI w.heap.size Kp I Ix (pre++[x]) w₂) a₁ w₂) (λ_ _ _=>False))
       { tmps:=(ps.zip (encs pre x)).foldl (λt (p,v)=>t.setIfInBounds p v) a.tmps,defers:=[] } W)
    (hdone:∀(xs:List α) (W:World),S xs->I xs W->W.heap[w.heap.size]?=some (.deferred (some []))->Q .normal { a with defers:={ target:=.collected w.heap.size,args:=#[] } :: a.defers } W)
    (hstop:∀(c:Code) (pre:List α) (W:World),Sp pre->Ix c pre W->W.heap[w.heap.size]?=some (.deferred (some []))->c.wpIn Fence.wide n P Q { a with defers:={ target:=.collected w.heap.size,args:=#[] } :: a.defers } W) :
    (Code.rangeFunc g ps assign body).wpIn Fence.wide n P Q a w:=by
 refine wpIn_rangeFunc ?_;intro fn hfn;obtain⟨rec,hrec⟩:∃rec:LoopState->Option Code->Loop,rec=λst pe=>{ state:=st,pending:=pe,fn,tmps:=a.tmps,params:=ps,assign,body,defers:=w.heap.size }:=⟨_,rfl⟩;obtain⟨W1,hW1⟩:∃W1,(w.alloc (.deferred (some []))).alloc (.loop (rec .ready none))=W1:=⟨_,rfl⟩;have hL1:W1.heap[w.heap.size+1]?=some (.loop (rec .ready none)):=by
  rw[←hW1];have:=World.alloc_heap_new (w.alloc (.deferred (some []))) (.loop (rec .ready none));rwa[World.size_alloc]at this
 have hK1:W1.heap[w.heap.size]?=some (.deferred (some [])):=by
  rw[←hW1];exact(Below.heap_alloc _ _ _ (by simp)).trans (World.alloc_heap_new w _)
 have hs1:W1.heap.size=w.heap.size+2:=by rw[←hW1,World.size_alloc,World.size_alloc]
 have hb1:Below w.heap.size w W1:=by
  rw[←hW1];exact((brf _ w).alloc (nlr _) _).alloc (by simp) _
 have hI1:I [] W1:=h0 W1 hs1 hb1 ⟨_,hL1⟩
 refine ⟨w.heap.size+1,[{ target:=.collected w.heap.size,args:=#[] }],W1,{ target:=.fn (.func gf) lb,args:=#[.func (.yield (w.heap.size+1)) #[] #[]] },W1,gf,
  #[.func (.yield (w.heap.size+1)) #[] #[]]++lb,W1,?_,?_,?_,?_,λh=>(by cases h),?_⟩
 . rw[←hW1,hrec];exact run_enterLoop_outer _ _ _ _ _
 . simp only[resolve,hg]
   simp[go_sem]
 . intro f' hf';trivial
 . simp[invoke,go_sem,eg]
 . refine CallsIn.more ((hseq W1 hs1 hb1 (w.heap.size+1)
     (λpre W=>I pre W/\W.heap[w.heap.size+1]?=some (.loop (rec .ready none))/\W.heap[w.heap.size]?=some (.deferred (some [])))
     (λpre W=>∃c,Ix c pre W/\W.heap[w.heap.size+1]?=some (.loop (rec .done (some c)))/\W.heap[w.heap.size]?=some (.deferred (some [])))
     (λs A hs=>hIz s A hs.1) (λs A hs=>(by obtain⟨c,hc,_⟩:=hs;exact hIxz c s A hc))
     (λs A B hs hg'=>⟨hI s A B hs.1 hg',(hIt A B hg').b.trans hs.2.1,(hIt A B hg').a.trans hs.2.2⟩)
     (λs A B hs hg'=>by
       obtain⟨c,hc,hl,hk⟩:=hs
       exact⟨c,hIx c s A B hc hg',(hIt A B hg').b.trans hl,(hIt A B hg').a.trans hk⟩)
     ?_ ⟨hI1,hL1,hK1⟩).mono ?_) (Nat.zero_le _)
   . -- one round
     rintro pre x W ⟨hi,hl,hk⟩ hSp;have hlt:w.heap.size+1<W.heap.size:=(alt hl);have hy:=run_yield (P:=P) (args:=encs pre x) hl (by rw[hrec];exact hps pre x);rw[hrec]at hy;refine⟨fn,_,assign,body,hy,roundIn_of_wpIn hfn (wpIn_mono (hround _ pre x W hi (by omega) hSp) ?_)⟩;clear hy;rintro ea a' Wa hq
     cases ea with
     | normal=>?_
     | ret=>exact hq.elim
     | exit id=>exact hq.elim
     | goto t=>exact hq.elim
     | panic c=>exact hq.elim
     | outgrown=>exact hq.elim
     obtain⟨h2a,hkpa,hbody⟩:=hq
     replace hl:=h2a.b.trans hl
     replace hk:=h2a.a.trans hk
     replace hlt:w.heap.size+1<Wa.heap.size:=(alt hl)
     refine⟨_,run_beginRound hl (by rw[hrec]),?_⟩;have hl2:(Wa.putObj (w.heap.size+1) (.loop { rec .ready none with state:=.busy })).heap[w.heap.size+1]?=some (.loop { rec .ready none with state:=.busy }):=World.putObj_heap_same hlt;have hk2:(Wa.putObj (w.heap.size+1) (.loop { rec .ready none with state:=.busy })).heap[w.heap.size]?=some (.deferred (some [])):=(World.putObj_heap_other (by omega)).trans hk;have hw2:Kp Wa (Wa.putObj (w.heap.size+1) (.loop { rec .ready none with state:=.busy })):=hKb _ _;refine wpIn_mono (hbody _ (Put1.putObj _ _ _) ⟨_,hl2⟩) ?_
     have fin:∀(jump:Option Code) (W3:World),Same2 w.heap.size (Wa.putObj (w.heap.size+1) (.loop { rec .ready none with state:=.busy })) W3 ->
         (Instr.endRound (w.heap.size+1) jump).run P W3=.ok (.bool jump.isNone) (W3.putObj (w.heap.size+1) (.loop (rec (if jump.isNone then .ready else .done) jump))) /\
         (W3.putObj (w.heap.size+1) (.loop (rec (if jump.isNone then .ready else .done) jump))).heap[w.heap.size+1]?=some (.loop (rec (if jump.isNone then .ready else .done) jump)) /\
         (W3.putObj (w.heap.size+1) (.loop (rec (if jump.isNone then .ready else .done) jump))).heap[w.heap.size]?=some (.deferred (some [])):=λjump W3 hk3=>by
      have hl3:=hk3.b.trans hl2;have:=run_endRound (P:=P) jump hl3;rw[hrec]at this ⊢;exact⟨this,World.putObj_heap_same (alt hl3),(World.putObj_heap_other (by omega)).trans (hk3.a.trans hk2)⟩
     rintro e a3 W3 hp
     cases e with
     | normal =>
      obtain⟨hk3,hkp3,hi3⟩:=hp;obtain⟨hr,hl4,hk4⟩:=fin none W3 hk3;exact⟨_,_,hr,.inl ⟨rfl,⟨hIb _ _ _ hi3,hl4,hk4⟩,hKt hkpa (hKt (hKt hw2 hkp3) (hKb _ _))⟩⟩
     | ret =>
      obtain⟨hk3,hkp3,hi3⟩:=hp;obtain⟨hr,hl4,hk4⟩:=fin (some .ret) W3 hk3;exact⟨_,_,hr,.inr ⟨rfl,⟨.ret,hIxb _ _ _ _ hi3,hl4,hk4⟩,hKt hkpa (hKt (hKt hw2 hkp3) (hKb _ _))⟩⟩
     | exit id =>
      obtain⟨hk3,hkp3,hi3⟩:=hp;obtain⟨hr,hl4,hk4⟩:=fin (some (.exit id)) W3 hk3;exact⟨_,_,hr,.inr ⟨rfl,⟨.exit id,hIxb _ _ _ _ hi3,hl4,hk4⟩,hKt hkpa (hKt (hKt hw2 hkp3) (hKb _ _))⟩⟩
     | goto t =>
      obtain⟨hk3,hkp3,hi3⟩:=hp;obtain⟨hr,hl4,hk4⟩:=fin (some (.goto t)) W3 hk3;exact⟨_,_,hr,.inr ⟨rfl,⟨.goto t,hIxb _ _ _ _ hi3,hl4,hk4⟩,hKt hkpa (hKt (hKt hw2 hkp3) (hKb _ _))⟩⟩
     | panic ch=>exact hp.elim
     | outgrown=>exact hp.elim
   . -- behind the iterator
     rintro e W2 ⟨⟨v,rfl⟩,(⟨xs,hS,hi,hl,hk⟩|⟨pre,hSp,c,hi,hl,hk⟩)⟩
     . exact⟨none,_,by have:=run_endLoop (P:=P) hl (by rw[hrec];simp);rw[hrec]at this;exact this,hdone xs _ hS (hIb _ _ _ hi) ((World.putObj_heap_other (by omega)).trans hk)⟩
     . exact⟨some c,_,by have:=run_endLoop (P:=P) hl (by rw[hrec];simp);rw[hrec]at this;exact this,hstop c pre _ hSp (hIxb _ _ _ _ hi) ((World.putObj_heap_other (by omega)).trans hk)⟩
end
end Go.Proofs.YtbkeomcicobohaaGreatDoor
namespace Go.Proofs
open Go.Shelf
def Tryz.lays120_ren:Go.Shelf.Ren:=⟨λ| 120=>202 | n=>n,λ| 5=>5 | 4=>4 | n=>n,λ| n=>n⟩
theorem Tryz.lays120:Go.Proofs.Lays.n120 Tryz.prog Tryz.lays120_ren:={
 mixed:=by kernel_rfl
 f120:=Tryz.func202.trans (congrArg some (by kernel_rfl))
 t4:=Tryz.underlying4
 a4:=Tryz.isAgg4
 z4:=Tryz.sizeOf4
 v4:=Tryz.zeroValue4
 t5:=Tryz.underlying5
 a5:=Tryz.isAgg5
 z5:=Tryz.sizeOf5
 v5:=Tryz.zeroValue5 }
theorem Tryz.utf8_RuneStart(b:Int)(w:World)(h0:0<=b)(h1:b<256) :
    Calls Tryz.prog 202 #[.int .u8 b] w λe w'=>e=.returned (.bool (Lib.runeStart b))/\w'=w:=Any.utf8_RuneStart Tryz.lays120 b w h0 h1
end Go.Proofs
namespace Go.Proofs.YtbkeomcicobohaaGreatDoor
open Go.Proofs.Tryz Go.RowKit Go.Maps
section
attribute [local go_sem] Oper.semAt_some
theorem JqW(s:ByteArray)(w:World):Cg 223 #[.string s] w λe w'=>e=.returned (.func (.func 261) #[] #[Pd w.heap.size 0])/\w'=w.alloc (Oc #[.string s] 9):=by
 go_enter func223,ntmps223
 go_wp2;go_ret;exact⟨rfl,rfl⟩
def Jha (sb:Nat) (w:World):Nat:=match w.cell? (Ad sb 0) with | some (.string s)=>s.size | _=>0
theorem JgZ{sb:Nat}{w:World}{s:ByteArray}(h:w.cell? (Ad sb 0)=some (.string s)):Jha sb w=s.size:=by unfold Jha;rw[h]
theorem JqV(rs:List Nat)(hr:∀r∈rs,Jbp r)(hz:(encs rs).length<1000000000)(Z:World->Prop)(sb:Nat)(W:World)(hsb:W.cell? (Ad sb 0)=some (.string (Jah rs)))(hfz:W.frozen? (Ad sb 0)=false) :
    Jlv prog 261 #[Pd sb 0] (λ_ (x:List Nat)=>#[.string (Jah x)]) (λA B=>(∃v,B=A.setCell (Ad sb 0) v)/\W.heap.size<=A.heap.size) (λA B=>A.heap.size<=B.heap.size/\B.heap[sb]?=A.heap[sb]?) Z
     (λxs=>xs.flatten=rs/\∀x∈xs,JbO x) (λpre=>(∃rest,rs=pre.flatten++rest)/\∀x∈pre,JbO x) W:=by
 intro l J Jx hZ hZx hJ hJx hR hj0;have hlt:=blt W _ hsb;refine callsIn_of_wp func261 rfl trivial ?_ rfl;simp only[ntmps261,List.size_toArray,List.length_cons,List.length_nil,Nat.reduceAdd,Nat.reduceSub,Array.replicate_succ,Array.replicate_zero,List.push_toArray,List.append_toArray,List.nil_append,List.cons_append]
 gi_wp2
 gi_loopw [3] (λp wr=>∃(pre:List (List Nat)) (rest:List Nat),rs=pre.flatten++rest/\(∀x∈pre,JbO x)/\wr.cell? (Ad sb 0)=some (.string (Jah rest))/\wr.frozen? (Ad sb 0)=false/\W.heap.size<=wr.heap.size/\J pre wr) (λp wr=>Jha sb wr)
 case atStart=>exact⟨[],rs,rfl,(λ_ h=>by cases h),hsb,hfz,nlr _,hj0⟩
 case round =>
  obtain⟨pre,rest,hrs,hok,hc,hf,hs,hjp⟩:=hrel
  by_cases hne:rest=[]
  . subst hne
    have e0:(Jah []).size=0:=rfl;have e1:Hid (pre.flatten=rs):=by show _=_;rw[hrs];simp
    clear hrs;generalize Jah []=S at *
    gi_wp2
    go_end0;exact⟨⟨_,rfl⟩,.inl ⟨pre,⟨e1.out,hok⟩,hjp⟩⟩
  . have hrr : ∀r∈rest,Jbp r:=λr h=>hr r (by rw[hrs];simp[h])
    obtain⟨f,f1,f4,fe,fl⟩:=Jty hrr hne;have hlen:(encs rest).length<=(encs rs).length:=by rw[hrs,Jb1,List.length_append];omega
    have hSl:(Jah rest).data.toList=encs rest:=rfl;have hcut:=λ(j:Nat) (h:JeQ rest j) (h0:0<j) (h32:j<=32)=>cut_at hrr h h0 h32;have hst:=λ(j:Nat) (b:UInt8) (h:(encs rest)[j]?=some b) (hb:Jfz b=true)=>Jeo hrr h hb;have hst2:=λ(j:Nat) (b:UInt8) (h:JeQ rest j) (hb:(encs rest)[j]?=some b)=>Jf5 hrr h hb;rw[←JaI]at fl hlen;have HCUT:=hdz hcut;have HST:=hdz hst;have HST2:=hdz hst2;have HFE:Hid (JeQ rest f):=fe;have HEND:Hid (JeQ rest (Jah rest).size):=by show JeQ _ _;rw[JaI];exact Jru rest
    have HSL:Hid ((Jah rest).data.toList=encs rest):=hSl;have HRS:Hid (rs=pre.flatten++rest):=hrs;obtain⟨n,hn⟩:∃n,n=(Jah rest).size:=⟨_,rfl⟩;have hn1:1<=n:=by omega
    have hn2:n<1000000000:=by omega
    have hpos:0<n:=hn1;clear hcut hst hst2 fe hSl hrs hr hrr;obtain⟨S,hS⟩:∃S,S=Jah rest:=⟨_,rfl⟩;rw[←hS]at hc hn fl HEND HSL HCUT;rw[←hn]at fl HEND HCUT;have HS:Hid (S=Jah rest):=hS;have HN:Hid (n=S.size):=hn;have hn':S.size=n:=hn.symm;clear hS hn hlen hz
    gi_wp2
    gi_loop [3] (λp=>∃j:Nat,p=I6 j/\f<=j/\j<=n/\j<=32) (λp=>(intOf p).toNat)
    case atStart=>exact⟨min n 32,by rw[show((min n 32:Nat):Int)=min (n:Int) 32 by omega],by omega,by omega,by omega⟩
    case round =>
     obtain⟨j,rfl,hj1,hj2,hj3⟩:=hrel
     by_cases hlt2:j<n
     . have hjS:j<S.size:=by rw[hn'];exact hlt2
       have hb? : (encs rest)[j]?=some S[j]:=by rw[←HSL.out,Array.getElem?_toList,Array.getElem?_eq_getElem (by simpa using hjS)];rfl
       have cR:=λwx=>utf8_RuneStart (S[j].toNat:Int) wx (by omega) (by have:=S[j].toNat_lt;omega)
       by_cases hb:Jfz S[j]=true
       . have hedge:=HST.out j _ hb? hb
         have hb':Lib.runeStart (S[j].toNat:Int)=true:=hb;rw[hb']at cR;clear hb hb' hb?;obtain⟨x,y,hxy,hx,hc1,hc2,hyl⟩:=HCUT.out j hedge (by omega) hj3;have hSp:(∃rest',rs=(pre++[x]).flatten++rest')/\∀z∈pre++[x],JbO z:=⟨⟨y,by rw[HRS.out,hxy];simp⟩,λz hz=>by rcases List.mem_append.1 hz with hz|hz;exact hok z hz;rw[List.mem_singleton]at hz;subst hz;exact hx⟩;have HY:Hid (rs=(pre++[x]).flatten++y):=by show _=_;rw[HRS.out,hxy];simp
         have HYL:Hid ((Jah y).size<n):=by
          show _<_;rw[JaI];have e1:=HN.out;rw[HS.out,JaI]at e1;omega
         obtain⟨fn,tmps,assign,body,hyy,hRd⟩:=hR pre x wr hjp hSp;have HSP:=hdz hSp;rw[←hc1]at hyy;clear hxy hx hSp hc1 hyl hedge
         gi_wp2_with (first | (refine⟨rfl,?_⟩;gi_at_call 202;refine(callsIn_wide.2 (cR _)).mono ?_;rintro e wx ⟨rfl,hwx⟩;obtain rfl:=hwx.symm) | (refine⟨trivial,?_⟩))
         first | refine hRd.mono ?_ | refine⟨rfl,hRd.mono ?_⟩
         rintro e A' (⟨rfl,hj',hk1,hk2⟩|⟨rfl,hjx',_⟩)
         . have hcA:A'.cell? (Ad sb 0)=some (.string S):=(World.cell?_of_block (w:=wr) (a:=(Ad sb 0)) hk2).trans hc
           have hfA:A'.frozen? (Ad sb 0)=false:=(World.frozen?_of_block (w:=wr) (a:=(Ad sb 0)) hk2).trans hf;have HC2:=hdz hc2;have hsA:=Nat.le_trans hs hk1;have HM:Hid (Jha sb wr=n):=(JgZ hc).trans hn';clear hc hf hk2 hyy hRd hjp hc2
           gi_wp2
           have hc9:(A'.setCell (Ad sb 0) (.string (S.extract j n))).cell? (Ad sb 0)=some (.string (Jah y)):=by
            rw[HC2.out];exact World.cell?_setCell_same' _ _ _ (by rw[hcA];rfl)
           go_roundw
           case rel=>exact⟨pre++[x],y,HY.out,HSP.out.2,hc9,(by rw[World.frozen?_setCell];exact hfA),(by simpa[World.setCell] using hsA),hJ _ _ _ hj' ⟨⟨_,rfl⟩,hsA⟩⟩
           case measure =>
            show Jha sb _<Jha sb _;rw[HM.out,JgZ hc9];exact HYL.out
         . gi_wp2
           refine bodyPost_ret (results_none rfl _ _ _) rfl ?_;exact⟨⟨_,rfl⟩,.inr ⟨pre++[x],HSP.out,hjx'⟩⟩
       . have hne2:j≠f:=λe=>hb (HST2.out j _ (e ▸ HFE.out) hb?)
         have hb':Lib.runeStart (S[j].toNat:Int)=false:=Bool.eq_false_iff.2 hb;rw[hb']at cR;clear hb hb' hb?
         gi_wp2_with (first | (refine⟨rfl,?_⟩;gi_at_call 202;refine(callsIn_wide.2 (cR _)).mono ?_;rintro e wx ⟨rfl,hwx⟩;obtain rfl:=hwx.symm) | (refine⟨trivial,?_⟩))
         go_round
         case rel=>exact⟨j - 1,by rw[show((j - 1:Nat):Int)=(j:Int) - 1 by omega],by omega,by omega,by omega⟩
         case measure=>simp[intOf];omega
     . have hjn:n=j:=by omega
       subst hjn;have hedge:JeQ rest n:=HEND.out;obtain⟨x,y,hxy,hx,hc1,hc2,hyl⟩:=HCUT.out n hedge (by omega) hj3;have hSp:(∃rest',rs=(pre++[x]).flatten++rest')/\∀z∈pre++[x],JbO z:=⟨⟨y,by rw[HRS.out,hxy];simp⟩,λz hz=>by rcases List.mem_append.1 hz with hz|hz;exact hok z hz;rw[List.mem_singleton]at hz;subst hz;exact hx⟩;have HY:Hid (rs=(pre++[x]).flatten++y):=by show _=_;rw[HRS.out,hxy];simp
       have HYL:Hid ((Jah y).size<n):=by
        show _<_;rw[JaI];have e1:=HN.out;rw[HS.out,JaI]at e1;omega
       obtain⟨fn,tmps,assign,body,hyy,hRd⟩:=hR pre x wr hjp hSp;have HSP:=hdz hSp;rw[←hc1]at hyy;clear hxy hx hSp hc1 hyl hedge
       gi_wp2_with (refine⟨trivial,?_⟩)
       first | refine hRd.mono ?_ | refine⟨rfl,hRd.mono ?_⟩
       rintro e A' (⟨rfl,hj',hk1,hk2⟩|⟨rfl,hjx',_⟩)
       . have hcA:A'.cell? (Ad sb 0)=some (.string S):=(World.cell?_of_block (w:=wr) (a:=(Ad sb 0)) hk2).trans hc
         have hfA:A'.frozen? (Ad sb 0)=false:=(World.frozen?_of_block (w:=wr) (a:=(Ad sb 0)) hk2).trans hf;have HC2:Hid (ByteArray.empty=Jah y):=by show _=_;rw[←hc2];simp
         have hsA:=Nat.le_trans hs hk1;have HM:Hid (Jha sb wr=n):=(JgZ hc).trans hn';clear hc hf hk2 hyy hRd hjp hc2
         gi_wp2
         have hc9:(A'.setCell (Ad sb 0) (.string ByteArray.empty)).cell? (Ad sb 0)=some (.string (Jah y)):=by
          rw[HC2.out];exact World.cell?_setCell_same' _ _ _ (by rw[hcA];rfl)
         go_roundw
         case rel=>exact⟨pre++[x],y,HY.out,HSP.out.2,hc9,(by rw[World.frozen?_setCell];exact hfA),(by simpa[World.setCell] using hsA),hJ _ _ _ hj' ⟨⟨_,rfl⟩,hsA⟩⟩
         case measure =>
          show Jha sb _<Jha sb _;rw[HM.out,JgZ hc9];exact HYL.out
       . gi_wp2
         refine bodyPost_ret (results_none rfl _ _ _) rfl ?_;exact⟨⟨_,rfl⟩,.inr ⟨pre++[x],HSP.out,hjx'⟩⟩
end
section
variable {P : Program} {ops : Array Oper} {md : Region.Mode} {m l0 n : Nat} {Q : Exit → Act → World → Prop}
theorem Joi{o:Oper}{a:Act}{K:Act->World->Prop}{r:Result Next}(hh:JaD P o a K r):o.uponIn (Fence.wide.inRound l0) n P a K Q r:=by
 cases r with
 | ok x w =>
  cases x<;>simp only[JaD]at hh<;>simp only[Oper.uponIn]
  case value=>exact hh
  case skip=>exact hh
  case enter=>exact⟨λh=>(by cases h),(CallsIn.inRound l0 (callsIn_wide.2 hh)).mono λe w ⟨v,e1,e2⟩=>by subst e1;exact e2⟩
 | halt x w=>simp only[JaD]at hh
theorem Jil(hnd:∀(i:Nat)(o:Oper),ops[i]?=some o->∀c,o.op≠.defer c):∀(fuel:Nat)(listed:Array Bool)(a:Act)(w:World),anyG P md ops m Q fuel listed a w->wpAnyIn (Fence.wide.inRound l0) n P md ops Q fuel listed a w
 | 0,_,_,w,h=>⟨h.1,h.2 w (brf _ _)⟩
 | fuel + 1,listed,a,w,h=>⟨λh0=>h.1 h0 w (brf _ _),λi hi=>by
     have h1:=h.2 i hi w (brf _ _);have h2:=Je2 (λa' w'' hh=>Jil hnd fuel _ a' w'' hh.2) h1;unfold opG at h2;unfold wpOpIn
     split
     . rename_i ho;simp only[ho]at h2;exact h2
     . rename_i o ho
       simp only[ho]at h2
       split
       . rename_i hw
         simp only[hw,if_true]at h2;unfold Oper.wpIn;refine⟨λ_ _=>trivial,?_⟩;rw[Fence.inRound_round,Oper.semAt_some _ _ _ (hnd i o ho)];exact Joi h2
       . rename_i hw;simp only[hw]at h2;exact⟨λ_ _=>trivial,h2⟩⟩
end
theorem Je7{P:Program}{Q:Exit->Act->World->Prop}{id l0 k:Nat}{a:Act}{w:World}{l:List Oper}(m n:Nat)(hm:P.follows .mixedOrders=true)(hn:l.length=n)(hnd:JlV l=true)
    (h:∀w',Bw w w'->anyG P .any l.toArray m Q n (Array.replicate n false) a w'):(Code.region id l.toArray true).wpIn (Fence.wide.inRound l0) k P Q a w :=
 wpIn_region_any hm (Jil (λi o hi=>JkA hnd i o (by simpa using hi)) _ _ _ _ (by subst hn;simpa using h { w with drawn:=w.drawn+1 } (Below.drew (brf _ w))))
section
attribute [local go_sem] Oper.semAt_some Jaj JaD
variable {t : T}{A W B : World}{b : Nat}
theorem JpM:∀{l:List (List Nat)},(∀c∈l,JbO c)->l.length<=l.flatten.length
 | [],_=>nlr _
 | c :: l,h=>by
  have h1:=(h c (List.mem_cons.2 (.inl rfl))).1;have h2:=JpM λx hx=>h x (List.mem_cons.2 (.inr hx));have:1<=c.length:=by cases c with | nil=>exact absurd rfl h1 | cons _ _=>simp
  rw[List.flatten_cons,List.length_append,List.length_cons];omega
theorem big_put{x:List Nat}(h:okT t)(hx:JbO x)(hz:C1 (t.runes++x)<=100000000):big (.node t x .nil):=by
 have e:(T.node t x .nil).runes=t.runes++x:=by simp[T.runes]
 have h1:=JpM (l:=t.chunks++[x]) λc hc=>(List.mem_append.1 hc).elim (h.2 c) λhc=>by rw[List.mem_singleton]at hc;rw[hc];exact hx
 have h3:=(JjQ (t.runes++x)).2;unfold C3 at h3;rw[List.flatten_append,←Jbk,List.length_append,List.length_append,List.length_singleton]at h1;simp only[List.flatten_cons,List.flatten_nil,List.append_nil]at h1;rw[List.length_append]at h3;refine⟨by rw[e];omega,?_⟩;simp only[T.size];rw[Jbz];omega
theorem JtK(q:Option Addr)(w:World):Cg 226 #[.pointer q,.pointer none] w λe w'=>e=.returned (.pointer q)/\w'=w:=by
 go_enter func226,ntmps226
 go_wp2;go_ret;exact⟨rfl,rfl⟩
def grows (w W:World) (L sb R:Nat) (rs:List Nat):Prop :=
 Bw w W/\(∃q t,W.cell? (Ad L 0)=some (.pointer q)/\W.frozen? (Ad L 0)=false/\Jau W q t/\okT t/\t.runes=rs)/\W.cell? (Ad sb 5)=none/\W.cell? (Ad R 5)=none/\W.cell? (Ad L 5)=none/\R<W.heap.size
theorem But.putObj(B:Nat)(A:World)(o:Obj):But B A (A.putObj B o):=⟨rfl,rfl,rfl,by simp,λk _ h=>World.putObj_heap_other h⟩
theorem But.frozen{B:Nat}{A A':World}(h:But B A A'){b o:Nat}(hl:b<A.heap.size)(hb:b≠B):A'.frozen? (Ad b o)=A.frozen? (Ad b o) :=
 World.frozen?_of_block (w:=A) (a:=(Ad b o)) (h.block b hl hb)
theorem But.cellEq{B:Nat}{A':World}(h:But B A A'){b o:Nat}(hl:b<A.heap.size)(hb:b≠B):A'.cell? (Ad b o)=A.cell? (Ad b o) :=
 World.cell?_of_block (w:=A) (a:=(Ad b o)) (h.block b hl hb)
theorem Jjo{k:Nat}{r:Loop}(h:W.heap[k]?=some (.loop r))(o:Nat):W.cell? (Ad k o)=none:=by unfold World.cell?;simp[h]
theorem JeX(h:B.heap[b]?=A.heap[b]?)(o:Nat):B.cell? (Ad b o)=A.cell? (Ad b o):=World.cell?_of_block (w:=A) (a:=(Ad b o)) h
theorem Jfv(h:B.heap[b]?=A.heap[b]?)(o:Nat):B.frozen? (Ad b o)=A.frozen? (Ad b o):=World.frozen?_of_block (w:=A) (a:=(Ad b o)) h
theorem Jts{w w5 w6:World}{q:Option Addr}{v:Value}{rs:List Nat}(hW:Bw w W)(hs:w.heap.size+6<=W.heap.size)(k1:W.cell? (Ad w.heap.size 0)=some v)(k2:W.frozen? (Ad w.heap.size 0)=false)
    (k6:W.cell? (Ad (w.heap.size+3) 5)=none) (k7:W.cell? (Ad (w.heap.size+5) 5)=none) (k8:W.cell? (Ad w.heap.size 5)=none) (h5:Bw W w5) (ht:Jau w5 q t) (ho:okT t) (hr:t.runes=rs)
    (h6:Below w5.heap.size (w5.setCell (Ad w.heap.size 0) (.pointer q)) w6) :
    Same2 (w.heap.size+4) W w6/\(W.heap.size<=w6.heap.size/\w6.heap[w.heap.size+3]?=W.heap[w.heap.size+3]?)/\grows w w6 w.heap.size (w.heap.size+3) (w.heap.size+5) rs:=by
 have hB:But w.heap.size w5 (w5.setCell (Ad w.heap.size 0) (.pointer q)):=But.setCell (But.refl _ w5) (p:=(Ad w.heap.size 0)) rfl _;have hsz:(w5.setCell (Ad w.heap.size 0) (.pointer q)).heap.size=w5.heap.size:=by simp[World.setCell]
 have s5:=h5.size;have s6:=h6.size;have blk:∀k,k≠w.heap.size->k<W.heap.size->w6.heap[k]?=W.heap[k]?:=λk h1 h2=>(h6.block k (by omega)).trans ((hB.block k (by omega) h1).trans (h5.block k h2));have c1:w5.cell? (Ad w.heap.size 0)=some v:=(World.cell?_of_block (w:=W) (a:=(Ad w.heap.size 0)) (h5.block w.heap.size (by omega))).trans k1;have c5:w5.cell? (Ad w.heap.size 5)=none:=(World.cell?_of_block (w:=W) (a:=(Ad w.heap.size 5)) (h5.block w.heap.size (by omega))).trans k8;refine⟨⟨blk _ (by omega) (by omega),blk _ (by omega) (by omega)⟩,⟨by omega,blk _ (by omega) (by omega)⟩,?_,⟨q,t,?_,?_,Jab (by rw[hsz];exact h6) (JcC hB c5 ht),ho,hr⟩,?_,?_,?_,by omega⟩
 . exact hW.trans ((h5.mono (by omega)).trans ((hB.below (by omega)).trans (h6.mono (by omega))))
 . exact(JeX (h6.block w.heap.size (by omega)) 0).trans (World.cell?_setCell_same' _ _ _ (by rw[c1];rfl))
 . exact(Jfv (h6.block w.heap.size (by omega)) 0).trans ((World.frozen?_setCell _ _ _ _).trans ((Jfv (h5.block w.heap.size (by omega)) 0).trans k2))
 . exact(JeX (blk (w.heap.size+3) (by omega) (by omega)) 5).trans k6
 . exact(JeX (blk (w.heap.size+5) (by omega) (by omega)) 5).trans k7
 . exact(JeX (h6.block w.heap.size (by omega)) 5).trans ((World.cell?_setCell_other (w:=w5) (Ad w.heap.size 0) (Ad w.heap.size 5) _ (by simp)).trans c5)
theorem Jpr(rs:List Nat)(hr:∀r∈rs,Jbp r)(hz:(encs rs).length<=100000000)(w:World)(hT:Lib.Utf8Tabs 3 4 w) :
    Cg 176 #[.pointer none,.string (Jah rs),.pointer none] w λe w'=>∃q t,e=.returned (.pointer q)/\Jau w' q t/\okT t/\t.runes=rs/\Bw w w':=by
 have hsz:(Jah rs).size<=100000000:=by rw[JaI];exact hz
 have hcat:({ data:=#[] }:ByteArray)++Jah rs ++ { data:=#[] }=Jah rs:=by apply ByteArray.ext;simp[ByteArray.data_append]
 have cP:=λwx=>JqW (Jah rs) wx;have HZ:=hdz hz;have HR:=hdz hr;clear hz hr;have hB0:Bw w w:=brf _ w;refine(callsIn_wide (n:=3)).1 ?_;refine callsIn_of_wp_marks func176 rfl trivial ?_ rfl;simp only[ntmps176,List.size_toArray,List.length_cons,List.length_nil,Nat.reduceAdd,Nat.reduceSub,Array.replicate_succ,Array.replicate_zero,List.push_toArray,List.append_toArray,List.nil_append,List.cons_append]
 gi_wp2_with (refine⟨trivial,?_⟩;gi_at_call 223;refine(callsIn_wide.2 (cP _)).mono ?_;rintro e w13 ⟨rfl,rfl⟩)
 obtain⟨W4,hW4⟩:∃W4,W4=(((w.alloc (Oc #[Value.pointer none] 216)).alloc (Oc #[Value.string { data:=#[] },Value.int IntKind.i64 0,Value.int IntKind.i64 0,Value.int IntKind.i64 0,Value.int IntKind.i64 0] 275)).alloc (Oc #[Value.string { data:=#[] },Value.int IntKind.i64 0,Value.int IntKind.i64 0,Value.int IntKind.i64 0,Value.int IntKind.i64 0] 275)).alloc (Oc #[.string (Jah rs)] 9):=⟨_,rfl⟩;have hb4:Bw w W4:=by rw[hW4];exact((((brf _ w).alloc (nlr _) _).alloc (by simp) _).alloc (by simp;omega) _).alloc (by simp;omega) _
 have hs4:W4.heap.size=w.heap.size+4:=by rw[hW4];simp
 have cl:W4.cell? (Ad w.heap.size 0)=some (.pointer none):=by rw[hW4];simp[go_sem]
 have fl:W4.frozen? (Ad w.heap.size 0)=false:=by rw[hW4];simp[go_sem]
 have cl5:W4.cell? (Ad w.heap.size 5)=none:=by rw[hW4];simp[go_sem]
 have cs:W4.cell? (Ad (w.heap.size+3) 0)=some (.string (Jah rs)):=by rw[hW4];simp[go_sem]
 have fs:W4.frozen? (Ad (w.heap.size+3) 0)=false:=by rw[hW4];simp[go_sem]
 have cs5:W4.cell? (Ad (w.heap.size+3) 5)=none:=by rw[hW4];simp[go_sem]
 rw[←hW4];clear hW4 hcat cP
 refine Jey (gf:=261) (lb:=#[.pointer (some (Ad (w.heap.size+3) 0))]) rfl (enters_of func261 (by kernel_rfl) rfl) (encs:=λ_ (x:List Nat)=>#[.string (Jah x)]) (λ_ _=>rfl)
  (It:=λA B=>(∃v,B=A.setCell (Ad (w.heap.size+3) 0) v)/\w.heap.size+6<=A.heap.size) (Kp:=λA B=>A.heap.size<=B.heap.size/\B.heap[w.heap.size+3]?=A.heap[w.heap.size+3]?) (Z:=λ_=>True) (S:=λxs=>xs.flatten=rs/\∀x∈xs,JbO x) (Sp:=λpre=>(∃rest,rs=pre.flatten++rest)/\∀x∈pre,JbO x)
  ?seq ?its (λh k=>⟨Nat.le_trans h.1 k.1,k.2.trans h.2⟩) ?hkb
  (λpre W=>grows w W w.heap.size (w.heap.size+3) (w.heap.size+5) pre.flatten) (λ_ _ _=>False) (λ_ _ _=>trivial) (λ_ _ _ h=>h.elim) ?ii ?ib (λ_ _ _ _ h _=>h) (λ_ _ _ _ h=>h) ?h0 ?round ?done (λ_ _ _ _ h=>h.elim)
 case seq =>
  intro W hs1 hb1;rw[hs4]at hs1 hb1;have:=JqV rs HR.out (by have:=HZ.out;omega) (λ_=>True) (w.heap.size+3) W ((zC hb1 (w.heap.size+3) 0 (by show w.heap.size+3<_;omega)).trans cs) ((hb1.frozen (p:=(Ad (w.heap.size+3) 0)) (by show w.heap.size+3<_;omega)).trans fs);rw[hs1]at this;exact this
 case its =>
  rintro A B ⟨⟨v,rfl⟩,h⟩;rw[hs4];exact(Same2.refl _ A).setCell (by show w.heap.size+3≠_;omega) (by show w.heap.size+3≠_;omega) v
 case hkb =>
  intro A r;rw[hs4];exact⟨by simp,World.putObj_heap_other (by omega)⟩
 case ii =>
  rintro pre A B ⟨hb,⟨q,t,h1,h2,h3,h4,h5⟩,h6,h7,h8,h9⟩ ⟨⟨v,rfl⟩,hA⟩;have hB:But (w.heap.size+3) A (A.setCell (Ad (w.heap.size+3) 0) v):=But.setCell (But.refl _ A) (p:=(Ad (w.heap.size+3) 0)) rfl v;exact⟨hb.setCell (by show w.heap.size<=w.heap.size+3;omega) v,⟨q,t,hB.cell (by omega) h1,(hB.frozen (by omega) (by omega)).trans h2,JcC hB h6 h3,h4,h5⟩,((World.cell?_setCell_other (w:=A) (Ad (w.heap.size+3) 0) (Ad (w.heap.size+3) 5) v (by simp)).trans h6),(hB.cellEq (by omega) (by omega)).trans h7,(hB.cellEq (by omega) (by omega)).trans h8,by simpa[World.setCell] using h9⟩
 case ib =>
  rintro pre A r ⟨hb,⟨q,t,h1,h2,h3,h4,h5⟩,h6,h7,h8,h9⟩;rw[hs4];have hB:=But.putObj (w.heap.size+5) A (.loop r);exact⟨hb.trans (hB.below (by omega) |>.mono (by omega)),⟨q,t,hB.cell (by omega) h1,(hB.frozen (by omega) (by omega)).trans h2,JcC hB h7 h3,h4,h5⟩,(hB.cellEq (by omega) (by omega)).trans h6,Jjo (World.putObj_heap_same h9) 5,(hB.cellEq (by omega) (by omega)).trans h8,by simpa using h9⟩
 case h0 =>
  rintro W hs hb ⟨r,hr⟩;rw[hs4]at hs hb hr;exact⟨hb4.trans (hb.mono (by omega)),⟨none,.nil,(zC hb w.heap.size 0 (by show w.heap.size<_;omega)).trans cl,(hb.frozen (p:=(Ad w.heap.size 0)) (by show w.heap.size<_;omega)).trans fl,rfl,okT_nil,rfl⟩,(zC hb (w.heap.size+3) 5 (by show w.heap.size+3<_;omega)).trans cs5,Jjo hr 5,(zC hb w.heap.size 5 (by show w.heap.size<_;omega)).trans cl5,by omega⟩
 case round =>
  rintro l pre x W hI hlW hSp;rw[hs4]at hlW ⊢;obtain⟨hb,⟨q,t,h1,h2,h3,h4,h5⟩,h6,h7,h8,h9⟩:=hI;obtain⟨⟨rest,hrs⟩,hxo⟩:=hSp;have hx:JbO x:=hxo x (by simp);have HX:Hid (JbO x):=hx;have HL:Hid (C1 (pre.flatten++x)<=100000000):=by
   show _<=_;have:=HZ.out;rw[hrs,Jb1,List.length_append]at this;rw[Jcb];simp only[List.flatten_append,List.flatten_cons,List.flatten_nil,List.append_nil]at this;omega
  have HBG:Hid (big (.node t x .nil)):=big_put h4 hx (by rw[h5];exact HL.out);clear hrs hxo hx
  gi_wp2
  refine⟨Same2.refl _ W,⟨nlr _,trivial⟩,?_⟩;intro w2 hp ⟨r,hr⟩;have hw2:Bw w w2:=hb.trans ((hp.below (nlr _)).mono (by omega));have hs2:w.heap.size+6<=w2.heap.size:=by rw[hp.size];exact hlW
  have k1:=(hp.cell (b:=w.heap.size) (o:=0) (by omega)).trans h1;have k2:=(hp.frozen (b:=w.heap.size) (o:=0) (by omega)).trans h2;have k6:=(hp.cell (b:=w.heap.size+3) (o:=5) (by omega)).trans h6;have k8:=(hp.cell (b:=w.heap.size) (o:=5) (by omega)).trans h8;have k7:=Jjo hr 5;have k3:Jau w2 q t:=JcC (B:=w.heap.size+5) ⟨hp.os,hp.tape,hp.output,Nat.le_of_eq hp.size.symm,λk _ hk=>hp.block k hk⟩ h7 h3;have HT:Hid (Jau w2 q t):=k3;have HO:Hid (okT t):=h4;have HR5:Hid (t.runes=pre.flatten):=h5;have cK:=λwx (hbx:Bw w wx)=>JjB x HX.out.2.2 (by have:=HL.out;rw[Jbc]at this;have:=Jcb pre.flatten;have:=Jcb x;omega) wx (Go.Proofs.Utf8Tabs_below hT hbx);clear h1 h2 h3 h4 h5 h6 h7 h8 h9 k3 hb hp hr
  gi_wp2
  refine Je7 4 5 (by kernel_rfl) rfl (by kernel_rfl) ?_;intro w3 hb3;obtain⟨G,hG⟩:=Jas w3;have hw3:Bw w w3:=hw2.trans (hb3.mono (by omega));have k1G:∀x,(G x).cell? (Ad w.heap.size 0)=some (.pointer q):=hG.cell ((zC hb3 w.heap.size 0 (by show w.heap.size<_;omega)).trans k1);have cKG:=λx=>(cK (G x) (hw3.trans ((hG.below x).mono hw3.size)));have k1':=k1;clear k1
  (refine Jaa hG (i:=0) rfl (by kernel_rfl) (by kernel_rfl) (by kernel_rfl) (λK hK=>?_);go_simp;refine hK _ ?_;clear hK K)
  (refine Jaa hG (i:=1) rfl (by kernel_rfl) (by kernel_rfl) (by kernel_rfl) (λK hK=>?_);go_simp;refine hK _ ?_;clear hK K)
  (refine Jaa hG (i:=2) rfl (by kernel_rfl) (by kernel_rfl) (by kernel_rfl) (λK hK=>?_);go_simp;apply Exists.intro;refine⟨λ_=>?_,hK _ ?_⟩;exact cKG _;clear hK K)
  clear k1G cKG hG;have HTT:Hid (Lib.Utf8Tabs 3 4 w):=hT;clear hT;refine Jbf (i:=3) rfl (by kernel_rfl) ?_;intro w4 hb4 K hK;have hb24:Bw w2 w4:=hb3.trans (hb4.mono hb3.size);have ck:=add_any q t x w4 (Go.Proofs.Utf8Tabs_below HTT.out (hw2.trans (hb24.mono (by omega)))) (Jab hb24 HT.out) HBG.out HO.out HX.out
  go_simp
  refine ck.mono ?_;rintro e w5 ⟨q5,t5,rfl,ht5,ha5,hb5⟩;refine⟨_,rfl,hK _ _ hb5 ?_⟩;clear hK K ck;have hb25:Bw w2 w5:=hb24.trans (hb5.mono hb24.size);have HT5:=hdz ht5;have HA5:=hdz ha5;clear ht5 ha5 hb3 hb4 hb5 hb24 hw3;refine JdF (i:=4) rfl (by kernel_rfl) (by kernel_rfl) ?_;intro w6 hb6 K hK;have c6:w6.cell? (Ad w.heap.size 0)=some (.pointer q):=(zC hb6 w.heap.size 0 (by have:=hb25.size;show w.heap.size<_;omega)).trans ((zC hb25 w.heap.size 0 (by show w.heap.size<_;omega)).trans k1');have f6:w6.frozen? (Ad w.heap.size 0)=false:=(hb6.frozen (p:=(Ad w.heap.size 0)) (by have:=hb25.size;show w.heap.size<_;omega)).trans ((hb25.frozen (p:=(Ad w.heap.size 0)) (by show w.heap.size<_;omega)).trans k2)
  go_simp
  refine hK _ _ ?_;clear hK K;refine Jbi (by kernel_rfl) ?_;intro w7 hb7;have HG:Hid _:=Jts hw2 hs2 k1' k2 k6 k7 k8 (hb25.trans (hb6.mono hb25.size)) (Jab hb6 HT5.out) HA5.out.2.1 (HA5.out.1.trans (by rw[HR5.out])) (by have:=hb7;rwa[show(w6.setCell (Ad w.heap.size 0) (.pointer q5)).heap.size=w6.heap.size by simp[World.setCell]]at this);clear c6 f6 hb7 k1' k2 k6 k7 k8
  gi_wp2
  refine⟨HG.out.1,HG.out.2.1,?_⟩;have:=HG.out.2.2;show grows w w7 w.heap.size (w.heap.size+3) (w.heap.size+5) (pre++[x]).flatten;rw[show(pre++[x]).flatten=pre.flatten++x by simp];exact this
 case done =>
  rintro xs W ⟨hxs,hxo⟩ hI hDef;rw[hs4]at hDef ⊢;obtain⟨hb,⟨q,t,h1,h2,h3,h4,h5⟩,h6,h7,h8,h9⟩:=hI;have H3:Hid (Jau W q t):=h3;have H4:Hid (okT t):=h4;have H5:Hid (t.runes=rs):=h5.trans hxs;have c86:=JtK q;clear h3 h4 h5 hxs hxo
  gi_wp2_with (refine⟨trivial,?_⟩;gi_at_call 226;refine(callsIn_wide.2 (c86 _)).mono ?_;rintro e wx ⟨rfl,hwx⟩;obtain rfl:=hwx.symm)
  have hdn:W.cell? (Ad (w.heap.size+4) 5)=none:=by unfold World.cell?;simp[hDef]
  refine⟨by simp,.inl ⟨_,_,rfl,run_takeDeferred hDef,?_⟩⟩;refine⟨.pointer q,by simp[results,results176,go_sem],q,t,rfl,JcC (But.putObj _ _ _) hdn H3.out,H4.out,H5.out,hb.trans (((But.putObj (w.heap.size+4) W _).below (by omega)).mono (by omega))⟩
end
section
attribute [local go_sem] Oper.semAt_some
variable {w : World}
def Jc5 (w:World) (b:Nat) (rs:List Nat):Prop :=
 ∃q t,w.cell? (Ad b 0)=some (.pointer q)/\w.frozen? (Ad b 0)=false/\w.cell? (Ad b 5)=none/\Jau w q t/\okT t/\t.runes=rs
theorem Jb4{w':World}{b:Nat}{rs:List Nat}(h:Jc5 w b rs)(hb:Bw w w'):Jc5 w' b rs:=by
 obtain⟨q,t,h1,h2,h3,h4,h5⟩:=h;have hlt:=blt w _ h1;have e:=hb.block b hlt;exact⟨q,t,(JeX e 0).trans h1,(Jfv e 0).trans h2,(JeX e 5).trans h3,Jab hb h4,h5⟩
theorem JaK(w:World)(n1 n2 n3 n4:Int)(t:TypeId):counted (w.alloc (Oc #[I6 n1,I6 n2,I6 n3,I6 n4] t)) w.heap.size n1 n2 n3 n4:=by
 refine⟨⟨?_,?_,?_,?_⟩,?_,?_,?_,?_⟩<;>simp[go_sem]
theorem Jbn{lo:Nat}{W:World}{B:Nat}(hb:Below lo w W)(hlo:lo<=B)(u0 u1 u2 u3:Value) :
    Below lo w ((((W.setCell (Ad B 0) u0).setCell (Ad B 1) u1).setCell (Ad B 2) u2).setCell (Ad B 3) u3) :=
 (((hb.setCell (p:=(Ad B 0)) hlo _).setCell (p:=(Ad B 1)) hlo _).setCell (p:=(Ad B 2)) hlo _).setCell (p:=(Ad B 3)) hlo _
theorem Jc1(b:Nat)(q:Option Addr)(w:World)(h:w.cell? (Ad b 0)=some (.pointer q)) :
    Cg 171 #[Pd b 0] w λe w'=>e=.returned (.pointer q)/\w'=w:=by
 go_enter func171,ntmps171
 go_wp2;go_ret;exact⟨rfl,rfl⟩
theorem JjX(b:Nat)(rs:List Nat)(w:World)(h:Jc5 w b rs) :
    Cg 177 #[Pd b 0] w (Rt w (.agg #[I6 (C1 rs),I6 (C2 rs),I6 (C3 rs),I6 (C4 rs)])):=by
 obtain⟨q,t,h1,_,_,h4,_,rfl⟩:=h;have hb0:∀o,Bw w (w.alloc o):=λo=>(brf _ w).alloc (nlr _) o;have cT:=λo=>Jc1 b q (w.alloc o) (Jac (hb0 o) h1);have cC:=λo=>Jc2 q t (w.alloc o) (Jab (hb0 o) h4);generalize C1 t.runes=x1 at *;generalize C2 t.runes=x2 at *;generalize C3 t.runes=x3 at *;generalize C4 t.runes=x4 at *;clear h4
 go_enter func177,ntmps177
 go_wp2_with (first
  | (go_at_call 171;refine(cT _).mono ?_;rintro e w1 ⟨rfl,hw1⟩;obtain rfl:=hw1.symm)
  | (go_at_call 172;refine(cC _).mono ?_;rintro e w2 ⟨rfl,hb2⟩;have hm:=Jad (JaK w 0 0 0 0 78) hb2;have HM:=hdz hm;obtain⟨⟨m0,m1,m2,m3⟩,n0,n1,n2,n3⟩:=hm))
 have hms:=JaN (m1:=x1) (m2:=x2) (m3:=x3) (m4:=x4) HM.out;obtain⟨⟨s0,s1,s2,s3⟩,_⟩:=hms;have hbw:=(hb0 (Oc #[I6 0,I6 0,I6 0,I6 0] 78)).trans (hb2.mono (hb0 (Oc #[I6 0,I6 0,I6 0,I6 0] 78)).size);refine bodyPost_ret (v:=.agg #[I6 x1,I6 x2,I6 x3,I6 x4]) (by simp[results,results177,go_sem,s0,s1,s2,s3]) rfl ⟨rfl,Jbn hbw (nlr _) _ _ _ _⟩
theorem JuQ(rs:List Nat)(hr:∀r∈rs,Jbp r)(hz:C1 rs<=8000)(w:World)(hT:Lib.Utf8Tabs 3 4 w) :
    Cg 120 #[.string (Jah rs)] w λe w'=>∃b,e=.returned (.tuple #[Pd b 0,.nilIface])/\w.heap.size<=b/\Jc5 w' b rs/\Bw w w':=by
 have hsz:(Jah rs).size<=8000:=by rw[JaI];rw[Jcb]at hz;omega
 have c1:=JiA rs hr (by omega) w hT;have c2:=λwx (hb:Bw w wx)=>Jpr rs hr (by rw[Jcb]at hz;omega) wx (Go.Proofs.Utf8Tabs_below hT hb);clear hr hz hT;generalize C1 rs=x1 at *;generalize C2 rs=x2 at *;generalize C3 rs=x3 at *;generalize C4 rs=x4 at *
 go_enter func120,ntmps120
 go_wp2_with (first
  | (go_at_call 47;refine c1.mono ?_;rintro e w1 ⟨rfl,hb1⟩;have hB1:Bw w (w1.alloc (Oc #[I6 x1,I6 x2,I6 x3,I6 x4] 78)):=hb1.alloc hb1.size _)
  | (go_at_call 176;refine(c2 _ hB1).mono ?_;rintro e w2 ⟨q,t,rfl,ht,ho,hrn,hb2⟩;have HT:Hid (Jau w2 q t/\okT t/\t.runes=rs):=⟨ht,ho,hrn⟩;clear ht ho hrn))
 have hb2W:Bw w2 (w2.alloc (Oc #[.pointer q] 223)):=(brf _ w2).alloc (nlr _) _;have hB2:=hB1.trans (hb2.mono hB1.size);have hR:Jc5 (w2.alloc (Oc #[.pointer q] 223)) w2.heap.size rs:=⟨q,t,by simp[go_sem],by simp[go_sem],by simp[go_sem],Jab hb2W HT.out.1,HT.out.2⟩;refine bodyPost_ret (v:=.tuple #[Pd w2.heap.size 0,.nilIface]) (by simp[results,results120,go_sem]) rfl ⟨_,rfl,hB2.size,hR,hB2.trans (hb2W.mono hB2.size)⟩
end
section
attribute [local go_sem] Oper.semAt_some
variable {a b : List Nat}{k : Int}
theorem JgF(h:C1 (a++b)<=k):C1 a<=k:=by rw[Jbc]at h;have:=JdN b;omega
theorem Jqs(h:C1 (a++b)<=k):C1 b<=k:=by rw[Jbc]at h;have:=JdN a;omega
end
structure TakesS (W:World) (F:Nat) (cap:Array Value) (l:List (Nat×Nat)) (I Ix:List (Nat×Nat)->World->Prop):Prop where
 enters:∀args w,(callFunc F args).run prog w=.ok (.enter F args) w
 stays:∀done w w',I done w->Bw w w'->I done w'
 step:∀done p rest,l=done++p :: rest->∀w,I done w->Bw W w ->
  Cg F (#[.int .i32 p.1,I6 p.2]++cap) w λe w'=>Bw W w'/\((e=.returned (.bool true)/\I (done++[p]) w')\/(e=.returned (.bool false)/\Ix (done++[p]) w'))
theorem Jrv(s:ByteArray)(hs:s.size<=maxLen)(F:Nat)(cap:Array Value)(W:World)(hT:Lib.Utf8Tabs 3 4 W)(I Ix:List (Nat×Nat)->World->Prop)
    (H:TakesS W F cap (scan s.data.toList).1 I Ix) (w:World) (hw:Bw W w) (h0:I [] w) :
    Cg 85 #[.string s,.func (.func F) #[] cap] w λe w'=>(∃v,e=.returned v)/\Bw W w' /\
     (I (scan s.data.toList).1 w'\/(∃pre rest,(scan s.data.toList).1=pre++rest/\Ix pre w')):=by
 unfold maxLen at hs;have hent:=H.enters
 go_enter func85,ntmps85
 go_wp2
 go_loopw [5,6,7,12] (λat_ _ _ _ wr=>∃(k:Nat) (done:List (Nat×Nat)),k<=s.size/\at_=.int .i64 k/\(scan s.data.toList).1=done++(scan (s.data.toList.drop k)).1/\I done wr/\Bw W wr) (λat_ _ _ _ _=>s.size - (intOf at_).toNat)
 case atStart=>exact⟨0,[],Nat.zero_le _,rfl,by rw[List.drop_zero];rfl,h0,hw⟩
 case round =>
  obtain⟨k,done,hk,rfl,hd1,hI,hwr⟩:=hrel;have hTr:=Go.Proofs.Utf8Tabs_below hT hwr
  by_cases hlt:k<s.size
  . have hne:s.data.toList.drop k≠[]:=by
      intro e;have:=congrArg List.length e;rw[List.length_drop,List.length_nil,←Lib.size_eq]at this;omega
    have hdec:Lib.decodeGo (s.extract k s.size)=dec (s.data.toList.drop k):=by
     unfold Lib.decodeGo;rw[if_neg (by rw[ByteArray.size_extract];omega),JeS]
    have hge:=JgD (s.data.toList.drop k);have hle:=JnD hne;have hle4:=JtA (s.data.toList.drop k);have cD:=utf8_DecodeRuneInString (s.extract k s.size) wr hTr;rw[hdec]at cD
    by_cases hb:badB (dec (s.data.toList.drop k))=true
    . have hs2:=Jiy hne hb
      have hfin:Hid (I (scan s.data.toList).1 wr):=by show I _ wr;rw[hd1,hs2,List.append_nil];exact hI
      have hb':(dec (s.data.toList.drop k)).1=65533/\(dec (s.data.toList.drop k)).2=1:=Jht hb;rw[hb'.1,hb'.2]at cD;clear hdec hge hle hle4 hb hb' hd1 hs2 hne hI
      go_wp2_with (first | (go_at_call 94;refine cD.mono ?_;rintro e w1 ⟨rfl,hb1⟩) | (go_at_call 136;refine(Jm5 _ _).mono ?_;rintro e w2 ⟨⟨v,rfl,hv⟩,hb2⟩))
      go_ret;have hb12:Bw wr w2:=hb1.trans (hb2.mono hb1.size);exact⟨⟨_,rfl⟩,hwr.trans (hb12.mono hwr.size),.inl (H.stays _ _ _ hfin hb12)⟩
    . have hb:badB (dec (s.data.toList.drop k))=false:=Bool.eq_false_iff.2 hb
      have hs2:=Jf9 hne hb;have hl:(scan s.data.toList).1=done++dec (s.data.toList.drop k) :: (scan ((s.data.toList.drop k).drop (dec (s.data.toList.drop k)).2)).1:=by rw[hd1,hs2]
      rw[List.drop_drop]at hl;rw[List.length_drop,←Lib.size_eq]at hle;have hstep:=H.step done _ _ hl;obtain⟨R,hR⟩:∃R,R=(dec (s.data.toList.drop k)).1:=⟨_,rfl⟩;obtain⟨K,hK⟩:∃K,K=(dec (s.data.toList.drop k)).2:=⟨_,rfl⟩;have hp:dec (s.data.toList.drop k)=(R,K):=by rw[hR,hK]
      rw[hp]at cD hb hge hle hle4 hl hstep;have hnext:Hid ((scan s.data.toList).1=done++[(R,K)]++(scan (s.data.toList.drop (k+K))).1):=by
       show _=_;rw[hl,List.append_assoc];rfl
      simp only[]at hge hle;clear hdec hd1 hs2 hne hle4 hl hR hK hp;have hbF:=Jlf hb;clear hb
      rcases hbF with hr|⟨hr,hr2⟩
      . have hr0:((R:Int)==65533)=false:=by
          rw[beq_eq_false_iff_ne];intro e;exact hr (by omega)
        clear hr
        go_wp2_with (first | (go_at_call 94;refine cD.mono ?_;rintro e w1 ⟨rfl,hb1⟩) | (go_at_fn F;refine(hstep w1 (H.stays _ _ _ hI hb1) (hwr.trans (hb1.mono hwr.size))).mono ?_;rintro e w2 ⟨hb2,⟨rfl,hI2⟩|⟨rfl,hI2⟩⟩))
        . go_roundw
          case rel=>exact⟨k+K,done++[(R,K)],by omega,by go_num,hnext,hI2,hb2⟩
          case measure=>simp[intOf];omega
        . go_ret
          exact⟨⟨_,rfl⟩,hb2,.inr ⟨_,_,hnext,hI2⟩⟩
      . have hr0:((K:Int)==1)=false:=by
          rw[beq_eq_false_iff_ne];intro e;exact hr2 (by omega)
        subst hr;clear hr2
        go_wp2_with (first | (go_at_call 94;refine cD.mono ?_;rintro e w1 ⟨rfl,hb1⟩) | (go_at_fn F;refine(hstep w1 (H.stays _ _ _ hI hb1) (hwr.trans (hb1.mono hwr.size))).mono ?_;rintro e w2 ⟨hb2,⟨rfl,hI2⟩|⟨rfl,hI2⟩⟩))
        . go_roundw
          case rel=>exact⟨k+K,done++[(65533,K)],by omega,by go_num,hnext,hI2,hb2⟩
          case measure=>simp[intOf];omega
        . go_ret
          exact⟨⟨_,rfl⟩,hb2,.inr ⟨_,_,hnext,hI2⟩⟩
  . have hend:s.data.toList.drop k=[]:=List.drop_eq_nil_of_le (by rw[←Lib.size_eq];omega)
    rw[hend,JgP]at hd1;rw[List.append_nil]at hd1;have hfin:Hid (I (scan s.data.toList).1 wr):=by show I _ wr;rw[hd1];exact hI
    clear hd1 hend hTr;go_wp2;go_ret;exact⟨⟨_,rfl⟩,hwr,.inl hfin⟩
end Go.Proofs.YtbkeomcicobohaaGreatDoor
