/-
  A part of the texts that the proof uses.
-/
import Derived.Test.YtedgnlgjmnccgabGreatDoorPartB
import Derived.Test.YtedgnlgjmnccgabGreatDoorPartF
import Derived.Test.YtedgnlgjmnccgabGreatDoorPartH
import Derived.Test.YtedgnlgjmnccgabGreatDoorPartG
import Derived.Test.YtedgnlgjmnccgabGreatDoorPartA
set_option maxRecDepth 100000
set_option maxHeartbeats 40000000
set_option linter.unusedVariables false
namespace Go.Proofs.YtedgnlgjmnccgabGreatDoor
section
open Go.RowKit
attribute [local go_sem] Oper.semAt_some Ja7 Jbe
theorem upTo_is{u n:Int}(hu:Jaz u){rs c1 c2:List Nat}(h:rs=c1++c2)(h1:n<=by_ u c1)(h2:∀i,i<c1.length->by_ u (rs.take i)<n):upTo rs u n=c1:=by
 have hle:n<=by_ u rs:=by rw[h,Jbp];have:=Jdl u c2;omega
 have ht:rs.take c1.length=c1:=by rw[h,List.take_left' rfl]
 obtain⟨k,k1,k2,k3,k4⟩:=Jd2 rs u n hle
 have hk:k=c1.length:=by
  rcases Nat.lt_trichotomy k c1.length with hlt|e|hlt
  . have:=h2 k hlt;omega
  . exact e
  . have:=k4 c1.length hlt
    rw[ht]at this;omega
 rw[k2,hk,ht]
def headI (W4:World) (B:Nat) (u n:Int) (rs:List Nat) (pre:List (Nat×Nat)) (W:World):Prop :=
 Below (B+2) W4 W/\∃c1 c2,rs=c1++c2/\pre=wide c1/\counted W (B+2) (C1 c1) (C2 c1) (C3 c1) (C4 c1)/\∀i,i<c1.length->by_ u (rs.take i)<n
def headX (W4:World) (B:Nat) (u n:Int) (rs:List Nat) (W:World):Prop :=
 Below (B+2) W4 W/\B+6<=W.heap.size/\∃c1 c2,rs=c1++c2/\n<=by_ u c1/\counted W (B+2) (C1 c1) (C2 c1) (C3 c1) (C4 c1)/\∀i,i<c1.length->by_ u (rs.take i)<n
theorem Jsv(rs:List Nat)(hr:∀r∈rs,Jas r)(hz:C1 rs<=10000000)(u n:Int)(hu:Jaz u)(hn:n<=by_ u rs)(w:World)(hT:Lib.Utf8Tabs 2 3 w) :
    Calls Tryz.prog 180 #[.string (Ja1 rs),.int .i64 u,.int .i64 n] w fun e w'=>e=.returned (.tuple #[.int .i64 (by_ 1 (upTo rs u n)),.bool (JaM rs u n)])/\Below w.heap.size w w':=by
 have HZ:=hdz hz;have HT:=hdz hT;have HSC:Hid ((scan (Ja1 rs).data.toList).1=wide rs):=by show _=_;rw[Jek,JbT rs hr]
 have hsz:(Ja1 rs).size<=100000000:=by rw[Jej];rw[Jcf]at hz;omega
 have FIN:Hid (∀c1 c2,rs=c1++c2->(n<=by_ u c1\/c2=[])->(∀i,i<c1.length->by_ u (rs.take i)<n)->by_ 1 (upTo rs u n)=C1 c1/\JaM rs u n=decide (by_ u c1=n)):=fun c1 c2 h1 h2 h3=>by
  have h2:n<=by_ u c1:=h2.elim id fun e=>by subst e;rw[List.append_nil]at h1;rw[←h1];exact hn
  have:=upTo_is hu h1 h2 h3;unfold JaM;rw[this];exact⟨by unfold by_;rw[if_pos rfl],rfl⟩
 clear hr hz hT hn hu;refine(callsIn_wide (n:=3)).1 ?_;refine callsIn_of_wp_marks Tryz.func180 rfl trivial ?_ rfl;simp only[Tryz.ntmps180,List.size_toArray,List.length_cons,List.length_nil,Nat.reduceAdd,Nat.reduceSub,Array.replicate_succ,Array.replicate_zero,List.push_toArray,List.append_toArray,List.nil_append,List.cons_append]
 gi_wp2_with (refine⟨trivial,?_⟩;gi_at_call 220;refine(callsIn_wide.2 (Jte (Ja1 rs) _)).mono ?_;rintro e w13 ⟨rfl,rfl⟩)
 obtain⟨W4,hW4⟩:∃W4,W4=(((w.alloc (Obj.cells #[Value.int IntKind.i64 u] 3)).alloc (Obj.cells #[Value.int IntKind.i64 n] 3)).alloc (Obj.cells #[Value.int IntKind.i64 0,Value.int IntKind.i64 0,Value.int IntKind.i64 0,Value.int IntKind.i64 0] 25)).alloc (.cells #[.string (Ja1 rs)] 9):=⟨_,rfl⟩;have hb4:Below w.heap.size w W4:=by rw[hW4];exact((((brf _ w).alloc (nlr _) _).alloc (by simp) _).alloc (by simp;omega) _).alloc (by simp;omega) _
 have hs4:W4.heap.size=w.heap.size+4:=by rw[hW4];simp
 have u4:W4.cell? ⟨w.heap.size,0,none⟩=some (.int .i64 u):=by rw[hW4];simp[go_sem]
 have n4:W4.cell? ⟨w.heap.size+1,0,none⟩=some (.int .i64 n):=by rw[hW4];simp[go_sem]
 have r4:counted W4 (w.heap.size+2) 0 0 0 0:=by rw[hW4];refine⟨⟨?_,?_,?_,?_⟩,?_,?_,?_,?_⟩<;>simp[go_sem]
 have s4:W4.cell? ⟨w.heap.size+3,0,none⟩=some (.string (Ja1 rs)):=by rw[hW4];simp[go_sem]
 rw[←hW4];clear hW4
 refine JgY (gf:=262) (lb:=#[.pointer (some ⟨w.heap.size+3,0,none⟩)]) rfl (enters_of Tryz.func262 (by kernel_rfl) rfl) (encs:=JfP) (fun _ _=>rfl)
  (It:=Below (w.heap.size+6)) (Kp:=KeepUp (w.heap.size+6)) (Z:=Below w.heap.size w) (S:=fun xs=>xs=(scan (Ja1 rs).data.toList).1) (Sp:=fun pre=>∃rest,(scan (Ja1 rs).data.toList).1=pre++rest)
  ?seq ?its (fun h k=>h.trans k) (fun A o=>KeepUp.putObj A (.loop o) (by rw[hs4];omega))
  (headI W4 w.heap.size u n rs)
  (fun k pre W=>k=.exit 0/\headX W4 w.heap.size u n rs W) ?iz ?ixz ?ii ?ib ?ix ?ixb ?h0 ?round ?done ?stop
 case seq =>
  intro W hs1 hb1;rw[hs4]at hs1 hb1;have:=JrE (Ja1 rs) (by omega) w HT.out (w.heap.size+3) W ((hb1.cell (p:=⟨w.heap.size+3,0,none⟩) (by show w.heap.size+3<_;omega)).trans s4);rw[hs1]at this;exact this
 case its=>exact fun A B h=>Same2.of_below h (by rw[hs4];omega)
 case iz=>exact fun pre A h=>hb4.trans (h.1.mono (by omega))
 case ixz=>exact fun k pre A h=>hb4.trans (h.2.1.mono (by omega))
 case ii =>
  rintro pre A B ⟨h1,c1,c2,h2,h3,h4,h5⟩ hb;exact⟨h1.trans (hb.mono (by omega)),c1,c2,h2,h3,Jb1 h4 hb (by omega),h5⟩
 case ib =>
  rintro pre A o ⟨h1,c1,c2,h2,h3,h4,h5⟩;have hb:Below (w.heap.size+5) A (A.putObj (w.heap.size+5) (.loop o)):=(Put1.putObj _ A (.loop o)).below (nlr _);rw[hs4];exact⟨h1.trans (hb.mono (by omega)),c1,c2,h2,h3,Jb1 h4 hb (by omega),h5⟩
 case ix =>
  rintro k pre A B ⟨h0,h1,hs,c1,c2,h2,h3,h4,h5⟩ hb;exact⟨h0,h1.trans (hb.mono (by omega)),Nat.le_trans hs hb.size,c1,c2,h2,h3,Jb1 h4 hb (by omega),h5⟩
 case ixb =>
  rintro k pre A o ⟨h0,h1,hs,c1,c2,h2,h3,h4,h5⟩;have hb:Below (w.heap.size+5) A (A.putObj (w.heap.size+5) (.loop o)):=(Put1.putObj _ A (.loop o)).below (nlr _);rw[hs4];exact⟨h0,h1.trans (hb.mono (by omega)),Nat.le_trans hs hb.size,c1,c2,h2,h3,Jb1 h4 hb (by omega),h5⟩
 case h0=>exact fun W hs hb _=>by rw[hs4]at hb;exact⟨hb.mono (by omega),[],rs,rfl,rfl,Jb1 r4 hb (by omega),fun i hi=>absurd hi (Nat.not_lt_zero _)⟩
 case round =>
  rintro l pre x W ⟨hI,c1,c2,hcc,rfl,hcnt,hlow⟩ hlW ⟨rest,hsp⟩;rw[hs4]at hlW ⊢;rw[HSC.out,List.append_assoc,hcc,JdG]at hsp;have hsp2:=List.append_cancel_left hsp;obtain ⟨r,d2,rfl,rfl⟩:∃r d2,c2=r :: d2/\x=(r,(enc r).length):=by
   cases c2 with
   | nil=>simp[wide]at hsp2
   | cons r d2=>simp only[wide,List.map_cons,List.singleton_append,List.cons.injEq]at hsp2;exact⟨r,d2,rfl,hsp2.1.symm⟩
  have HW:Hid (wide c1++[(r,(enc r).length)]=wide (c1++[r])):=by show _=_;rw[JdG];rfl
  have HCC:Hid (rs=(c1++[r])++d2):=by show _=_;rw[hcc];simp
  have HCC0:=hdz hcc;have HLOW:=hdz hlow;have HTC:Hid (rs.take c1.length=c1):=by show _=_;rw[hcc,List.take_left' rfl]
  have hzc:C1 (c1++[r])<=100000000:=by have:=HZ.out;rw[HCC.out]at this;have:=C1_left this;omega
  have HP1:Hid (∀wx,Calls Tryz.prog 137 #[cntV c1,cntV [r]] wx fun e w'=>e=.returned (cntV (c1++[r]))/\Below wx.heap.size wx w'):=fun wx=>JrY c1 [r] (by omega) wx;have HI1:Hid (∀wx,Calls Tryz.prog 23 #[cntV c1,.int .i64 u] wx fun e w'=>e=.returned (.int .i64 (by_ u c1))/\Below wx.heap.size wx w'):=fun wx=>Jmk u c1 wx;rw[JkA];clear hsp hsp2 hcc hlow hzc;unfold cntV at HP1 HI1 ⊢;have HCN:=hdz hcnt;clear hcnt;generalize hy1:C1 c1=y1 at *;generalize hy2:C2 c1=y2 at *;generalize hy3:C3 c1=y3 at *;generalize hy4:C4 c1=y4 at *;have HY:Hid (C1 c1=y1/\C2 c1=y2/\C3 c1=y3/\C4 c1=y4):=⟨hy1,hy2,hy3,hy4⟩;clear hy1 hy2 hy3 hy4;generalize C1 [r]=u1 at *;generalize C2 [r]=u2 at *;generalize C3 [r]=u3 at *;generalize C4 [r]=u4' at *
  gi_wp2
  refine⟨(((Same2.refl _ W).alloc (by omega) _).alloc (by rw[wsa];omega) _),((KeepUp.refl _ W).alloc _).alloc _,?_⟩;intro w20 hp _;have hww:Below W.heap.size W ((W.alloc (.cells #[.int .i64 y1,.int .i64 y2,.int .i64 y3,.int .i64 y4] 25)).alloc (.cells #[.int .i64 u1,.int .i64 u2,.int .i64 u3,.int .i64 u4'] 25)):=((brf _ W).alloc (nlr _) _).alloc (by rw[wsa];exact Nat.le_succ _) _;have hs20:w20.heap.size=W.heap.size+2:=by rw[hp.size,World.size_alloc,World.size_alloc]
  have hWW:Below (w.heap.size+2) W4 w20:=hI.trans ((hww.mono (by omega)).trans (hp.below (by omega)));have hW5:Below (w.heap.size+5) W w20:=(hww.mono (by omega)).trans (hp.below (by omega));have hKU:KeepUp (w.heap.size+6) W w20:=⟨by omega,fun k h1 h2=>(hp.block k (by omega)).trans (hww.block k h2)⟩;have u20:=(hWW.cell (p:=⟨w.heap.size,0,none⟩) (by show w.heap.size<_;omega)).trans u4;have n20:=(hWW.cell (p:=⟨w.heap.size+1,0,none⟩) (by show w.heap.size+1<_;omega)).trans n4;have r20:=Jb1 HCN.out hW5 (by omega);have a20:counted w20 W.heap.size y1 y2 y3 y4:=by
   have h:counted ((W.alloc (.cells #[.int .i64 y1,.int .i64 y2,.int .i64 y3,.int .i64 y4] 25)).alloc (.cells #[.int .i64 u1,.int .i64 u2,.int .i64 u3,.int .i64 u4'] 25)) W.heap.size y1 y2 y3 y4:=JaB (Jc6 W y1 y2 y3 y4 _) ((brf _ _).alloc (nlr _) _);obtain⟨⟨h0,h1,h2,h3⟩,k0,k1,k2,k3⟩:=h;exact⟨⟨(hp.cell (by omega)).trans h0,(hp.cell (by omega)).trans h1,(hp.cell (by omega)).trans h2,(hp.cell (by omega)).trans h3⟩,(hp.frozen (by omega)).trans k0,(hp.frozen (by omega)).trans k1,(hp.frozen (by omega)).trans k2,(hp.frozen (by omega)).trans k3⟩
  have o20:counted w20 (W.heap.size+1) u1 u2 u3 u4':=by
   have h:counted ((W.alloc (.cells #[.int .i64 y1,.int .i64 y2,.int .i64 y3,.int .i64 y4] 25)).alloc (.cells #[.int .i64 u1,.int .i64 u2,.int .i64 u3,.int .i64 u4'] 25)) (W.heap.size+1) u1 u2 u3 u4':=by have:=Jc6 (W.alloc (.cells #[.int .i64 y1,.int .i64 y2,.int .i64 y3,.int .i64 y4] 25)) u1 u2 u3 u4' 25;rwa[World.size_alloc]at this
   obtain⟨⟨h0,h1,h2,h3⟩,k0,k1,k2,k3⟩:=h;exact⟨⟨(hp.cell (by omega)).trans h0,(hp.cell (by omega)).trans h1,(hp.cell (by omega)).trans h2,(hp.cell (by omega)).trans h3⟩,(hp.frozen (by omega)).trans k0,(hp.frozen (by omega)).trans k1,(hp.frozen (by omega)).trans k2,(hp.frozen (by omega)).trans k3⟩
  have hSize:w.heap.size+8<=w20.heap.size:=by omega
  clear hp hww u4 n4 r4 s4
  gi_wp2
  refine Ji5 5 5 (by kernel_rfl) rfl (by kernel_rfl) ?_;intro w21 hb21;obtain⟨G,hG⟩:=JeM w21;have HR20:=hdz r20;have r21:=JaB r20 hb21;have u21:=(hb21.cell (p:=⟨w.heap.size,0,none⟩) (by show w.heap.size<_;omega)).trans u20;have n21:=(hb21.cell (p:=⟨w.heap.size+1,0,none⟩) (by show w.heap.size+1<_;omega)).trans n20;obtain⟨⟨f0,f1,f2,f3⟩,_⟩:=r21;have gf0:=hG.cell f0;have gf1:=hG.cell f1;have gf2:=hG.cell f2;have gf3:=hG.cell f3;have gu:=hG.cell u21;have gn:=hG.cell n21;clear f0 f1 f2 f3 u21 n21;generalize hYY:by_ u c1=YY at *;have HYY:=hdz hYY;clear hYY
  by_cases hge:n<=YY
  all_goals
   (refine JaU hG (i:=0) rfl (by kernel_rfl) (by kernel_rfl) (by kernel_rfl) (fun K hK=>?_);go_simp;refine hK _ ?_;clear hK K)
   (refine JaU hG (i:=1) rfl (by kernel_rfl) (by kernel_rfl) (by kernel_rfl) (fun K hK=>?_);go_simp;refine hK _ ?_;clear hK K)
   (refine JaU hG (i:=2) rfl (by kernel_rfl) (by kernel_rfl) (by kernel_rfl) (fun K hK=>?_);go_simp;apply Exists.intro;refine⟨fun _=>?_,hK _ ?_⟩;exact HI1.out _;clear hK K)
   (refine JaU hG (i:=3) rfl (by kernel_rfl) (by kernel_rfl) (by kernel_rfl) (fun K hK=>?_);go_simp;refine hK _ ?_;clear hK K)
   (refine JaU hG (i:=4) rfl (by kernel_rfl) (by kernel_rfl) (by kernel_rfl) (fun K hK=>?_);go_simp;refine hK _ ?_;clear hK K)
   clear gf0 gf1 gf2 gf3 gu gn hG;refine Jk0 (by kernel_rfl) ?_;intro w24 hb24;have hbF:=hb21.trans (hb24.mono hb21.size);have HBF:=hdz hbF;have HWW:=hdz hWW;have HSZ:=hdz hSize;have HA24:=hdz (JaB a20 hbF);have HO24:=hdz (JaB o20 hbF);have HR24:Hid (counted w24 (w.heap.size+2) y1 y2 y3 y4):=JaB HR20.out hbF;clear hb21 hb24 hbF r20 a20 o20 u20 n20
  . gi_wp2
    have hy:=HY.out;exact⟨Same2.of_below HBF.out (by have:=HSZ.out;omega),KeepUp.of_below HBF.out,rfl,HWW.out.trans (HBF.out.mono (by have:=HSZ.out;omega)),by have:=HBF.out.size;have:=HSZ.out;omega,c1,r :: d2,HCC0.out,by rw[HYY.out];exact hge,by rw[hy.1,hy.2.1,hy.2.2.1,hy.2.2.2];exact HR24.out,HLOW.out⟩
  . obtain ⟨⟨a0,a1,a2,a3⟩,_⟩:=HA24.out
    obtain⟨⟨o0,o1,o2,o3⟩,_⟩:=HO24.out;obtain⟨⟨z0,z1,z2,z3⟩,t0,t1,t2,t3⟩:=HR24.out;have HGE:Hid (YY<n):=by show YY<n;omega
    clear hge
    have hnl:∀i,i<(c1++[r]).length->by_ u (rs.take i)<n:=fun i hi=>by
     rw[List.length_append,List.length_singleton]at hi
     rcases Nat.lt_or_ge i c1.length with hlt|hge'
     . exact HLOW.out i hlt
     . obtain rfl:i=c1.length:=by omega
       rw[HTC.out,HYY.out];exact HGE.out
    have HNL:=hdz hnl;clear hnl
    gi_wp2
    refine⟨trivial,rfl,?_⟩;refine(CallsIn.inRound l (callsIn_wide.2 (HP1.out _))).mono ?_;rintro e w25 ⟨rfl,hb25⟩;have hr25:=JaB HR24.out hb25;have HR25:=hdz hr25;have hbZ:=HBF.out.trans (hb25.mono HBF.out.size);have HBZ:=hdz hbZ;clear a0 a1 a2 a3 o0 o1 o2 o3 z0 z1 z2 z3 t0 t1 t2 t3 hb25 hbZ;obtain⟨⟨z0,z1,z2,z3⟩,t0,t1,t2,t3⟩:=hr25;generalize hX1:C1 (c1++[r])=X1 at *;generalize hX2:C2 (c1++[r])=X2 at *;generalize hX3:C3 (c1++[r])=X3 at *;generalize hX4:C4 (c1++[r])=X4 at *;have HX:Hid (C1 (c1++[r])=X1/\C2 (c1++[r])=X2/\C3 (c1++[r])=X3/\C4 (c1++[r])=X4):=⟨hX1,hX2,hX3,hX4⟩;clear hX1 hX2 hX3 hX4
    gi_wp2
    have hx:=HX.out;have hkk:KeepUp (w.heap.size+6) w20 w25:=KeepUp.of_below HBZ.out;have hszz:=HSZ.out
    refine ⟨((((Same2.of_below HBZ.out (by omega)).setCell (by show w.heap.size+2≠_;omega) (by show w.heap.size+2≠_;omega) _).setCell (by show w.heap.size+2≠_;omega) (by show w.heap.size+2≠_;omega) _).setCell (by show w.heap.size+2≠_;omega) (by show w.heap.size+2≠_;omega) _).setCell (by show w.heap.size+2≠_;omega) (by show w.heap.size+2≠_;omega) _,
     (((hkk.setCell (by show w.heap.size+2<_;omega) _).setCell (by show w.heap.size+2<_;omega) _).setCell (by show w.heap.size+2<_;omega) _).setCell (by show w.heap.size+2<_;omega) _,?_,c1++[r],d2,HCC.out,HW.out,?_,HNL.out⟩
    . exact JgR (HWW.out.trans (HBZ.out.mono (by omega))) (by omega) _ _ _ _
    . rw[hx.1,hx.2.1,hx.2.2.1,hx.2.2.2]
      exact JdT HR25.out
 case done =>
  rintro xs W rfl ⟨hI,c1,c2,hcc,hx,hcnt,hlow⟩ hDef;rw[hs4]at hDef ⊢;have hc2:c2=[]:=by
   rw[HSC.out]at hx;have:=congrArg List.length hx;rw[hcc]at this;simp only[wide,List.length_map,List.length_append]at this;exact List.length_eq_zero_iff.1 (by omega)
  have hsW:w.heap.size+5<=W.heap.size:=by
   rcases Nat.lt_or_ge (w.heap.size+4) W.heap.size with h|h
   . omega
   . rw[Array.getElem?_eq_none h]at hDef;cases hDef
  have HFN:Hid _:=FIN.out c1 c2 hcc (.inr hc2) hlow;clear hx hc2;have hu5:=(hI.cell (p:=⟨w.heap.size,0,none⟩) (by show w.heap.size<_;omega)).trans u4;have hn5:=(hI.cell (p:=⟨w.heap.size+1,0,none⟩) (by show w.heap.size+1<_;omega)).trans n4;have hs5:=hI.size;rw[hs4]at hs5;have hbW:Below w.heap.size w W:=hb4.trans (hI.mono (by omega));have HI1:Hid (∀wx,Calls Tryz.prog 23 #[cntV c1,.int .i64 u] wx fun e w'=>e=.returned (.int .i64 (by_ u c1))/\Below wx.heap.size wx w'):=fun wx=>Jmk u c1 wx;unfold cntV at HI1;clear hI u4 n4 r4 s4 hcc hlow;generalize C1 c1=y1 at *;generalize C2 c1=y2 at *;generalize C3 c1=y3 at *;generalize C4 c1=y4 at *
  gi_wp2
  refine wpIn_wide.2 ?_;refine JfO 9 9 (by kernel_rfl) rfl ?_;intro w41 hb41;obtain⟨G,hG⟩:=JeM w41;obtain⟨⟨f0,f1,f2,f3⟩,_⟩:=JaB hcnt hb41;have u41:=(hb41.cell (p:=⟨w.heap.size,0,none⟩) (by show w.heap.size<_;omega)).trans hu5;have n41:=(hb41.cell (p:=⟨w.heap.size+1,0,none⟩) (by show w.heap.size+1<_;omega)).trans hn5;have gf0:=hG.cell f0;have gf1:=hG.cell f1;have gf2:=hG.cell f2;have gf3:=hG.cell f3;have gu:=hG.cell u41;have gn:=hG.cell n41;clear f0 f1 f2 f3 u41 n41 hu5 hn5
  (refine JaU hG (i:=0) rfl (by kernel_rfl) (by kernel_rfl) (by kernel_rfl) (fun K hK=>?_);go_simp;refine hK _ ?_;clear hK K)
  (refine JaU hG (i:=1) rfl (by kernel_rfl) (by kernel_rfl) (by kernel_rfl) (fun K hK=>?_);go_simp;refine hK _ ?_;clear hK K)
  (refine JaU hG (i:=2) rfl (by kernel_rfl) (by kernel_rfl) (by kernel_rfl) (fun K hK=>?_);go_simp;refine hK _ ?_;clear hK K)
  (refine JaU hG (i:=3) rfl (by kernel_rfl) (by kernel_rfl) (by kernel_rfl) (fun K hK=>?_);go_simp;refine hK _ ?_;clear hK K)
  (refine JaU hG (i:=4) rfl (by kernel_rfl) (by kernel_rfl) (by kernel_rfl) (fun K hK=>?_);go_simp;apply Exists.intro;refine⟨fun _=>?_,hK _ ?_⟩;exact HI1.out _;clear hK K)
  (refine JaU hG (i:=5) rfl (by kernel_rfl) (by kernel_rfl) (by kernel_rfl) (fun K hK=>?_);go_simp;refine hK _ ?_;clear hK K)
  (refine JaU hG (i:=6) rfl (by kernel_rfl) (by kernel_rfl) (by kernel_rfl) (fun K hK=>?_);go_simp;refine hK _ ?_;clear hK K)
  (refine JaU hG (i:=7) rfl (by kernel_rfl) (by kernel_rfl) (by kernel_rfl) (fun K hK=>?_);go_simp;refine hK _ ?_;clear hK K)
  (refine JaU hG (i:=8) rfl (by kernel_rfl) (by kernel_rfl) (by kernel_rfl) (fun K hK=>?_);go_simp;refine hK _ ?_;clear hK K)
  clear gf0 gf1 gf2 gf3 gu gn hG;refine Jk0 (by kernel_rfl) ?_;intro w44 hb44;have hbF:=hb41.trans (hb44.mono hb41.size)
  gi_wp2
  have hDef':w44.heap[w.heap.size+4]?=some (.deferred (some [])):=(hbF.block _ (by omega)).trans hDef;have hP:=Put1.putObj (w.heap.size+4) w44 (.deferred none);have hFin:Below w.heap.size w (w44.putObj (w.heap.size+4) (.deferred none)):=(hbW.trans (hbF.mono hbW.size)).trans (hP.below (by omega));refine⟨by simp,.inl ⟨_,_,rfl,run_takeDeferred hDef',?_⟩⟩;refine⟨.tuple #[.int .i64 y1,.bool (by_ u c1==n)],by simp[results,Tryz.results180,go_sem],?_,hFin⟩;have hf:=HFN.out;rw[hf.1,hf.2];rfl
 case stop =>
  rintro k pre W hsp ⟨rfl,hI,hsW,c1,c2,hcc,hge,hcnt,hlow⟩ hDef;rw[hs4]at hDef ⊢;have HFN:Hid _:=FIN.out c1 c2 hcc (.inl hge) hlow;clear hge;have hu5:=(hI.cell (p:=⟨w.heap.size,0,none⟩) (by show w.heap.size<_;omega)).trans u4;have hn5:=(hI.cell (p:=⟨w.heap.size+1,0,none⟩) (by show w.heap.size+1<_;omega)).trans n4;have hs5:=hI.size;rw[hs4]at hs5;have hbW:Below w.heap.size w W:=hb4.trans (hI.mono (by omega));have HI1:Hid (∀wx,Calls Tryz.prog 23 #[cntV c1,.int .i64 u] wx fun e w'=>e=.returned (.int .i64 (by_ u c1))/\Below wx.heap.size wx w'):=fun wx=>Jmk u c1 wx;unfold cntV at HI1;clear hI u4 n4 r4 s4 hcc hlow;generalize C1 c1=y1 at *;generalize C2 c1=y2 at *;generalize C3 c1=y3 at *;generalize C4 c1=y4 at *
  gi_wp2
  refine wpIn_wide.2 ?_;refine JfO 9 9 (by kernel_rfl) rfl ?_;intro w41 hb41;obtain⟨G,hG⟩:=JeM w41;obtain⟨⟨f0,f1,f2,f3⟩,_⟩:=JaB hcnt hb41;have u41:=(hb41.cell (p:=⟨w.heap.size,0,none⟩) (by show w.heap.size<_;omega)).trans hu5;have n41:=(hb41.cell (p:=⟨w.heap.size+1,0,none⟩) (by show w.heap.size+1<_;omega)).trans hn5;have gf0:=hG.cell f0;have gf1:=hG.cell f1;have gf2:=hG.cell f2;have gf3:=hG.cell f3;have gu:=hG.cell u41;have gn:=hG.cell n41;clear f0 f1 f2 f3 u41 n41 hu5 hn5
  (refine JaU hG (i:=0) rfl (by kernel_rfl) (by kernel_rfl) (by kernel_rfl) (fun K hK=>?_);go_simp;refine hK _ ?_;clear hK K)
  (refine JaU hG (i:=1) rfl (by kernel_rfl) (by kernel_rfl) (by kernel_rfl) (fun K hK=>?_);go_simp;refine hK _ ?_;clear hK K)
  (refine JaU hG (i:=2) rfl (by kernel_rfl) (by kernel_rfl) (by kernel_rfl) (fun K hK=>?_);go_simp;refine hK _ ?_;clear hK K)
  (refine JaU hG (i:=3) rfl (by kernel_rfl) (by kernel_rfl) (by kernel_rfl) (fun K hK=>?_);go_simp;refine hK _ ?_;clear hK K)
  (refine JaU hG (i:=4) rfl (by kernel_rfl) (by kernel_rfl) (by kernel_rfl) (fun K hK=>?_);go_simp;apply Exists.intro;refine⟨fun _=>?_,hK _ ?_⟩;exact HI1.out _;clear hK K)
  (refine JaU hG (i:=5) rfl (by kernel_rfl) (by kernel_rfl) (by kernel_rfl) (fun K hK=>?_);go_simp;refine hK _ ?_;clear hK K)
  (refine JaU hG (i:=6) rfl (by kernel_rfl) (by kernel_rfl) (by kernel_rfl) (fun K hK=>?_);go_simp;refine hK _ ?_;clear hK K)
  (refine JaU hG (i:=7) rfl (by kernel_rfl) (by kernel_rfl) (by kernel_rfl) (fun K hK=>?_);go_simp;refine hK _ ?_;clear hK K)
  (refine JaU hG (i:=8) rfl (by kernel_rfl) (by kernel_rfl) (by kernel_rfl) (fun K hK=>?_);go_simp;refine hK _ ?_;clear hK K)
  clear gf0 gf1 gf2 gf3 gu gn hG;refine Jk0 (by kernel_rfl) ?_;intro w44 hb44;have hbF:=hb41.trans (hb44.mono hb41.size)
  gi_wp2
  have hDef':w44.heap[w.heap.size+4]?=some (.deferred (some [])):=(hbF.block _ (by omega)).trans hDef;have hP:=Put1.putObj (w.heap.size+4) w44 (.deferred none);have hFin:Below w.heap.size w (w44.putObj (w.heap.size+4) (.deferred none)):=(hbW.trans (hbF.mono hbW.size)).trans (hP.below (by omega));refine⟨by simp,.inl ⟨_,_,rfl,run_takeDeferred hDef',?_⟩⟩;refine⟨.tuple #[.int .i64 y1,.bool (by_ u c1==n)],by simp[results,Tryz.results180,go_sem],?_,hFin⟩;have hf:=HFN.out;rw[hf.1,hf.2];rfl
end
section
open Go.RowKit Go.Maps
attribute [local go_sem] Oper.semAt_some
theorem Jq3(q:Pt)(w:World):Calls Tryz.prog 117 #[.agg #[.int .i64 q.keep,.int .i64 q.drop,.string ⟨q.put.toArray⟩]] w fun e w'=>e=.returned (.bool (JdO q))/\Below w.heap.size w w':=by
 unfold JdO;obtain⟨K,D,U⟩:=q;have hz:(ByteArray.mk U.toArray).size=U.length:=by simp[ByteArray.size]
 by_cases h:200<U.length
 . have h1:(200:Int)<(U.length:Int):=by omega
   rw[decide_eq_true h]
   go_enter Tryz.func117,Tryz.ntmps117
   go_wp2;go_ret;exact⟨rfl,(brf _ _).alloc (nlr _) _⟩
 . have h1:¬(200:Int)<(U.length:Int):=by omega
   rw[decide_eq_false h]
   go_enter Tryz.func117,Tryz.ntmps117
   go_wp2;go_ret;exact⟨rfl,(brf _ _).alloc (nlr _) _⟩
theorem Jsu(v:Value)(ps:List Pt)(w:World)(hr:opAt w v ps)(hl:ps.length<=1000) :
    Calls Tryz.prog 179 #[v,.func (.func 117) #[] #[]] w fun e w'=>∃i:Int,e=.returned (.int .i64 i)/\(decide (0<=i)=ps.any JdO)/\Below w.heap.size w w':=by
 obtain⟨p,c,rfl,r1,r2,r3⟩:=hr;have R3:=hdz r3;obtain⟨n,hn⟩:∃n,ps.length=n:=⟨_,rfl⟩;have HN:=hdz hn;rw[hn]at r1 hl ⊢;clear r3 hn;unfold maxLen at r2;have hni:(n:Int)<=1000:=by omega
 go_enter Tryz.func179,Tryz.ntmps179
 go_wp2
 go_loopw [8] (fun i wr=>∃k:Nat,i=.int .i64 k/\k<=n/\(ps.take k).any JdO=false/\Below w.heap.size w wr) (fun i _=>n - (intOf i).toNat)
 case atStart=>exact⟨0,rfl,Nat.zero_le _,rfl,brf _ _⟩
 case round =>
  obtain⟨k,rfl,hk,hno,hbw⟩:=hrel;have HNO:=hdz hno;have HBW:=hdz hbw;clear hno hbw
  by_cases hlt:k<n
  . have hkr:k<ps.length:=by rw[HN.out];exact hlt
    have hne:ps≠[]:=by intro e;rw[e]at hkr;exact absurd hkr (Nat.not_lt_zero _)
    obtain⟨b,o,rfl,hb,hcell⟩:=R3.out hne;obtain⟨c0,c1,c2⟩:=hcell k ps[k] (lgg hkr);have g0:=(HBW.out.cell (p:=⟨b,o+k*3,none⟩) hb).trans c0;have g1:=(HBW.out.cell (p:=⟨b,o+k*3+1,none⟩) hb).trans c1;have g2:=(HBW.out.cell (p:=⟨b,o+k*3+2,none⟩) hb).trans c2;have hki:(k:Int)<(n:Int):=by omega
    have hts:ps.take (k+1)=ps.take k++[ps[k]]:=List.take_succ_eq_append_getElem hkr;have hin:ps[k]∈ps:=List.getElem_mem hkr;have CM:Hid (∀wx,Calls Tryz.prog 117 #[.agg #[.int .i64 ps[k].keep,.int .i64 ps[k].drop,.string ⟨ps[k].put.toArray⟩]] wx fun e w'=>e=.returned (.bool (JdO ps[k]))/\Below wx.heap.size wx w'):=fun wx=>Jq3 _ wx
    cases hm:JdO ps[k] with
    | true =>
     have HAN:Hid (ps.any JdO=true):=List.any_eq_true.2 ⟨_,hin,hm⟩;rw[hm]at CM;clear hcell c0 c1 c2 hne hts hin hm;generalize ps[k]=q at *;obtain⟨K,D,U⟩:=q;simp only at g0 g1 g2 CM
     go_wp2_with (go_at_call 117;refine(CM.out _).mono ?_;rintro e w2 ⟨rfl,hb2⟩;have HB2:=hdz (HBW.out.trans (hb2.mono HBW.out.size));clear hb2)
     go_ret;exact⟨_,rfl,by rw[HAN.out];exact decide_eq_true (by omega),HB2.out⟩
    | false =>
     have HAN:Hid ((ps.take (k+1)).any JdO=false):=by show _=_;rw[hts,List.any_append,HNO.out];simp[hm]
     rw[hm]at CM;clear hcell c0 c1 c2 hne hts hin hm;generalize ps[k]=q at *;obtain⟨K,D,U⟩:=q;simp only at g0 g1 g2 CM
     go_wp2_with (go_at_call 117;refine(CM.out _).mono ?_;rintro e w2 ⟨rfl,hb2⟩;have HB2:=hdz (HBW.out.trans (hb2.mono HBW.out.size));clear hb2)
     go_roundw
     case rel=>exact⟨k+1,by go_num,by omega,HAN.out,HB2.out⟩
     case measure=>simp[intOf];omega
  . obtain rfl:k=n:=by omega
    have HAN:Hid (ps.any JdO=false):=by
     have:=HNO.out;rw[←HN.out,List.take_length]at this;exact this
    have hki:¬((k:Int)<(k:Int)):=by omega
    go_wp2;go_ret;exact⟨_,rfl,by rw[HAN.out];exact decide_eq_false (by omega),HBW.out⟩
theorem JlR(v:Value)(ps:List Pt)(w:World)(hr:opAt w v ps)(hl:ps.length<=1000) :
    Calls Tryz.prog 118 #[v,.func (.func 117) #[] #[]] w fun e w'=>e=.returned (.bool (ps.any JdO))/\Below w.heap.size w w':=by
 have C:Hid _:=Jsu v ps w hr hl;obtain⟨p,c,rfl,_⟩:=hr
 cases hm:ps.any JdO with
 | true =>
  rw[hm]at C
  go_enter Tryz.func118,Tryz.ntmps118
  go_wp2_with (go_at_call 179;refine Calls.mono C.out ?_;rintro e w2 ⟨i,rfl,hi,hb2⟩;have hi2:0<=i:=of_decide_eq_true hi;have HB2:=hdz hb2;clear hb2 hi)
  go_ret;exact⟨by simp,HB2.out⟩
 | false =>
  rw[hm]at C
  go_enter Tryz.func118,Tryz.ntmps118
  go_wp2_with (go_at_call 179;refine Calls.mono C.out ?_;rintro e w2 ⟨i,rfl,hi,hb2⟩;have hi2:¬0<=i:=of_decide_eq_false hi;have HB2:=hdz hb2;clear hb2 hi)
  go_ret;exact⟨by simp[hi2],HB2.out⟩
def ptV (q:Pt):Value:=.agg #[.int .i64 q.keep,.int .i64 q.drop,.string ⟨q.put.toArray⟩]
theorem Jqb(q:Pt)(n:Int)(w:World)(hp:q.put.length<=1000000) :
    Calls Tryz.prog 181 #[.agg #[.int .i64 q.keep,.int .i64 q.drop,.string ⟨q.put.toArray⟩],.int .i64 n] w fun e w'=>e=.returned (ptV (JcQ n q))/\Below w.heap.size w w':=by
 obtain⟨K,D,U⟩:=q;have CL:Hid (∀wx,Calls Tryz.prog 112 #[.string ⟨U.toArray⟩] wx fun e w'=>e=.returned (.string ⟨U.toArray⟩)/\Below wx.heap.size wx w'):=fun wx=>Jjs U (by have:U.length<=1000000:=hp;omega) wx;unfold JcQ ptV;simp only;have hb1:Below w.heap.size w ((w.alloc (.cells #[.int .i64 K,.int .i64 D,.string ⟨U.toArray⟩] 50)).alloc (.cells #[.int .i64 0,.int .i64 0,.string ⟨#[]⟩] 50)):=((brf _ _).alloc (nlr _) _).alloc (by rw[wsa];omega) _;have HB1:=hdz hb1;clear hb1 hp
 by_cases hK:0<K
 . rw[if_pos hK]
   go_enter Tryz.func181,Tryz.ntmps181
   go_wp2;exact bodyPost_ret (v:=.agg #[.int .i64 n,.int .i64 0,.string ⟨#[]⟩]) (by simp[results,Tryz.results181,go_sem]) rfl ⟨rfl,((brf _ _).alloc (nlr _) _).alloc (by rw[wsa];omega) _⟩
 . rw [if_neg hK]
   by_cases hD:0<D
   . rw[if_pos hD]
     go_enter Tryz.func181,Tryz.ntmps181
     go_wp2;exact bodyPost_ret (v:=.agg #[.int .i64 0,.int .i64 n,.string ⟨#[]⟩]) (by simp[results,Tryz.results181,go_sem]) rfl ⟨rfl,((brf _ _).alloc (nlr _) _).alloc (by rw[wsa];omega) _⟩
   . rw [if_neg hD]
     go_enter Tryz.func181,Tryz.ntmps181
     go_wp2_with (go_at_call 9999)
     refine(CL.out _).mono ?_;rintro e w2 ⟨rfl,hb2⟩;have hbox:w2.heap[w.heap.size+1]?=some (.cells #[.int .i64 0,.int .i64 0,.string ⟨#[]⟩] 50 (0,0)):=(hb2.block (w.heap.size+1) (by rw[wsa,World.size_alloc];omega)).trans (by have:=heap_alloc_new (w.alloc (.cells #[.int .i64 K,.int .i64 D,.string ⟨U.toArray⟩] 50)) (.cells #[.int .i64 0,.int .i64 0,.string ⟨#[]⟩] 50);rwa[World.size_alloc]at this);have y0:=ce hbox 0 rfl;have y1:=ce hbox 1 rfl;have y2:=ce hbox 2 rfl;have z0:=fz hbox 0;have z1:=fz hbox 1;have z2:=fz hbox 2;have HB2:Hid (Below w.heap.size w w2):=HB1.out.trans (hb2.mono HB1.out.size);clear hb2 hbox;go_wp2;exact bodyPost_ret (v:=.agg #[.int .i64 0,.int .i64 0,.string ⟨U.toArray⟩]) (by simp[results,Tryz.results181,go_sem,y0,y1,y2]) rfl ⟨rfl,((HB2.out.setCell (p:=⟨w.heap.size+1,0,none⟩) (Nat.le_succ _) _).setCell (p:=⟨w.heap.size+1,1,none⟩) (Nat.le_succ _) _).setCell (p:=⟨w.heap.size+1,2,none⟩) (Nat.le_succ _) _⟩
end
section
open Go.RowKit
attribute [local go_sem] Oper.semAt_some
variable {u : Int}
theorem Jo5(hu:Jaz u){R:List Nat}{n:Int}(h1:n<=by_ u R)(he:JaM R u n=true) :
    ∃N:Nat,by_ 1 (upTo R u n)=(N:Int)/\N<=(Ja1 R).size/\(Ja1 R).extract N (Ja1 R).size=Ja1 (Jbq u R n):=by
 obtain⟨e1,e2⟩:=Jfa hu h1 he;have e3:encs R=encs (upTo R u n)++encs (Jbq u R n):=by rw[←JbQ];exact congrArg _ e1
 refine⟨(encs (upTo R u n)).length,?_,?_,?_⟩
 . unfold by_;rw[if_pos rfl,Jcf]
 . rw[Jej,e3,List.length_append];omega
 . apply ByteArray.ext
   apply Array.ext';rw[Lib.extract_to_end,Jek,Jek,e3,List.drop_left' rfl]
theorem rest_C1{R:List Nat}{n:Int}:C1 (Jbq u R n)<=C1 R:=by
 have e:R=R.take (upTo R u n).length++Jbq u R n:=(List.take_append_drop _ R).symm;have h:C1 R=C1 (R.take (upTo R u n).length)+C1 (Jbq u R n):=by rw[←Jcg];exact congrArg _ e
 have:=JdY (R.take (upTo R u n).length);omega
theorem Jsb(u:Int)(R:List Nat)(q:Pt)(qs:List Pt):okZ u R (q :: qs)=(JaM R u (lenP q) && okZ u (Jbq u R (lenP q)) qs):=rfl
theorem Jss(u v:Int)(R:List Nat)(q:Pt)(qs:List Pt):inZ u v R (q :: qs)=JcQ (by_ v (upTo R u (lenP q))) q :: inZ u v (Jbq u R (lenP q)) qs:=rfl
structure inI (w:World) (u:Int) (rs:List Nat) (qs:List Pt) (k:Nat) (R:List Nat) (L:List Pt) (v:Value) (wr:World):Prop where
 le:k<=qs.length
 len:L.length=k
 own:wr.ownsRow w.heap.size 50 3 v k (JaD L)
 ok:okZ u rs qs=okZ u R (qs.drop k)
 out:inZ u 1 rs qs=L++inZ u 1 R (qs.drop k)
 long:Jag (qs.drop k)=by_ u R
 rune:∀r∈R,Jas r
 few:C1 R<=1000000
 low:Below w.heap.size w wr
theorem inB_chk(rs:List Nat)(hr:∀r∈rs,Jas r)(hz:C1 rs<=1000000)(u:Int)(qs:List Pt)(val:Value)(w:World)(hu:Jaz u)(hT:Lib.Utf8Tabs 2 3 w)(ho:opAt w val qs)(hwf:∀q∈qs,wfP q)(hl:qs.length<=1000)(hc:chkE qs (by_ u rs)≠0) :
    Calls Tryz.prog 119 #[val,.int .i64 u,.string (Ja1 rs)] w fun e w'=>e=.returned (.tuple #[.slice none 0 0,errV (chkE qs (by_ u rs))])/\Below w.heap.size w w':=by
 have hby:=Jkv rs hz u;have hup:=Jdl u rs;have cC:Hid _:=Jog rs hr (by omega) w hT;have cI:Hid (∀wx,Calls Tryz.prog 23 #[cntV rs,.int .i64 u] wx fun e w'=>e=.returned (.int .i64 (by_ u rs))/\Below wx.heap.size wx w'):=fun wx=>Jmk u rs wx;have hV:errV (chkE qs (by_ u rs))=.iface 26 (.int .i64 (chkE qs (by_ u rs))):=by unfold errV;rw[if_neg hc]
 have cK:Hid (∀wx,Below w.heap.size w wx->Calls Tryz.prog 92 #[val,.int .i64 (by_ u rs)] wx fun e w'=>e=.returned (.iface 26 (.int .i64 (chkE qs (by_ u rs))))/\Below wx.heap.size wx w'):=fun wx hb=>by
  have:=JcM val qs (by_ u rs) wx (Go.Proofs.Utf8Tabs_below hT hb) (JaK ho hb (nlr _)) hwf (by omega) (by omega);rw[hV]at this;exact this
 rw[hV];obtain⟨p,c,rfl,_⟩:=ho;generalize chkE qs (by_ u rs)=E at *;generalize by_ u rs=Bu at *;unfold cntV at cI;clear hT hwf hc hV hu hz hby hup hr;generalize hS:Ja1 rs=S at *;clear hS
 go_enter Tryz.func119,Tryz.ntmps119
 go_wp2_with (first
  | (go_at_call 78;refine Calls.mono cC.out ?_;rintro e w1 ⟨rfl,hb1⟩;have HB1:Hid (Below w.heap.size w (w1.alloc (.cells #[.int .i64 (C1 rs),.int .i64 (C2 rs),.int .i64 (C3 rs),.int .i64 (C4 rs)] 25))):=hb1.alloc hb1.size _;clear hb1)
  | (go_at_call 23;refine(cI.out _).mono ?_;rintro e w3 ⟨rfl,hb3⟩;have HB3:=hdz (HB1.out.trans (hb3.mono HB1.out.size));clear hb3)
  | (go_at_call 92;refine(cK.out _ HB3.out).mono ?_;rintro e w4 ⟨rfl,hb4⟩;have HB4:=hdz (HB3.out.trans (hb4.mono HB3.out.size));clear hb4))
 go_ret2
 exact⟨rfl,HB4.out⟩
theorem Jst(rs:List Nat)(hr:∀r∈rs,Jas r)(hz:C1 rs<=1000000)(u:Int)(qs:List Pt)(val:Value)(w:World)(hu:Jaz u)(hT:Lib.Utf8Tabs 2 3 w)(ho:opAt w val qs)(hwf:∀q∈qs,wfP q)(hpl:∀q∈qs,q.put.length<=1000000)(hl:qs.length<=1000)(hc:chkE qs (by_ u rs)=0) :
    Calls Tryz.prog 119 #[val,.int .i64 u,.string (Ja1 rs)] w fun e w'=>∃v',e=.returned (.tuple #[v',errV (if okZ u rs qs then 0 else 10)])/\opN w.heap.size w' v' (if okZ u rs qs then inZ u 1 rs qs else [])/\Below w.heap.size w w':=by
 have hby:=Jkv rs hz u;have hup:=Jdl u rs;obtain⟨hp1,hp2,hp3⟩:=JcC hc;have cC:Hid _:=Jog rs hr (by omega) w hT;have cI:Hid (∀wx,Calls Tryz.prog 23 #[cntV rs,.int .i64 u] wx fun e w'=>e=.returned (.int .i64 (by_ u rs))/\Below wx.heap.size wx w'):=fun wx=>Jmk u rs wx;have cK:Hid (∀wx,Below w.heap.size w wx->Calls Tryz.prog 92 #[val,.int .i64 (by_ u rs)] wx fun e w'=>e=.returned .nilIface/\Below wx.heap.size wx w'):=fun wx hb=>by
  have:=JcM val qs (by_ u rs) wx (Go.Proofs.Utf8Tabs_below hT hb) (JaK ho hb (nlr _)) hwf (by omega) (by omega);rw[hc]at this;exact this
 have HOP:=hdz ho;have HT:=hdz hT;have HP1:=hdz hp1;have HP3:=hdz hp3;have HPL:=hdz hpl;have HU:=hdz hu;have H0:Hid (inI w u rs qs 0 rs [] (.slice none 0 0) w):=⟨Nat.zero_le _,rfl,World.ownsRow_nil _ _ _ _,rfl,rfl,hp2,hr,hz,brf _ _⟩;obtain⟨p,c,rfl,r1,r2,r3⟩:=ho;obtain⟨n,hn⟩:∃n,qs.length=n:=⟨_,rfl⟩;have HN:=hdz hn;rw[hn]at r1 hl cK ⊢;obtain⟨i0,hi,hz0,hz1,hz2⟩:=info_parts Jbf;have HI:=hdz hi;have HZ0:=hdz hz0;have HZ1:=hdz hz1;have HZ2:=hdz hz2;generalize by_ u rs=Bu at *;unfold cntV at cI;obtain⟨EV,hEV⟩:∃EV,errV (if okZ u rs qs then 0 else 10)=EV:=⟨_,rfl⟩;obtain⟨OP,hOP⟩:∃OP,(if okZ u rs qs then inZ u 1 rs qs else [])=OP:=⟨_,rfl⟩;have HEV:=hdz hEV.symm;have HOPV:=hdz hOP.symm;rw[hEV,hOP];clear hEV hOP;obtain⟨S,hS⟩:∃S,Ja1 rs=S:=⟨_,rfl⟩;have HS:=hdz hS.symm;rw[hS]at cC ⊢;clear hT hwf hpl hp1 hp2 hp3 hc hn r3 hS hu hz hby hup hr hi hz0 hz1 hz2;unfold maxLen at r2
 go_enter Tryz.func119,Tryz.ntmps119
 go_wp2_with (first
  | (go_at_call 78;refine Calls.mono cC.out ?_;rintro e w1 ⟨rfl,hb1⟩;have HB1:Hid (Below w.heap.size w (w1.alloc (.cells #[.int .i64 (C1 rs),.int .i64 (C2 rs),.int .i64 (C3 rs),.int .i64 (C4 rs)] 25))):=hb1.alloc hb1.size _;clear hb1)
  | (go_at_call 23;refine(cI.out _).mono ?_;rintro e w3 ⟨rfl,hb3⟩;have HB3:=hdz (HB1.out.trans (hb3.mono HB1.out.size));clear hb3)
  | (go_at_call 92;refine(cK.out _ HB3.out).mono ?_;rintro e w4 ⟨rfl,hb4⟩;have HB4:=hdz (HB3.out.trans (hb4.mono HB3.out.size));clear hb4))
 have H4:Hid (inI w u rs qs 0 rs [] (.slice none 0 0) w4):=⟨Nat.zero_le _,rfl,World.ownsRow_nil _ _ _ _,rfl,rfl,H0.out.long,H0.out.rune,H0.out.few,HB4.out⟩;have hni:(n:Int)<=1000:=by omega
 clear cC cI cK H0 HB1 HB3
 go_loopw [2,11,34] (fun v2 v11 i wr=>∃(k:Nat) (R:List Nat) (L:List Pt),i=.int .i64 k/\v2=.string (Ja1 R)/\inI w u rs qs k R L v11 wr) (fun _ _ i _=>n - (intOf i).toNat)
 case atStart=>exact⟨0,rs,[],rfl,by rw[HS.out],H4.out⟩
 case round =>
  obtain⟨k,R,L,rfl,rfl,hI⟩:=hrel;have HI1:=hdz hI;have hk:k<=n:=by have:=HN.out;have:=hI.le;omega
  have hown:=hI.own;obtain⟨pv,cv,rfl⟩:=Jae hown;clear H4 HS
  by_cases hlt:k<n
  . have hkr:k<qs.length:=by rw[HN.out];exact hlt
    have hne:qs≠[]:=by intro e;rw[e]at hkr;exact absurd hkr (Nat.not_lt_zero _)
    obtain⟨p0,c0,hvv,_,_,hcell⟩:=HOP.out;obtain⟨b0,o,rfl,hb0,hcell⟩:=hcell hne;obtain⟨f0,f1,f2⟩:=hcell k qs[k] (lgg hkr);have g0:=(hI.low.cell (p:=⟨b0,o+k*3,none⟩) hb0).trans f0;have g1:=(hI.low.cell (p:=⟨b0,o+k*3+1,none⟩) hb0).trans f1;have g2:=(hI.low.cell (p:=⟨b0,o+k*3+2,none⟩) hb0).trans f2;obtain rfl:p=some ⟨b0,o,none⟩:=by injection hvv
    have hqm:qs[k]∈qs:=List.getElem_mem _;have hsnd:=(Jce (HP1.out _ hqm).1).1;have hplq:=HPL.out _ hqm;have hdk:qs.drop k=qs[k] :: qs.drop (k+1):=List.drop_eq_getElem_cons hkr;have hlong:=hI.long;rw[hdk]at hlong;have hl2:Jag (qs[k] :: qs.drop (k+1))=lenP qs[k]+Jag (qs.drop (k+1)):=Jbo _ _;have hrest:=JfE fun q hq=>HP3.out q (List.mem_of_mem_drop (i:=k+1) hq);have hok:=hI.ok;have hout:=hI.out;rw[hdk,Jsb]at hok;rw[hdk,Jss]at hout;have hle:lenP qs[k]<=by_ u R:=by omega
    have CH:=fun (wx:World) (hb:Below w.heap.size w wx)=>Jsv R hI.rune (by have:=hI.few;omega) u (lenP qs[k]) HU.out hle wx (Go.Proofs.Utf8Tabs_below HT.out hb);have HLR:Hid (Jag (qs.drop (k+1))=by_ u R - lenP qs[k]):=by show _=_;omega
    have hbs:=Jkv R hI.few u;have HLE:=hdz hle;clear hcell hvv f0 f1 f2 hne hqm hl2 hrest hlong hdk;generalize qs[k]=q at *;obtain⟨K,D,U⟩:=q;obtain⟨s1,s2⟩:=hsnd;have s1:0<=K:=s1;have s2:0<=D:=s2;have hld:lenP ⟨K,D,U⟩=K+D:=rfl;rw[hld]at CH hok hout HLR HLE hle;have hw0:IntKind.i64.wrap (K+D)=K+D:=by rw[IntKind.wrap_i64];omega
    have hj:(k:Int)<(n:Int):=by omega
    obtain⟨β,hβ⟩:∃β,wr.heap.size=β:=⟨_,rfl⟩;have HBT:=hdz hβ;have HOW:=hdz hown;have HBW:=hdz hI.low;have HLL:=hdz hI.len;have HRN:=hdz hI.rune;have HFW:=hdz hI.few;clear hI hown HI1
    by_cases hed:JaM R u (K+D)=true
    . obtain ⟨N1,e1,e2,e3⟩:=Jo5 HU.out hle hed
      have HED:=hdz hed;rw[e1]at hout;rw[hed,Bool.true_and]at hok;rw[hed,e1]at CH;obtain⟨X,hX⟩:∃X,Ja1 R=X:=⟨_,rfl⟩;obtain⟨X2,hX2⟩:∃X2,Ja1 (Jbq u R (K+D))=X2:=⟨_,rfl⟩;rw[hX,hX2]at e3;rw[hX]at e2 CH ⊢;have HX2:=hdz hX2;have HE3:=hdz e3;have hni1:(N1:Int)<=(X.size:Int):=by omega
      have hxs:(X.size:Int)<=1000000:=by rw[←hX,Jej];have:=HFW.out;rw[Jcf]at this;exact this
      have HCH:=hdz CH;have CS:Hid (∀wx,Calls Tryz.prog 181 #[.agg #[.int .i64 K,.int .i64 D,.string ⟨U.toArray⟩],.int .i64 (N1:Int)] wx fun e w'=>e=.returned (ptV (JcQ N1 ⟨K,D,U⟩))/\Below wx.heap.size wx w'):=fun wx=>Jqb ⟨K,D,U⟩ N1 wx hplq;generalize hQ:JcQ (N1:Int) ⟨K,D,U⟩=Q1 at *;have HOK:Hid (okZ u rs qs=okZ u (Jbq u R (K+D)) (qs.drop (k+1))):=hok;have HOUT:Hid (inZ u 1 rs qs=(L++[Q1])++inZ u 1 (Jbq u R (K+D)) (qs.drop (k+1))):=by show _=_;rw[hout];simp
      obtain⟨QK,QD,QU⟩:=Q1;unfold ptV at CS;simp only at CS;have HLE2:=hdz hle;clear hed e1 e3 hX hX2 CH hok hout hplq hQ hle hbs HLE
      go_wp2_with (first
       | (go_at_call 180;refine(HCH.out _ (HBW.out.alloc HBW.out.size _)).mono ?_;rintro e w5 ⟨rfl,hb5⟩;have hbox:w5.heap[β]?=some (.cells #[.int .i64 K,.int .i64 D,.string ⟨U.toArray⟩] 50 (0,0)):=(hb5.block β (by rw[wsa,HBT.out];omega)).trans (by have:=heap_alloc_new wr (.cells #[.int .i64 K,.int .i64 D,.string ⟨U.toArray⟩] 50);rwa[HBT.out]at this);have y0:=ce hbox 0 rfl;have y1:=ce hbox 1 rfl;have y2:=ce hbox 2 rfl;have HB5:Hid (Below w.heap.size w w5):=(HBW.out.alloc HBW.out.size _).trans (hb5.mono (by rw[wsa];have:=HBW.out.size;omega));have HO5:Hid (w5.ownsRow w.heap.size 50 3 (.slice pv k cv) k (JaD L)):=JaR (HOW.out.alloc _) hb5;clear hb5 hbox)
       | (go_at_call 181;refine(CS.out _).mono ?_;rintro e w6 ⟨rfl,hb6⟩;have HB6:Hid (Below w.heap.size w w6):=HB5.out.trans (hb6.mono HB5.out.size);have HO6:=hdz (JaR HO5.out hb6);have hs6:w.heap.size<=w6.heap.size:=HB6.out.size;clear hb6)
       | (at_builtin;refine wpList_append_own _ rfl _ _ 23 rfl w.heap.size 50 i0 (.agg #[.int .i64 0,.int .i64 0,.string ⟨#[]⟩]) 3 32 Tryz.underlying23 HI.out HZ0.out HZ1.out HZ2.out rfl (by decide) _ _ _ rfl (HO6.out.alloc _) ⟨w6.heap.size,0,none⟩ 1 1 (Ja6 ⟨QK,QD,QU⟩) rfl rfl (Jfy _ _ (by first | rfl | simp) _ _) (Ja4 _) (by unfold maxLen;omega) (by omega) (by first | omega | (simp;omega)) ?_))
      intro v' w' hown' hg' _;obtain⟨p',c',rfl⟩:=Jae hown';have HB9:Hid (Below w.heap.size w w'):=(HB6.out.alloc HB6.out.size _).grown hg' (by simp;omega) fun j hj=>(HO6.out.lt j hj).1;have HO9:=hdz hown';have HLT:=hdz hlt;clear hown' hg';go_wp2
      go_roundw
      case rel =>
       obtain⟨q1,q2⟩:=Jfa HU.out HLE2.out HED.out;have q3:by_ u R=by_ u (upTo R u (K+D))+by_ u (Jbq u R (K+D)):=by rw[←Jbp];exact congrArg _ q1
       refine⟨k+1,Jbq u R (K+D),L++[⟨QK,QD,QU⟩],by go_num,by rw[HE3.out,HX2.out],⟨by have:=HN.out;have:=HLT.out;omega,by rw[List.length_append,HLL.out];rfl,?_,HOK.out,HOUT.out,?_,JfZ HRN.out,Int.le_trans rest_C1 HFW.out,HB9.out⟩⟩
       . rw[Jb3];exact HO9.out
       . have:=HLR.out;omega
      case measure=>have:=HLT.out;simp[intOf];omega
    . have hed:JaM R u (K+D)=false:=Bool.eq_false_iff.2 hed
      rw[hed]at CH hok;rw[Bool.false_and]at hok;have HOK:Hid (okZ u rs qs=false):=hok;obtain⟨M1,hM1⟩:∃M1,by_ 1 (upTo R u (K+D))=M1:=⟨_,rfl⟩;rw[hM1]at CH;have HCH:=hdz CH;clear hed hM1 CH hok hout hplq hle hbs HLE;generalize Ja1 R=X at *
      go_wp2_with (go_at_call 180;refine(HCH.out _ (HBW.out.alloc HBW.out.size _)).mono ?_;rintro e w5 ⟨rfl,hb5⟩;have HB5:Hid (Below w.heap.size w w5):=(HBW.out.alloc HBW.out.size _).trans (hb5.mono (by rw[wsa];have:=HBW.out.size;omega));clear hb5)
      go_ret2
      refine⟨.slice none 0 0,?_,?_,HB5.out⟩
      . rw[HEV.out,HOK.out];rfl
      . rw[HOPV.out,HOK.out];exact JbS _ _
  . obtain rfl:k=n:=by omega
    have e:qs.drop k=[]:=List.drop_of_length_le (by rw[HN.out];exact nlr _);have hok:=hI.ok;have hout:=hI.out;rw[e]at hok hout;have HOK:Hid (okZ u rs qs=true):=hok;have HOUT:Hid (inZ u 1 rs qs=L):=hout.trans (by simp[inZ]);have HOW:=hdz hown;have HBW:=hdz hI.low;have HLL:=hdz hI.len;have hj:¬((k:Int)<(k:Int)):=by omega
    clear hI HI1 e hok hout hown;generalize Ja1 R=X at *;go_wp2
    go_ret2
    refine⟨.slice pv k cv,?_,?_,HBW.out⟩
    . rw[HEV.out,HOK.out];rfl
    . rw[HOPV.out,HOK.out,if_pos rfl,HOUT.out]
      have:=HOW.out;rw[←HLL.out]at this ⊢;exact JeE (nlr _) this
theorem JmQ(rs:List Nat)(hr:∀r∈rs,Jas r)(hz:C1 rs<=1000000)(u:Int)(qs:List Pt)(val:Value)(w:World)(hu:Jaz u)(hT:Lib.Utf8Tabs 2 3 w)(ho:opAt w val qs)(hwf:∀q∈qs,wfP q)(hpl:∀q∈qs,q.put.length<=1000000)(hl:qs.length<=1000) :
    Calls Tryz.prog 119 #[val,.int .i64 u,.string (Ja1 rs)] w fun e w'=>∃v',e=.returned (.tuple #[v',errV (tzE rs u 1 qs)])/\opN w.heap.size w' v' (tzO rs u 1 qs)/\Below w.heap.size w w':=by
 have h1:(uB u && uB 1)=true:=by rw[(JgZ u).2 hu,(JgZ 1).2 (.inl rfl)];rfl
 unfold tzE tzO;rw[h1,if_pos rfl,if_pos rfl]
 by_cases hc:chkE qs (by_ u rs)=0
 . rw[if_pos hc,if_pos hc]
   obtain⟨_,h2,h3⟩:=JcC hc;obtain⟨t1,t2⟩:=JpG hu 1 qs rs h3 (Int.le_of_eq h2);rw[t1,t2];exact Jst rs hr hz u qs val w hu hT ho hwf hpl hl hc
 . rw[if_neg hc,if_neg hc]
   exact(inB_chk rs hr hz u qs val w hu hT ho hwf hl hc).mono fun e w' h=>⟨_,h.1,JbS _ _,h.2⟩
end
section
open Go.RowKit Go.Maps
attribute [local go_sem] Oper.semAt_some Ja7 Jbe
variable {lo b : Nat}{w : World}{who u : Int}{S : Cl}
theorem JlT(h:isCl lo w b who u S)(i:Int)(hd:0<=S.drops/\S.drops<=1000000) :
    Calls Tryz.prog 51 #[.pointer (some ⟨b,0,none⟩),.int .i64 i] w fun e w'=>e=.returned (.tuple #[])/\isCl lo w' b who u (rfS S i)/\keptC w w' b:=by
 have hlt:=Jc5 h;have HC:=hdz h;have CP:Hid _:=Jb8 h
 by_cases hm:S.mine=[]
 . have e:decide (0<S.mine.length)=false:=by rw[hm];rfl
   rw[e]at CP;have HR:Hid (rfS S i=S):=if_neg fun h=>h.1 hm;clear h hm e hd
   go_enter Tryz.func51,Tryz.ntmps51
   go_wp2_with (go_at_call 58;refine Calls.mono CP.out ?_;rintro e w2 ⟨rfl,hb2⟩;have HB2:=hdz hb2;clear hb2)
   (try simp only[Exit.inBlock,Exit.then]);refine bodyPost_ret (results_none rfl _ _ _) rfl ?_
   rw[HR.out];exact⟨rfl,Jbw HC.out HB2.out,JbO HB2.out hlt⟩
 . have e:decide (0<S.mine.length)=true:=decide_eq_true (List.length_pos_iff.2 hm)
   rw[e]at CP;obtain⟨hlo,vm,h3,h4⟩:=h;obtain⟨p,c,rfl⟩:=JbW h4;have H3:=hdz h3;have HLO:=hdz hlo
   by_cases hi:i=S.id
   . have HR:Hid (rfS S i = { S with mine:=[],doc:=S.seen,drops:=S.drops+1 }):=if_pos ⟨hm,hi⟩
     have hid1:wrap64 (S.drops+1)=S.drops+1:=Jax (by omega) (by omega);obtain⟨d0,d1⟩:=hd;subst hi;clear h3 h4 hm e hlo;generalize S.mine.length=n at *
     go_enter Tryz.func51,Tryz.ntmps51
     go_wp2_with (go_at_call 58;refine Calls.mono CP.out ?_;rintro e w2 ⟨rfl,hb2⟩;have HB2:=hdz hb2;have hbk:=(hb2.block b hlt).trans H3.out;have HBK:=hdz hbk;obtain⟨_,_,_,y3,y4,y5,y6,y7,yf⟩:=Ja2 hbk;have f4:=yf 4;have f5:=yf 5;have f7:=yf 7;clear hb2 hbk yf)
     go_end0;rw[HR.out];refine⟨rfl,?_⟩;have b1:=heap_setCell_same w2 b 4 _ _ (.slice none 0 0) HBK.out;have b2:=heap_setCell_same _ b 5 _ _ (.string ⟨S.seen.toArray⟩) b1;have b3:=heap_setCell_same _ b 7 _ _ (.int .i64 (S.drops+1)) b2;refine Jen HLO.out H3.out b3 (Jjh _ _) ?_ fun k hk=>by cases hk
     exact(Jai HB2.out _).trans (((Jaj (S:=fun k=>k=b\/(Value.slice p n c).ownBlock=some k) (.inl rfl)).trans (Jaj (S:=fun k=>k=b\/(Value.slice p n c).ownBlock=some k) (.inl rfl))).trans (Jaj (S:=fun k=>k=b\/(Value.slice p n c).ownBlock=some k) (.inl rfl)))
   . have HR:Hid (rfS S i=S):=if_neg fun h=>hi h.2
     have hi2:¬i=S.id:=hi;clear h3 h4 hm e hd hlo
     go_enter Tryz.func51,Tryz.ntmps51
     go_wp2_with (go_at_call 58;refine Calls.mono CP.out ?_;rintro e w2 ⟨rfl,hb2⟩;have HB2:=hdz hb2;have y6:=(Ja2 ((hb2.block b hlt).trans H3.out)).2.2.2.2.2.2.1;clear hb2)
     (try simp only[Exit.inBlock,Exit.then]);refine bodyPost_ret (results_none rfl _ _ _) rfl ?_
     rw[HR.out];exact⟨rfl,Jbw HC.out HB2.out,JbO HB2.out hlt⟩
theorem Jng(h:isCl lo w b who u S)(v:Value)(o:List Pt)(hx:opX lo w v o)(hT:Lib.Utf8Tabs 2 3 w)(htw:S.mine.length<=2)(hid:0<=S.id/\S.id<=1000000)
    (hg:∀m1 m2,S.mine=[m1,m2]->∃t,good m2 t/\good o (Jaa m2 t)/\t.length+Jal m2<1000000/\(Jaa m2 t).length+Jal o<1000000) :
    Calls Tryz.prog 121 #[.pointer (some ⟨b,0,none⟩),v] w fun e w'=>e=.returned (.tuple #[])/\isCl lo w' b who u { S with mine:=addM o S.mine,id:=if S.mine=[] then S.id+1 else S.id }/\keptC w w' b:=by
 rcases hm:S.mine with _|⟨m1,_|⟨m2,_|⟨m3,ms⟩⟩⟩
 . rw[if_pos rfl]
   exact JsR h hm v o hx hid
 . rw[if_neg (by simp)]
   have:=JsQ h (by rw[hm];rfl) v o hx;rw[hm]at this;exact this
 . rw[if_neg (by simp)]
   obtain⟨t,g1,g2,g3,g4⟩:=hg m1 m2 hm;exact JsP h hm v o hx hT g1 g2 g3 g4
 . rw[hm]at htw;simp at htw
end
section
open Go.RowKit Go.Maps
attribute [local go_sem] Oper.semAt_some Ja7 Jbe
variable {lo b : Nat}{w : World}{who u : Int}{S : Cl}
theorem Jnh(h:isCl lo w b who u S)(hu:Jaz u)(v:Value)(q:List Pt)(hx:opAt w v q)(hl:q.length<=100)(hm:60<q.length\/q.any JdO=true) :
    Calls Tryz.prog 47 #[.pointer (some ⟨b,0,none⟩),v] w fun e w'=>e=.returned (errV 4)/\Below w.heap.size w w':=by
 have hu0:(u==0)=false:=by rcases hu with rfl|rfl|rfl<;>rfl
 have CU:Hid _:=JcB h;have CF:Hid (∀wx,Below w.heap.size w wx->Calls Tryz.prog 118 #[v,.func (.func 117) #[] #[]] wx fun e w'=>e=.returned (.bool (q.any JdO))/\Below wx.heap.size wx w'):=fun wx hb=>JlR v q wx (JaK hx hb (nlr _)) (by omega);rw[show errV 4=.iface 26 (.int .i64 4) from rfl];obtain⟨p,c,rfl,_⟩:=hx
 by_cases h6:60<q.length
 . have h6':(60:Int)<(q.length:Int):=by omega
   clear h hu hm CF
   go_enter Tryz.func47,Tryz.ntmps47
   go_wp2_with (first
    | (go_at_call 57;refine Calls.mono CU.out ?_;rintro e w1 ⟨rfl,hb1⟩;have HB1:=hdz hb1;clear hb1)
    | (go_at_call 118;refine(CF.out _ HB1.out).mono ?_;rintro e w2 ⟨rfl,hb2⟩;have HB2:=hdz (HB1.out.trans (hb2.mono HB1.out.size));clear hb2))
   go_ret;exact⟨rfl,HB1.out⟩
 . have h6':¬(60:Int)<(q.length:Int):=by omega
   have ha:q.any JdO=true:=hm.elim (fun e=>absurd e h6) id;rw[ha]at CF;clear h hu hm ha
   go_enter Tryz.func47,Tryz.ntmps47
   go_wp2_with (first
    | (go_at_call 57;refine Calls.mono CU.out ?_;rintro e w1 ⟨rfl,hb1⟩;have HB1:=hdz hb1;clear hb1)
    | (go_at_call 118;refine(CF.out _ HB1.out).mono ?_;rintro e w2 ⟨rfl,hb2⟩;have HB2:=hdz (HB1.out.trans (hb2.mono HB1.out.size));clear hb2))
   go_ret;exact⟨rfl,HB2.out⟩
theorem Jpk(h:isCl lo w b who u S)(hk:okK 2000 S)(hu:Jaz u)(v:Value)(q:List Pt)(hx:opAt w v q)(hwf:∀p∈q,wfP p)(hpl:∀p∈q,p.put.length<=300)(hl:q.length<=100)(hsz:S.seen.length<=100000)(hid:0<=S.id/\S.id<=1000000)(hG:2<lo/\3<lo)(hT:Lib.Utf8Tabs 2 3 w) :
    Calls Tryz.prog 47 #[.pointer (some ⟨b,0,none⟩),v] w fun e w'=>e=.returned (errV (edE u S q))/\isCl lo w' b who u (edS u S q)/\keptC w w' b:=by
 have hlt:=Jc5 h;have same:∀{n:Int},edE u S q=n->n≠0->(Calls Tryz.prog 47 #[.pointer (some ⟨b,0,none⟩),v] w fun e w'=>e=.returned (errV n)/\Below w.heap.size w w')->Calls Tryz.prog 47 #[.pointer (some ⟨b,0,none⟩),v] w fun e w'=>e=.returned (errV (edE u S q))/\isCl lo w' b who u (edS u S q)/\keptC w w' b:=fun {n} e1 e2 hc=>by
  refine hc.mono ?_;rintro e w' ⟨rfl,hb⟩;have:edS u S q=S:=if_neg (by rw[e1];exact e2);rw[e1,this];exact⟨rfl,Jbw h hb,JbO hb hlt⟩
 by_cases hm:60<q.length\/q.any JdO=true
 . exact same (if_pos hm) (by decide) (Jnh h hu v q hx hl hm)
 have hV:=hk.V;have hrs:encs (Jam S.doc)=S.doc:=JbM (Jmi hV);have hbs:Ja1 (Jam S.doc)=⟨S.doc.toArray⟩:=by unfold Ja1;rw[hrs]
 have hdl:=hk.len;have hC1:C1 (Jam S.doc)<=1000000:=by rw[Jcf,hrs];omega
 have h6:¬60<q.length:=fun e=>hm (.inl e);have ha:q.any JdO=false:=by
  cases e:q.any JdO with
  | false=>rfl
  | true=>exact absurd (.inr e) hm
 have hu0:(u==0)=false:=by rcases hu with rfl|rfl|rfl<;>rfl
 have CU:Hid _:=JcB h;have CF:Hid (∀wx,Below w.heap.size w wx->Calls Tryz.prog 118 #[v,.func (.func 117) #[] #[]] wx fun e w'=>e=.returned (.bool false)/\Below wx.heap.size wx w'):=fun wx hb=>by
  have:=JlR v q wx (JaK hx hb (nlr _)) (by omega);rwa[ha]at this
 have cI:Hid (∀wx,Below w.heap.size w wx->Calls Tryz.prog 119 #[v,.int .i64 u,.string ⟨S.doc.toArray⟩] wx fun e w'=>∃v',e=.returned (.tuple #[v',errV (tzE (Jam S.doc) u 1 q)])/\opN wx.heap.size w' v' (edO u S q)/\Below wx.heap.size wx w'):=fun wx hb=>by
  have:=JmQ (Jam S.doc) (fun r hr=>JbV hr) hC1 u q v wx hu (Go.Proofs.Utf8Tabs_below hT hb) (JaK hx hb (nlr _)) hwf (fun p hp=>by have:=hpl p hp;omega) (by omega);rwa[hbs]at this
 have h6':¬(60:Int)<(q.length:Int):=by omega
 by_cases ht:tzE (Jam S.doc) u 1 q=0
 case neg =>
  refine same (n:=tzE (Jam S.doc) u 1 q) (by unfold edE;rw[if_neg hm,if_pos ht]) ht ?_;have hV2:errV (tzE (Jam S.doc) u 1 q)=.iface 26 (.int .i64 (tzE (Jam S.doc) u 1 q)):=by unfold errV;rw[if_neg ht]
  rw[hV2]at cI ⊢;generalize tzE (Jam S.doc) u 1 q=E at *;generalize edO u S q=O at *;have CI:=cI;obtain⟨hlo,vm,h3,h4⟩:=h;obtain⟨p,c,rfl⟩:=JbW h4;have H3:=hdz h3;obtain⟨p0,c0,rfl,_⟩:=hx;generalize S.mine.length=n at *;clear cI h3 h4 hm ha hk hu hwf hpl hsz hid hG hT same hV hrs hbs hdl hC1 h6 hV2 ht hlo
  go_enter Tryz.func47,Tryz.ntmps47
  go_wp2_with (first
   | (go_at_call 57;refine Calls.mono CU.out ?_;rintro e w1 ⟨rfl,hb1⟩;have HB1:=hdz hb1;clear hb1)
   | (go_at_call 118;refine(CF.out _ HB1.out).mono ?_;rintro e w2 ⟨rfl,hb2⟩;have HB2:=hdz (HB1.out.trans (hb2.mono HB1.out.size));clear hb2))
  refine wz (fun wx:World=>wx.heap[b]?=some (.cells (Jb2 who u S (.slice p n c)) 203 (0,0))) 15 ((HB2.out.block b hlt).trans H3.out) wzb fun w30 hb30 hz0 G hG=>?_;have hb2A:=HB2.out.trans (hb30.mono HB2.out.size);have y1:∀x,(G x).cell? ⟨b,1,none⟩=some (.int .i64 u):=fun x=>(Ja2 (hG.but x)).2.1;have y5:∀x,(G x).cell? ⟨b,5,none⟩=some (.string ⟨S.doc.toArray⟩):=fun x=>(Ja2 (hG.but x)).2.2.2.2.2.1;(iterate 9 (refine ay hG hz0 fun _ k=>?_;go_simp;apply k;clear k));clear y1 y5;refine JaI (i:=9) (by kernel_rfl) ⟨_,rfl,?_⟩;intro w31 hb31 K hK
  go_simp
  have hb2B:=hb2A.trans (hb31.mono hb2A.size);refine(CI.out w31 hb2B).mono ?_;rintro e w3 ⟨v',rfl,hn3,hb3⟩;obtain⟨p3,c3,rfl⟩:=Jbu hn3;have hz2:w3.heap[b]?=some (.cells (Jb2 who u S (.slice p n c)) 203 (0,0)):=((hb2B.trans (hb3.mono hb2B.size)).block b hlt).trans H3.out;refine⟨_,rfl,hK _ _ (fun _=>hz2) ?_⟩;clear hK K hz0;(iterate 5 (refine ay hG hz2 fun _ k=>?_;go_simp;apply k;clear k));clear hG hz2;refine JaA (by kernel_rfl) ?_;intro w4 hb4;have hb44:=(hb2B.trans (hb3.mono hb2B.size));have HB4:Hid (Below w.heap.size w w4):=hb44.trans (hb4.mono hb44.size);have HN4:Hid (opX lo w4 (.slice p3 O.length c3) O):=Jan (JaG hn3) hb4;clear hb30 hb31 hb3 hb4 hb44 hb2A hb2B hn3;go_wp2;go_ret;exact⟨rfl,HB4.out⟩
 case pos =>
 have g1:=(Jkj hu hk ht).1;rw[ht,show errV 0=.nilIface from rfl]at cI;have hpu:Jal (edO u S q)<=30000:=by
  obtain⟨_,_,e3,e4⟩:=Jkj hu hk ht;obtain⟨hp1,_,_⟩:=JcC e3;rw[e4,JmP q _ fun p hp=>(hp1 p hp).1];have:=JjR q hpl;omega
 have hbd:S.doc.length+Jal (edO u S q)<1000000:=by omega
 have hlens:=(g1.lens hbd).2;have hfl:=(g1.fine hbd).len;have CLn:Hid (∀vv wx,opAt wx vv (edO u S q)->Calls Tryz.prog 120 #[vv] wx fun e w'=>e=.returned (.tuple #[.int .i64 (Jar (edO u S q)).1,.int .i64 ((Jaa (edO u S q) S.doc).length:Int)])/\Below wx.heap.size wx w'):=fun vv wx ho=>by
  have:=Jc0 vv (edO u S q) wx ho hfl;rwa[hlens]at this
 have CAp:Hid (∀vv wx,Below w.heap.size w wx->opAt wx vv (edO u S q)->Calls Tryz.prog 29 #[vv,.string ⟨S.doc.toArray⟩] wx fun e w'=>e=.returned (.tuple #[.string ⟨(Jaa (edO u S q) S.doc).toArray⟩,.nilIface])/\Below wx.heap.size wx w'):=fun vv wx hb ho=>Jie vv _ S.doc wx (Go.Proofs.Utf8Tabs_below hT hb) ho g1 hbd
 by_cases hfu:2000<(Jaa (edO u S q) S.doc).length
 . refine same (n:=12) (by unfold edE;rw[if_neg hm,if_neg (by simpa using ht),if_pos hfu]) (by decide) ?_
   rw[show errV 12=.iface 26 (.int .i64 12) from rfl];have hfi:(2000:Int)<((Jaa (edO u S q) S.doc).length:Int):=by omega
   generalize (Jar (edO u S q)).1=L1 at *;generalize (Jaa (edO u S q) S.doc).length=L2 at *;generalize hOO:edO u S q=O at *;have CI:=cI;obtain⟨hlo,vm,h3,h4⟩:=h;obtain⟨p,c,rfl⟩:=JbW h4;have H3:=hdz h3;obtain⟨p0,c0,rfl,_⟩:=hx;generalize S.mine.length=n at *;clear cI h3 h4 hm ha hk hu hwf hpl hsz hid hG hT same hV hrs hbs hdl hC1 h6 ht hlo g1 hpu hbd hlens hfl hfu CAp hOO
   go_enter Tryz.func47,Tryz.ntmps47
   go_wp2_with (first
    | (go_at_call 57;refine Calls.mono CU.out ?_;rintro e w1 ⟨rfl,hb1⟩;have HB1:=hdz hb1;clear hb1)
    | (go_at_call 118;refine(CF.out _ HB1.out).mono ?_;rintro e w2 ⟨rfl,hb2⟩;have HB2:=hdz (HB1.out.trans (hb2.mono HB1.out.size));clear hb2))
   refine wz (fun wx:World=>wx.heap[b]?=some (.cells (Jb2 who u S (.slice p n c)) 203 (0,0))) 15 ((HB2.out.block b hlt).trans H3.out) wzb fun w30 hb30 hz0 G hG=>?_;have hb2A:=HB2.out.trans (hb30.mono HB2.out.size);have y1:∀x,(G x).cell? ⟨b,1,none⟩=some (.int .i64 u):=fun x=>(Ja2 (hG.but x)).2.1;have y5:∀x,(G x).cell? ⟨b,5,none⟩=some (.string ⟨S.doc.toArray⟩):=fun x=>(Ja2 (hG.but x)).2.2.2.2.2.1;(iterate 9 (refine ay hG hz0 fun _ k=>?_;go_simp;apply k;clear k));clear y1 y5;refine JaI (i:=9) (by kernel_rfl) ⟨_,rfl,?_⟩;intro w31 hb31 K hK
   go_simp
   have hb2B:=hb2A.trans (hb31.mono hb2A.size);refine(CI.out w31 hb2B).mono ?_;rintro e w3 ⟨v',rfl,hn3,hb3⟩;obtain⟨p3,c3,rfl⟩:=Jbu hn3;have hz2:w3.heap[b]?=some (.cells (Jb2 who u S (.slice p n c)) 203 (0,0)):=((hb2B.trans (hb3.mono hb2B.size)).block b hlt).trans H3.out;refine⟨_,rfl,hK _ _ (fun _=>hz2) ?_⟩;clear hK K hz0;(iterate 5 (refine ay hG hz2 fun _ k=>?_;go_simp;apply k;clear k));clear hG hz2;refine JaA (by kernel_rfl) ?_;intro w4 hb4;have hb44:=(hb2B.trans (hb3.mono hb2B.size));have HB4:Hid (Below w.heap.size w w4):=hb44.trans (hb4.mono hb44.size);have HN4:Hid (opX lo w4 (.slice p3 O.length c3) O):=Jan (JaG hn3) hb4;clear hb30 hb31 hb3 hb4 hb44 hb2A hb2B hn3
   go_wp2_with (go_at_call 120;refine(CLn.out _ _ HN4.out.1).mono ?_;rintro e w5 ⟨rfl,hb5⟩;have HB5:=hdz (HB4.out.trans (hb5.mono HB4.out.size));clear hb5)
   go_ret;exact⟨rfl,HB5.out⟩
 . have he0:edE u S q=0:=by unfold edE;rw[if_neg hm,if_neg (by simpa using ht),if_neg hfu]
   have HES:Hid (edS u S q = { S with doc:=Jaa (edO u S q) S.doc,mine:=addM (edO u S q) S.mine,id:=if S.mine=[] then S.id+1 else S.id }):=if_pos he0;have hfi:¬(2000:Int)<((Jaa (edO u S q) S.doc).length:Int):=by omega
   have HQ:Hid (∀m1 m2,S.mine=[m1,m2]->∃t,good m2 t/\good (edO u S q) (Jaa m2 t)/\t.length+Jal m2<1000000/\(Jaa m2 t).length+Jal (edO u S q)<1000000):=fun m1 m2 e=>by
    have hal:=hk.all;have hpt:=hk.puts;have hdc:=hk.doc;rw[e]at hal hpt hdc;have g1':=g1;rw[hdc]at g1';have l1:=Jgz hal.1;have p1:=hpt m1 (by simp);have p2:=hpt m2 (by simp);have e2:allM [m1,m2] S.seen=Jaa m2 (Jaa m1 S.seen):=rfl;rw[e2]at g1';refine⟨Jaa m1 S.seen,hal.2.1,g1',by omega,?_⟩;rw[hdc,e2]at hbd;exact hbd
   have HTW:=hdz hk.two;have HID:=hdz hid;have HT:=hdz hT;have HGG:=hdz hG;rw[he0];generalize (Jar (edO u S q)).1=L1 at *;generalize hTX:Jaa (edO u S q) S.doc=TX at *;generalize hOO:edO u S q=O at *;have CI:=cI;obtain⟨hlo,vm,h3,h4⟩:=h;have HLO:=hdz hlo;obtain⟨p,c,rfl⟩:=JbW h4;obtain⟨n,hn⟩:∃n,S.mine.length=n:=⟨_,rfl⟩;rw[hn]at h3 h4;have H3:=hdz h3;have H4:=hdz h4;obtain⟨p0,c0,rfl,_⟩:=hx;have hne5:∀k,(Value.slice p n c).ownBlock=some k->k≠b:=fun k hk e=>by
    obtain⟨_,_,cs,hc⟩:=Jca H4.out hk;subst e;have:=Jcw H3.out hc;revert this;decide
   have HNE:=hdz hne5;clear cI h3 h4 hm ha hk hu hwf hpl hsz hid hG hT same hV hrs hbs hdl hC1 h6 ht hlo g1 hpu hbd hlens hfl hfu hOO hTX he0 hn hne5
   go_enter Tryz.func47,Tryz.ntmps47
   go_wp2_with (first
    | (go_at_call 57;refine Calls.mono CU.out ?_;rintro e w1 ⟨rfl,hb1⟩;have HB1:=hdz hb1;clear hb1)
    | (go_at_call 118;refine(CF.out _ HB1.out).mono ?_;rintro e w2 ⟨rfl,hb2⟩;have HB2:=hdz (HB1.out.trans (hb2.mono HB1.out.size));clear hb2))
   refine wz (fun wx:World=>wx.heap[b]?=some (.cells (Jb2 who u S (.slice p n c)) 203 (0,0))) 15 ((HB2.out.block b hlt).trans H3.out) wzb fun w30 hb30 hz0 G hG=>?_;have hb2A:=HB2.out.trans (hb30.mono HB2.out.size);have y1:∀x,(G x).cell? ⟨b,1,none⟩=some (.int .i64 u):=fun x=>(Ja2 (hG.but x)).2.1;have y5:∀x,(G x).cell? ⟨b,5,none⟩=some (.string ⟨S.doc.toArray⟩):=fun x=>(Ja2 (hG.but x)).2.2.2.2.2.1;(iterate 9 (refine ay hG hz0 fun _ k=>?_;go_simp;apply k;clear k));clear y1 y5;refine JaI (i:=9) (by kernel_rfl) ⟨_,rfl,?_⟩;intro w31 hb31 K hK
   go_simp
   have hb2B:=hb2A.trans (hb31.mono hb2A.size);refine(CI.out w31 hb2B).mono ?_;rintro e w3 ⟨v',rfl,hn3,hb3⟩;obtain⟨p3,c3,rfl⟩:=Jbu hn3;have hz2:w3.heap[b]?=some (.cells (Jb2 who u S (.slice p n c)) 203 (0,0)):=((hb2B.trans (hb3.mono hb2B.size)).block b hlt).trans H3.out;refine⟨_,rfl,hK _ _ (fun _=>hz2) ?_⟩;clear hK K hz0;(iterate 5 (refine ay hG hz2 fun _ k=>?_;go_simp;apply k;clear k));clear hG hz2;refine JaA (by kernel_rfl) ?_;intro w4 hb4;have hb44:=(hb2B.trans (hb3.mono hb2B.size));have HB4:Hid (Below w.heap.size w w4):=hb44.trans (hb4.mono hb44.size);have HN4:Hid (opX lo w4 (.slice p3 O.length c3) O):=Jan (JaG hn3) hb4;clear hb30 hb31 hb3 hb4 hb44 hb2A hb2B hn3;have h4k:=(HB4.out.block b hlt).trans H3.out;have HBK4:=hdz h4k;have hl4:b<w4.heap.size:=(alt h4k);have t5:=(Ja2 h4k).2.2.2.2.2.1;clear h4k
   go_wp2_with (first
    | (go_at_call 120;refine(CLn.out _ _ HN4.out.1).mono ?_;rintro e w5 ⟨rfl,hb5⟩;have HB5:=hdz hb5;have t5':=(hb5.cell (p:=⟨b,5,none⟩) hl4).trans t5;clear hb5)
    | (go_at_call 29;refine(CAp.out _ _ (HB4.out.trans (HB5.out.mono HB4.out.size)) (Jan HN4.out HB5.out).1).mono ?_;rintro e w6 ⟨rfl,hb6⟩;have hb46:=HB5.out.trans (hb6.mono HB5.out.size);have HB6:=hdz hb46;have hk6:=(hb46.block b hl4).trans HBK4.out;have HBK6:=hdz hk6;have t6:=(Ja2 hk6).2.2.2.2.2.1;have f6:=fz hk6 5;clear hb6 hb46 hk6)
    | (go_at_call 9999))
   have hbw6:=HB4.out.trans (HB6.out.mono HB4.out.size);have b1:=heap_setCell_same w6 b 5 _ _ (.string ⟨TX.toArray⟩) HBK6.out;have hs1:sameBut w6 (w6.setCell ⟨b,5,none⟩ (.string ⟨TX.toArray⟩)) (fun k=>k=b):=Jaj (S:=fun k=>k=b) rfl;obtain⟨hc1,hk1⟩:=Jen (S':={ S with doc:=TX }) HLO.out H3.out b1 (JcX (JbL H4.out hbw6) hs1 (fun j _ hj=>by obtain rfl:=hj;exact⟨HLO.out,JaP HBK6.out (by decide)⟩) fun j hj e=>HNE.out j hj e) (((Jai hbw6 _).comp hs1 fun j _ e=>.inl e)) fun j hj=>.inl hj;have hT6:Lib.Utf8Tabs 2 3 (w6.setCell ⟨b,5,none⟩ (.string ⟨TX.toArray⟩)):=JfS (Go.Proofs.Utf8Tabs_below HT.out hbw6) hs1 (fun e=>by have:=HLO.out;have:=HGG.out.1;omega) (fun e=>by have:=HLO.out;have:=HGG.out.2;omega);have hx6:opX lo (w6.setCell ⟨b,5,none⟩ (.string ⟨TX.toArray⟩)) (.slice p3 O.length c3) O:=Jbb (Jan HN4.out HB6.out) hs1 fun j _ hj=>by obtain rfl:=hj;exact⟨HLO.out,JaP HBK6.out (by decide)⟩
   refine(Jng hc1 _ O hx6 hT6 HTW.out HID.out HQ.out).mono ?_;rintro e w7 ⟨rfl,hc7,hk7⟩;have HFIN:Hid (isCl lo w7 b who u (edS u S q)/\keptC w w7 b):=by
    show _/\_;rw[HES.out];exact⟨hc7,hk1.trans hk7⟩
   clear hc7 hk7 hc1 hk1 hs1 b1 hT6 hx6 hbw6;go_wp2;go_ret;exact⟨rfl,HFIN.out⟩
end
section
open Go.RowKit Go.Maps
attribute [local go_sem] Oper.semAt_some Ja7 Jbe
variable {lo b β : Nat}{who u c i : Int}{S : Cl}{VM v vm : Value}{x : List Pt}{w : World}
structure ZT (lo b β:Nat) (who u c i:Int) (S:Cl) (VM v:Value) (x:List Pt) (wx:World):Prop where
 low:lo<=b
 blk:wx.heap[b]?=some (.cells (Jb2 who u S VM) 203 (0,0))
 mine:JcA lo wx VM S.mine
 box:wx.heap[β]?=some (.cells #[.int .i64 c,.int .i64 i,v] 105 (0,0))
 tabs:Lib.Utf8Tabs 2 3 wx
 op:opX lo wx v x
theorem ZT.grow{w':World}(h:ZT lo b β who u c i S VM v x w)(hb:Below w.heap.size w w'):ZT lo b β who u c i S VM v x w' :=
 ⟨h.low,(hb.block b (alt h.blk)).trans h.blk,JbL h.mine hb,(hb.block β (alt h.box)).trans h.box,Go.Proofs.Utf8Tabs_below h.tabs hb,Jan h.op hb⟩
theorem ZT.cl(h:ZT lo b β who u c i S VM v x w):isCl lo w b who u S:=⟨h.low,VM,h.blk,h.mine⟩
theorem JfM(hlo:lo<=b)(h3:w.heap[b]?=some (.cells (Jb2 who u S vm) 203 (0,0)))(h4:JcA lo w vm S.mine)(hT:Lib.Utf8Tabs 2 3 w)(hx:opX lo w v x) :
    ZT lo b w.heap.size who u c i S vm v x (w.alloc (.cells #[.int .i64 c,.int .i64 i,v] 105)):=by
 have hb:Below w.heap.size w (w.alloc (.cells #[.int .i64 c,.int .i64 i,v] 105)):=(brf _ _).alloc (nlr _) _;exact⟨hlo,(hb.block b (alt h3)).trans h3,JbL h4 hb,heap_alloc_new _ _,Go.Proofs.Utf8Tabs_below hT hb,Jan hx hb⟩
theorem Jtz(h:isCl lo w b who u S)(t:List UInt8)(r:Int) :
    isCl lo ((w.setCell ⟨b,3,none⟩ (.string ⟨t.toArray⟩)).setCell ⟨b,2,none⟩ (.int .i64 r)) b who u { S with seen:=t,rev:=r }/\keptC w ((w.setCell ⟨b,3,none⟩ (.string ⟨t.toArray⟩)).setCell ⟨b,2,none⟩ (.int .i64 r)) b:=by
 obtain⟨hlo,vm,h3,h4⟩:=h;have b1:=heap_setCell_same w b 3 _ _ (.string ⟨t.toArray⟩) h3;have b2:=heap_setCell_same _ b 2 _ _ (.int .i64 r) b1;have hs:sameBut w ((w.setCell ⟨b,3,none⟩ (.string ⟨t.toArray⟩)).setCell ⟨b,2,none⟩ (.int .i64 r)) (fun k=>k=b):=(Jaj (S:=fun k=>k=b) rfl).trans (Jaj (S:=fun k=>k=b) rfl);refine Jen hlo h3 b2 (JcX h4 hs (fun k _ hk=>by obtain rfl:=hk;exact⟨hlo,JaP h3 (by decide)⟩) fun k hk e=>?_) (hs.mono fun k _ e=>.inl e) fun k hk=>.inl hk;obtain⟨_,_,cs,hc⟩:=Jca h4 hk;subst e;have:=Jcw h3 hc;revert this;decide
theorem Jpj(h:isCl lo w b who u S)(hm:S.mine≠[])(htw:S.mine.length<=2)(hid:0<=S.id/\S.id<=1000000) :
    Calls Tryz.prog 123 #[.pointer (some ⟨b,0,none⟩)] w fun e w'=>e=.returned (.tuple #[])/\isCl lo w' b who u { S with mine:=S.mine.tail,id:=if S.mine.tail≠[] then S.id+1 else S.id }/\keptC w w' b:=by
 rcases hm':S.mine with _|⟨m1,_|⟨m2,_|⟨m3,ms⟩⟩⟩
 . exact absurd hm' hm
 . have:=clLand1 h hm'
   rw[List.tail_cons,if_neg (by simp)];exact this
 . rw[List.tail_cons,if_pos (by simp)]
   exact clLand2 h hm' hid
 . rw[hm']at htw;simp at htw
theorem Jpb(h:isCl lo w b who u S)(hu:Jaz u)(rev c i:Int)(v:Value)(x:List Pt)(hx:opX lo w v x)(hT:Lib.Utf8Tabs 2 3 w)(hr:rev≠S.rev) :
    Calls Tryz.prog 49 #[.pointer (some ⟨b,0,none⟩),.int .i64 rev,.agg #[.int .i64 c,.int .i64 i,v]] w fun e w'=>e=.returned .nilIface/\Below w.heap.size w w':=by
 have hu0:(u==0)=false:=by rcases hu with rfl|rfl|rfl<;>rfl
 obtain⟨hlo,VM,h3,h4⟩:=h;obtain⟨pv,cv,rfl⟩:=Ja0 hx;generalize hxn:x.length=xn at *;have H0:Hid _:=JfM (c:=c) (i:=i) hlo h3 h4 hT hx;have CU:Hid (∀wx,ZT lo b w.heap.size who u c i S VM (.slice pv xn cv) x wx->Calls Tryz.prog 57 #[.pointer (some ⟨b,0,none⟩)] wx fun e w'=>e=.returned (.int .i64 u)/\Below wx.heap.size wx w'):=fun wx hz=>JcB hz.cl;have hr1:(rev==S.rev)=false:=beq_eq_false_iff_ne.2 hr;have hr2:¬rev=S.rev:=hr;clear h3 h4 hx hT hu hlo hr hxn
 . skip
   go_enter Tryz.func49,Tryz.ntmps49
   go_wp2_with (go_at_call 57;refine(CU.out _ H0.out).mono ?_;rintro e w1 ⟨rfl,hb1⟩;have HZ1:=hdz (ZT.grow H0.out hb1);have HZ1B:Hid (Below w.heap.size w w1):=((brf _ _).alloc (nlr _) _).trans (hb1.mono (by rw[wsa];omega));have q2:w1.cell? ⟨b,2,none⟩=some (.int .i64 S.rev):=(Ja2 HZ1.out.blk).2.2.1;clear hb1)
   go_ret;exact⟨rfl,HZ1B.out⟩
theorem Jpd(h:isCl lo w b who u S)(hu:Jaz u)(c i:Int)(v:Value)(x:List Pt)(hx:opX lo w v x)(hwf:∀p∈x,wfP p)(hpu:Jal x<=400000)(hl:x.length<=1000000)(hsz:S.seen.length<=100000)(hT:Lib.Utf8Tabs 2 3 w)(ho:ordE x S.seen≠0) :
    Calls Tryz.prog 49 #[.pointer (some ⟨b,0,none⟩),.int .i64 S.rev,.agg #[.int .i64 c,.int .i64 i,v]] w fun e w'=>e=.returned (.iface 26 (.int .i64 15))/\Below w.heap.size w w':=by
 have hu0:(u==0)=false:=by rcases hu with rfl|rfl|rfl<;>rfl
 obtain⟨hlo,VM,h3,h4⟩:=h;obtain⟨pv,cv,rfl⟩:=Ja0 hx;have H0:Hid _:=JfM (c:=c) (i:=i) hlo h3 h4 hT hx;have CU:Hid (∀wx,ZT lo b w.heap.size who u c i S VM (.slice pv x.length cv) x wx->Calls Tryz.prog 57 #[.pointer (some ⟨b,0,none⟩)] wx fun e w'=>e=.returned (.int .i64 u)/\Below wx.heap.size wx w'):=fun wx hz=>JcB hz.cl;have CA:Hid (∀wx,ZT lo b w.heap.size who u c i S VM (.slice pv x.length cv) x wx->Calls Tryz.prog 29 #[.slice pv x.length cv,.string ⟨S.seen.toArray⟩] wx fun e w'=>e=.returned (.tuple #[.string ⟨(if ordE x S.seen=0 then Jaa x S.seen else []).toArray⟩,errV (ordE x S.seen)])/\Below wx.heap.size wx w'):=fun wx hz=>Jmo _ x S.seen wx hz.tabs hz.op.1 hwf (by omega) (by omega) (by omega);have hV:errV (ordE x S.seen)=.iface 26 (.int .i64 (ordE x S.seen)):=by unfold errV;rw[if_neg ho]
 rw[if_neg ho,hV]at CA;generalize hxn:x.length=xn at *;generalize ordE x S.seen=E at *;clear h3 h4 hx hT hu hlo hxn hwf hpu hl hsz hV ho
 . skip
   go_enter Tryz.func49,Tryz.ntmps49
   go_wp2_with (go_at_call 57;refine(CU.out _ H0.out).mono ?_;rintro e w1 ⟨rfl,hb1⟩;have HZ1:=hdz (ZT.grow H0.out hb1);have HZ1B:Hid (Below w.heap.size w w1):=((brf _ _).alloc (nlr _) _).trans (hb1.mono (by rw[wsa];omega));have q2:w1.cell? ⟨b,2,none⟩=some (.int .i64 S.rev):=(Ja2 HZ1.out.blk).2.2.1;clear hb1)
   refine wz (fun wx:World=>ZT lo b w.heap.size who u c i S VM (.slice pv xn cv) x wx) 12 HZ1.out ZT.grow fun w5 hb5 hz5 G hG=>?_;have e2:∀y,(G y).cell? ⟨w.heap.size,2,none⟩=some (.slice pv xn cv):=fun y=>chp (hG.but y).box 2;have y3:∀y,(G y).cell? ⟨b,3,none⟩=some (.string ⟨S.seen.toArray⟩):=fun y=>(Ja2 (hG.but y).blk).2.2.2.1;(iterate 6 (refine ay hG hz5 fun _ k=>?_;go_simp;apply k;clear k))
   (refine ay hG hz5 fun K hK=>?_;go_simp;apply Exists.intro;refine⟨fun _=>?_,hK _ ?_⟩;exact CA.out _ (hG.but _);clear hK K)
   (iterate 5 (refine ay hG hz5 fun _ k=>?_;go_simp;apply k;clear k));clear e2 y3 hG;refine JaA (by kernel_rfl) ?_;intro v5 hv5;have HB5:Hid (Below w.heap.size w v5):=HZ1B.out.trans ((hb5.trans (hv5.mono hb5.size)).mono HZ1B.out.size);clear hb5 hv5 hz5;go_wp2;go_ret;exact⟨rfl,HB5.out⟩
theorem JhY{ms:List (List Pt)}(h:JcA lo w vm ms)(hm:ms≠[]):∃g c p0 k0 c0,vm=.slice (some ⟨g,0,none⟩) ms.length c/\(ms.length<=c/\c<=maxLen)/\g<w.heap.size/\w.cell? ⟨g,0,none⟩=some (.slice p0 k0 c0)/\opX lo w (.slice p0 k0 c0) (ms.headD []):=by
 obtain⟨g,c,rfl⟩:=JjZ h hm;obtain⟨_,hg,_⟩:=Jca h (k:=g) rfl;obtain⟨vs,q1,q2,q3⟩:=h;have hcn:ms.length<=c/\c<=maxLen:=by
  rcases q2.2 with ⟨e,_⟩|⟨g',cap,cur,e,_,_,e5,e6,_⟩
  . cases e
  . injection e with _ _ e;subst e;exact⟨e5,e6⟩
 rcases ms with _|⟨m,ms⟩
 . exact absurd rfl hm
 rcases vs with _|⟨y,vs⟩
 . simp at q1
 have hy:=q3 0 m y rfl rfl;obtain⟨p0,c0,rfl⟩:=Ja0 hy;refine⟨g,c,p0,m.length,c0,rfl,hcn,hg,?_,hy⟩;rw[World.ownsRow.cellAt q2 0 (by simp)];rfl
structure ZO (lo b β:Nat) (who u c i:Int) (S:Cl) (VM v:Value) (x:List Pt) (g:Nat) (p0:Option Addr) (k0 c0:Nat) (m0:List Pt) (wx:World):Prop where
 zt:ZT lo b β who u c i S VM v x wx
 lt:g<wx.heap.size
 cel:wx.cell? ⟨g,0,none⟩=some (.slice p0 k0 c0)
 op0:opX lo wx (.slice p0 k0 c0) m0
theorem ZO.grow{lo b β:Nat}{who u c i:Int}{S:Cl}{VM v:Value}{x:List Pt}{g:Nat}{p0:Option Addr}{k0 c0:Nat}{m0:List Pt}{w w':World}(h:ZO lo b β who u c i S VM v x g p0 k0 c0 m0 w)(hb:Below w.heap.size w w'):ZO lo b β who u c i S VM v x g p0 k0 c0 m0 w' :=
 ⟨h.zt.grow hb,Nat.lt_of_lt_of_le h.lt hb.size,(hb.cell (p:=⟨g,0,none⟩) h.lt).trans h.cel,Jan h.op0 hb⟩
theorem Jnf(h:isCl lo w b who u S)(hk:okK 2000 S)(hu:Jaz u)(v:Value)(x:List Pt)(hx:opX lo w v x)(hsz:S.seen.length+Jal x<=500000)(hid:0<=S.id/\S.id<=1000000)(hrv:0<=S.rev/\S.rev<=1000000)(hG:2<lo/\3<lo)(hT:Lib.Utf8Tabs 2 3 w)(ho:ordE x S.seen=0)(hm:S.mine≠[])(hd:Jaa (JbP S) S.seen≠Jaa x S.seen) :
    Calls Tryz.prog 49 #[.pointer (some ⟨b,0,none⟩),.int .i64 S.rev,.agg #[.int .i64 who,.int .i64 S.id,v]] w fun e w'=>e=.returned (.iface 26 (.int .i64 15))/\Below w.heap.size w w':=by
 have hu0:(u==0)=false:=by rcases hu with rfl|rfl|rfl<;>rfl
 have hlt:=Jc5 h;obtain⟨hlo,VM,h3,h4⟩:=h;obtain⟨g,cc,p0,k0,c0,rfl,⟨hcn,hcm⟩,hgl,hce,hop⟩:=JhY h4 hm;unfold maxLen at hcm;obtain⟨pv,cv,rfl⟩:=Ja0 hx;have hgx:=Jbs hk.text ho;obtain⟨hg0,hp0⟩:=Jdh hk hm;obtain⟨m0,hm0⟩:∃m0,JbP S=m0:=⟨_,rfl⟩;have hop:opX lo w (.slice p0 k0 c0) m0:=by rw[←hm0];exact hop
 have hb0:Below w.heap.size w (w.alloc (.cells #[.int .i64 who,.int .i64 S.id,.slice pv x.length cv] 105)):=(brf _ _).alloc (nlr _) _;have H0:Hid _:=(⟨JfM (c:=who) (i:=S.id) hlo h3 h4 hT hx,Nat.lt_of_lt_of_le hgl hb0.size,(hb0.cell (p:=⟨g,0,none⟩) hgl).trans hce,Jan hop hb0⟩:ZO lo b w.heap.size who u who S.id S (.slice (some ⟨g,0,none⟩) S.mine.length cc) (.slice pv x.length cv) x g p0 k0 c0 m0 _);have CU:Hid (∀wx,ZO lo b w.heap.size who u who S.id S (.slice (some ⟨g,0,none⟩) S.mine.length cc) (.slice pv x.length cv) x g p0 k0 c0 m0 wx->Calls Tryz.prog 57 #[.pointer (some ⟨b,0,none⟩)] wx fun e w'=>e=.returned (.int .i64 u)/\Below wx.heap.size wx w'):=fun wx hz=>JcB hz.zt.cl;have CA:Hid (∀wx,ZO lo b w.heap.size who u who S.id S (.slice (some ⟨g,0,none⟩) S.mine.length cc) (.slice pv x.length cv) x g p0 k0 c0 m0 wx->Calls Tryz.prog 29 #[.slice pv x.length cv,.string ⟨S.seen.toArray⟩] wx fun e w'=>e=.returned (.tuple #[.string ⟨(Jaa x S.seen).toArray⟩,.nilIface])/\Below wx.heap.size wx w'):=fun wx hz=>Jie _ x S.seen wx hz.zt.tabs hz.zt.op.1 hgx (by omega);have CM:Hid (∀wx,ZO lo b w.heap.size who u who S.id S (.slice (some ⟨g,0,none⟩) S.mine.length cc) (.slice pv x.length cv) x g p0 k0 c0 m0 wx->Calls Tryz.prog 29 #[.slice p0 k0 c0,.string ⟨S.seen.toArray⟩] wx fun e w'=>e=.returned (.tuple #[.string ⟨(Jaa m0 S.seen).toArray⟩,.nilIface])/\Below wx.heap.size wx w'):=fun wx hz=>Jie _ m0 S.seen wx hz.zt.tabs hz.op0.1 (by rw[←hm0];exact hg0) (by rw[←hm0];omega);have CP:Hid (∀wx,ZO lo b w.heap.size who u who S.id S (.slice (some ⟨g,0,none⟩) S.mine.length cc) (.slice pv x.length cv) x g p0 k0 c0 m0 wx->Calls Tryz.prog 58 #[.pointer (some ⟨b,0,none⟩)] wx fun e w'=>e=.returned (.bool true)/\Below wx.heap.size wx w'):=fun wx hz=>by
  have:=Jb8 hz.zt.cl;rwa[decide_eq_true (List.length_pos_iff.2 hm)]at this
 have hmi:(0:Int)<(S.mine.length:Int):=by have:=List.length_pos_iff.2 hm;omega
 have hmn:=List.length_pos_iff.2 hm;have hrv1:wrap64 (S.rev+1)=S.rev+1:=Jax (by omega) (by omega);rw[hm0]at hd;generalize Jaa m0 S.seen=tm at *;generalize Jaa x S.seen=tx at *;have hd1:(tm==tx)=false:=beq_eq_false_iff_ne.2 hd;obtain⟨n,hn⟩:∃n,S.mine.length=n:=⟨_,rfl⟩;rw[hn]at hcn hmi hmn H0 CU CA CM CP;generalize hxn:x.length=xn at *;obtain⟨hr0,hr1⟩:=hrv;clear h3 h4 hx hT hu hlo hxn hsz ho hgx hg0 hp0 hk hm hm0 hop hce hgl hb0 hid hG hn
 . skip
   go_enter Tryz.func49,Tryz.ntmps49
   go_wp2_with (go_at_call 57;refine(CU.out _ H0.out).mono ?_;rintro e w1 ⟨rfl,hb1⟩;have HZ1:=hdz (ZO.grow H0.out hb1);have HZ1B:Hid (Below w.heap.size w w1):=((brf _ _).alloc (nlr _) _).trans (hb1.mono (by rw[wsa];omega));have q2:w1.cell? ⟨b,2,none⟩=some (.int .i64 S.rev):=(Ja2 HZ1.out.zt.blk).2.2.1;clear hb1)
   refine wz (fun wx:World=>ZO lo b w.heap.size who u who S.id S (.slice (some ⟨g,0,none⟩) n cc) (.slice pv xn cv) x g p0 k0 c0 m0 wx) 12 HZ1.out ZO.grow fun w5 hb5 hz5 G hG=>?_;have e2:∀y,(G y).cell? ⟨w.heap.size,2,none⟩=some (.slice pv xn cv):=fun y=>chp (hG.but y).zt.box 2;have y3:∀y,(G y).cell? ⟨b,3,none⟩=some (.string ⟨S.seen.toArray⟩):=fun y=>(Ja2 (hG.but y).zt.blk).2.2.2.1;(iterate 6 (refine ay hG hz5 fun _ k=>?_;go_simp;apply k;clear k))
   (refine ay hG hz5 fun K hK=>?_;go_simp;apply Exists.intro;refine⟨fun _=>?_,hK _ ?_⟩;exact CA.out _ (hG.but _);clear hK K)
   (iterate 5 (refine ay hG hz5 fun _ k=>?_;go_simp;apply k;clear k));clear e2 y3 hG;refine JaA (by kernel_rfl) ?_;intro v5 hv5;have HZ5:=hdz (ZO.grow hz5 hv5);have HB5:Hid (Below w.heap.size w v5):=HZ1B.out.trans ((hb5.trans (hv5.mono hb5.size)).mono HZ1B.out.size);have HZ5B:=hdz HB5;clear hb5 hv5 hz5;go_wp2;refine wz (fun wx:World=>ZO lo b w.heap.size who u who S.id S (.slice (some ⟨g,0,none⟩) n cc) (.slice pv xn cv) x g p0 k0 c0 m0 wx) 20 HZ5.out ZO.grow fun w8 hb8 hz8 G hG=>?_;have e0:∀y,(G y).cell? ⟨w.heap.size,0,none⟩=some (.int .i64 who):=fun y=>chp (hG.but y).zt.box 0;have e1:∀y,(G y).cell? ⟨w.heap.size,1,none⟩=some (.int .i64 S.id):=fun y=>chp (hG.but y).zt.box 1;have y0:∀y,(G y).cell? ⟨b,0,none⟩=some (.int .i64 who):=fun y=>(Ja2 (hG.but y).zt.blk).1;have y6:∀y,(G y).cell? ⟨b,6,none⟩=some (.int .i64 S.id):=fun y=>(Ja2 (hG.but y).zt.blk).2.2.2.2.2.2.1;refine ay hG hz8 fun _ k=>?_;go_simp;apply k;clear k
   (refine ay hG hz8 fun K hK=>?_;go_simp;apply Exists.intro;refine⟨fun _=>?_,hK _ ?_⟩;exact CP.out _ (hG.but _);clear hK K)
   (iterate 18 (refine ay hG hz8 fun _ k=>?_;go_simp;apply k;clear k));clear e0 e1 y0 y6 hG;refine JaA (by kernel_rfl) ?_;intro v8 hv8;have HZ8:=hdz (ZO.grow hz8 hv8);have HB8:Hid (Below w.heap.size w v8):=HZ5B.out.trans ((hb8.trans (hv8.mono hb8.size)).mono HZ5B.out.size);have HZ8B:=hdz HB8;clear hb8 hv8 hz8;go_wp2;refine wz (fun wx:World=>ZO lo b w.heap.size who u who S.id S (.slice (some ⟨g,0,none⟩) n cc) (.slice pv xn cv) x g p0 k0 c0 m0 wx) 16 HZ8.out ZO.grow fun w9 hb9 hz9 G hG=>?_;have y3:∀y,(G y).cell? ⟨b,3,none⟩=some (.string ⟨S.seen.toArray⟩):=fun y=>(Ja2 (hG.but y).zt.blk).2.2.2.1;have y4:∀y,(G y).cell? ⟨b,4,none⟩=some (.slice (some ⟨g,0,none⟩) n cc):=fun y=>(Ja2 (hG.but y).zt.blk).2.2.2.2.1;have yg:∀y,(G y).cell? ⟨g,0,none⟩=some (.slice p0 k0 c0):=fun y=>(hG.but y).cel;(iterate 10 (refine ay hG hz9 fun _ k=>?_;go_simp;apply k;clear k))
   (refine ay hG hz9 fun K hK=>?_;go_simp;apply Exists.intro;refine⟨fun _=>?_,hK _ ?_⟩;exact CM.out _ (hG.but _);clear hK K)
   (iterate 5 (refine ay hG hz9 fun _ k=>?_;go_simp;apply k;clear k));clear y3 y4 yg hG;refine JaA (by kernel_rfl) ?_;intro v9 hv9;have HB9:Hid (Below w.heap.size w v9):=HZ8B.out.trans ((hb9.trans (hv9.mono hb9.size)).mono HZ8B.out.size);clear hb9 hv9 hz9;go_wp2;go_ret;exact⟨rfl,HB9.out⟩
theorem Jpc(h:isCl lo w b who u S)(hk:okK 2000 S)(hu:Jaz u)(v:Value)(x:List Pt)(hx:opX lo w v x)(hsz:S.seen.length+Jal x<=500000)(hid:0<=S.id/\S.id<=1000000)(hrv:0<=S.rev/\S.rev<=1000000)(hG:2<lo/\3<lo)(hT:Lib.Utf8Tabs 2 3 w)(ho:ordE x S.seen=0)(hm:S.mine≠[])(hd:Jaa (JbP S) S.seen=Jaa x S.seen) :
    Calls Tryz.prog 49 #[.pointer (some ⟨b,0,none⟩),.int .i64 S.rev,.agg #[.int .i64 who,.int .i64 S.id,v]] w fun e w'=>e=.returned .nilIface/\isCl lo w' b who u { S with seen:=Jaa x S.seen,rev:=S.rev+1,mine:=S.mine.tail,id:=if S.mine.tail≠[] then S.id+1 else S.id }/\keptC w w' b:=by
 have hu0:(u==0)=false:=by rcases hu with rfl|rfl|rfl<;>rfl
 have hlt:=Jc5 h;obtain⟨hlo,VM,h3,h4⟩:=h;obtain⟨g,cc,p0,k0,c0,rfl,⟨hcn,hcm⟩,hgl,hce,hop⟩:=JhY h4 hm;unfold maxLen at hcm;obtain⟨pv,cv,rfl⟩:=Ja0 hx;have hgx:=Jbs hk.text ho;obtain⟨hg0,hp0⟩:=Jdh hk hm;obtain⟨m0,hm0⟩:∃m0,JbP S=m0:=⟨_,rfl⟩;have hop:opX lo w (.slice p0 k0 c0) m0:=by rw[←hm0];exact hop
 have hb0:Below w.heap.size w (w.alloc (.cells #[.int .i64 who,.int .i64 S.id,.slice pv x.length cv] 105)):=(brf _ _).alloc (nlr _) _;have H0:Hid _:=(⟨JfM (c:=who) (i:=S.id) hlo h3 h4 hT hx,Nat.lt_of_lt_of_le hgl hb0.size,(hb0.cell (p:=⟨g,0,none⟩) hgl).trans hce,Jan hop hb0⟩:ZO lo b w.heap.size who u who S.id S (.slice (some ⟨g,0,none⟩) S.mine.length cc) (.slice pv x.length cv) x g p0 k0 c0 m0 _);have CU:Hid (∀wx,ZO lo b w.heap.size who u who S.id S (.slice (some ⟨g,0,none⟩) S.mine.length cc) (.slice pv x.length cv) x g p0 k0 c0 m0 wx->Calls Tryz.prog 57 #[.pointer (some ⟨b,0,none⟩)] wx fun e w'=>e=.returned (.int .i64 u)/\Below wx.heap.size wx w'):=fun wx hz=>JcB hz.zt.cl;have CA:Hid (∀wx,ZO lo b w.heap.size who u who S.id S (.slice (some ⟨g,0,none⟩) S.mine.length cc) (.slice pv x.length cv) x g p0 k0 c0 m0 wx->Calls Tryz.prog 29 #[.slice pv x.length cv,.string ⟨S.seen.toArray⟩] wx fun e w'=>e=.returned (.tuple #[.string ⟨(Jaa x S.seen).toArray⟩,.nilIface])/\Below wx.heap.size wx w'):=fun wx hz=>Jie _ x S.seen wx hz.zt.tabs hz.zt.op.1 hgx (by omega);have CM:Hid (∀wx,ZO lo b w.heap.size who u who S.id S (.slice (some ⟨g,0,none⟩) S.mine.length cc) (.slice pv x.length cv) x g p0 k0 c0 m0 wx->Calls Tryz.prog 29 #[.slice p0 k0 c0,.string ⟨S.seen.toArray⟩] wx fun e w'=>e=.returned (.tuple #[.string ⟨(Jaa m0 S.seen).toArray⟩,.nilIface])/\Below wx.heap.size wx w'):=fun wx hz=>Jie _ m0 S.seen wx hz.zt.tabs hz.op0.1 (by rw[←hm0];exact hg0) (by rw[←hm0];omega);have CP:Hid (∀wx,ZO lo b w.heap.size who u who S.id S (.slice (some ⟨g,0,none⟩) S.mine.length cc) (.slice pv x.length cv) x g p0 k0 c0 m0 wx->Calls Tryz.prog 58 #[.pointer (some ⟨b,0,none⟩)] wx fun e w'=>e=.returned (.bool true)/\Below wx.heap.size wx w'):=fun wx hz=>by
  have:=Jb8 hz.zt.cl;rwa[decide_eq_true (List.length_pos_iff.2 hm)]at this
 have hmi:(0:Int)<(S.mine.length:Int):=by have:=List.length_pos_iff.2 hm;omega
 have hmn:=List.length_pos_iff.2 hm;have HM:=hdz hm;have HTW:=hdz hk.two;have HID:=hdz hid;have hrv1:wrap64 (S.rev+1)=S.rev+1:=Jax (by omega) (by omega);rw[hm0]at hd;rw[hd]at CM;clear hd;generalize Jaa x S.seen=tx at *;obtain⟨S2,hS2⟩:∃S2,({ S with seen:=tx,rev:=S.rev+1,mine:=S.mine.tail,id:=if S.mine.tail≠[] then S.id+1 else S.id }:Cl)=S2:=⟨_,rfl⟩;rw[hS2];have HS2:=hdz hS2;clear hS2;obtain⟨n,hn⟩:∃n,S.mine.length=n:=⟨_,rfl⟩;rw[hn]at hcn hmi hmn H0 CU CA CM CP;generalize hxn:x.length=xn at *;obtain⟨hr0,hr1⟩:=hrv;clear h3 h4 hx hT hu hlo hxn hsz ho hgx hg0 hp0 hk hm hm0 hop hce hgl hb0 hid hG hn
 . skip
   go_enter Tryz.func49,Tryz.ntmps49
   go_wp2_with (go_at_call 57;refine(CU.out _ H0.out).mono ?_;rintro e w1 ⟨rfl,hb1⟩;have HZ1:=hdz (ZO.grow H0.out hb1);have HZ1B:Hid (Below w.heap.size w w1):=((brf _ _).alloc (nlr _) _).trans (hb1.mono (by rw[wsa];omega));have q2:w1.cell? ⟨b,2,none⟩=some (.int .i64 S.rev):=(Ja2 HZ1.out.zt.blk).2.2.1;clear hb1)
   refine wz (fun wx:World=>ZO lo b w.heap.size who u who S.id S (.slice (some ⟨g,0,none⟩) n cc) (.slice pv xn cv) x g p0 k0 c0 m0 wx) 12 HZ1.out ZO.grow fun w5 hb5 hz5 G hG=>?_;have e2:∀y,(G y).cell? ⟨w.heap.size,2,none⟩=some (.slice pv xn cv):=fun y=>chp (hG.but y).zt.box 2;have y3:∀y,(G y).cell? ⟨b,3,none⟩=some (.string ⟨S.seen.toArray⟩):=fun y=>(Ja2 (hG.but y).zt.blk).2.2.2.1;(iterate 6 (refine ay hG hz5 fun _ k=>?_;go_simp;apply k;clear k))
   (refine ay hG hz5 fun K hK=>?_;go_simp;apply Exists.intro;refine⟨fun _=>?_,hK _ ?_⟩;exact CA.out _ (hG.but _);clear hK K)
   (iterate 5 (refine ay hG hz5 fun _ k=>?_;go_simp;apply k;clear k));clear e2 y3 hG;refine JaA (by kernel_rfl) ?_;intro v5 hv5;have HZ5:=hdz (ZO.grow hz5 hv5);have HB5:Hid (Below w.heap.size w v5):=HZ1B.out.trans ((hb5.trans (hv5.mono hb5.size)).mono HZ1B.out.size);have HZ5B:=hdz HB5;clear hb5 hv5 hz5;go_wp2;refine wz (fun wx:World=>ZO lo b w.heap.size who u who S.id S (.slice (some ⟨g,0,none⟩) n cc) (.slice pv xn cv) x g p0 k0 c0 m0 wx) 20 HZ5.out ZO.grow fun w8 hb8 hz8 G hG=>?_;have e0:∀y,(G y).cell? ⟨w.heap.size,0,none⟩=some (.int .i64 who):=fun y=>chp (hG.but y).zt.box 0;have e1:∀y,(G y).cell? ⟨w.heap.size,1,none⟩=some (.int .i64 S.id):=fun y=>chp (hG.but y).zt.box 1;have y0:∀y,(G y).cell? ⟨b,0,none⟩=some (.int .i64 who):=fun y=>(Ja2 (hG.but y).zt.blk).1;have y6:∀y,(G y).cell? ⟨b,6,none⟩=some (.int .i64 S.id):=fun y=>(Ja2 (hG.but y).zt.blk).2.2.2.2.2.2.1;refine ay hG hz8 fun _ k=>?_;go_simp;apply k;clear k
   (refine ay hG hz8 fun K hK=>?_;go_simp;apply Exists.intro;refine⟨fun _=>?_,hK _ ?_⟩;exact CP.out _ (hG.but _);clear hK K)
   (iterate 18 (refine ay hG hz8 fun _ k=>?_;go_simp;apply k;clear k));clear e0 e1 y0 y6 hG;refine JaA (by kernel_rfl) ?_;intro v8 hv8;have HZ8:=hdz (ZO.grow hz8 hv8);have HB8:Hid (Below w.heap.size w v8):=HZ5B.out.trans ((hb8.trans (hv8.mono hb8.size)).mono HZ5B.out.size);have HZ8B:=hdz HB8;clear hb8 hv8 hz8;go_wp2;refine wz (fun wx:World=>ZO lo b w.heap.size who u who S.id S (.slice (some ⟨g,0,none⟩) n cc) (.slice pv xn cv) x g p0 k0 c0 m0 wx) 16 HZ8.out ZO.grow fun w9 hb9 hz9 G hG=>?_;have y3:∀y,(G y).cell? ⟨b,3,none⟩=some (.string ⟨S.seen.toArray⟩):=fun y=>(Ja2 (hG.but y).zt.blk).2.2.2.1;have y4:∀y,(G y).cell? ⟨b,4,none⟩=some (.slice (some ⟨g,0,none⟩) n cc):=fun y=>(Ja2 (hG.but y).zt.blk).2.2.2.2.1;have yg:∀y,(G y).cell? ⟨g,0,none⟩=some (.slice p0 k0 c0):=fun y=>(hG.but y).cel;(iterate 10 (refine ay hG hz9 fun _ k=>?_;go_simp;apply k;clear k))
   (refine ay hG hz9 fun K hK=>?_;go_simp;apply Exists.intro;refine⟨fun _=>?_,hK _ ?_⟩;exact CM.out _ (hG.but _);clear hK K)
   (iterate 5 (refine ay hG hz9 fun _ k=>?_;go_simp;apply k;clear k));clear y3 y4 yg hG;refine JaA (by kernel_rfl) ?_;intro v9 hv9;have HZ9:=hdz (ZO.grow hz9 hv9);have HB9:Hid (Below w.heap.size w v9):=HZ8B.out.trans ((hb9.trans (hv9.mono hb9.size)).mono HZ8B.out.size);have HZ9B:=hdz HB9;clear hb9 hv9 hz9
   go_wp2_with (go_at_call 123;refine(Jpj HZ9.out.zt.cl HM.out HTW.out HID.out).mono ?_;rintro e w2 ⟨rfl,hc2,hk2⟩;have HC2:=hdz hc2;have HK2:=hdz hk2;obtain⟨_,vm2,hq2,_⟩:=hc2;have z3:w2.frozen? ⟨b,3,none⟩=false:=Jcn hq2;have z2:w2.frozen? ⟨b,2,none⟩=false:=Jcn hq2;have y3:w2.cell? ⟨b,3,none⟩=some (.string ⟨S.seen.toArray⟩):=chp hq2 3;have y2:w2.cell? ⟨b,2,none⟩=some (.int .i64 S.rev):=chp hq2 2;clear hk2 hq2)
   go_ret;obtain⟨hE1,hE2⟩:=Jtz HC2.out tx (S.rev+1);exact⟨rfl,by rw[←HS2.out];exact hE1,keptC.trans (JbO HZ9B.out hlt) (keptC.trans HK2.out hE2)⟩
theorem JsO(h:isCl lo w b who u S)(hk:okK 2000 S)(hu:Jaz u)(c i:Int)(v:Value)(x:List Pt)(hx:opX lo w v x)(hsz:S.seen.length+Jal x<=500000)(hid:0<=S.id/\S.id<=1000000)(hrv:0<=S.rev/\S.rev<=1000000)(hG:2<lo/\3<lo)(hT:Lib.Utf8Tabs 2 3 w)(ho:ordE x S.seen=0)(hw:¬Jl5 who S c i) :
    Calls Tryz.prog 49 #[.pointer (some ⟨b,0,none⟩),.int .i64 S.rev,.agg #[.int .i64 c,.int .i64 i,v]] w fun e w'=>e=.returned .nilIface/\isCl lo w' b who u { S with seen:=Jaa x S.seen,rev:=S.rev+1,mine:=(Jbl S.mine x).1,doc:=Jaa (Jbl S.mine x).2 S.doc }/\keptC w w' b:=by
 have hu0:(u==0)=false:=by rcases hu with rfl|rfl|rfl<;>rfl
 have hlt:=Jc5 h;obtain⟨hlo,VM,h3,h4⟩:=h;obtain⟨pv,cv,rfl⟩:=Ja0 hx;have hgx:=Jbs hk.text ho;have H0:Hid _:=JfM (c:=c) (i:=i) hlo h3 h4 hT hx;have CU:Hid (∀wx,ZT lo b w.heap.size who u c i S VM (.slice pv x.length cv) x wx->Calls Tryz.prog 57 #[.pointer (some ⟨b,0,none⟩)] wx fun e w'=>e=.returned (.int .i64 u)/\Below wx.heap.size wx w'):=fun wx hz=>JcB hz.cl;have CA:Hid (∀wx,ZT lo b w.heap.size who u c i S VM (.slice pv x.length cv) x wx->Calls Tryz.prog 29 #[.slice pv x.length cv,.string ⟨S.seen.toArray⟩] wx fun e w'=>e=.returned (.tuple #[.string ⟨(Jaa x S.seen).toArray⟩,.nilIface])/\Below wx.heap.size wx w'):=fun wx hz=>Jie _ x S.seen wx hz.tabs hz.op.1 hgx (by omega);obtain⟨P,hP⟩:∃P,decide (0<S.mine.length)=P:=⟨_,rfl⟩;have CP:Hid (∀wx,ZT lo b w.heap.size who u c i S VM (.slice pv x.length cv) x wx->Calls Tryz.prog 58 #[.pointer (some ⟨b,0,none⟩)] wx fun e w'=>e=.returned (.bool P)/\Below wx.heap.size wx w'):=fun wx hz=>by
  have:=Jb8 hz.cl;rwa[hP]at this
 have HCC:P=false\/(P=true/\(c==who)=false)\/(P=true/\(c==who)=true/\(i==S.id)=false):=by
  by_cases hm:S.mine=[]
  . left;rw[←hP,hm];rfl
  . right
    have hp:P=true:=by rw[←hP];exact decide_eq_true (List.length_pos_iff.2 hm)
    cases hb:c==who
    . exact .inl ⟨hp,rfl⟩
    . exact .inr ⟨hp,rfl,beq_eq_false_iff_ne.2 fun hi=>hw ⟨hm,eq_of_beq hb,hi⟩⟩
 clear hw hP;have CT:Hid (∀wx,ZT lo b w.heap.size who u c i S VM (.slice pv x.length cv) x wx->Calls Tryz.prog 124 #[.pointer (some ⟨b,0,none⟩),.slice pv x.length cv] wx fun e w'=>e=.returned (.tuple #[])/\isCl lo w' b who u { S with mine:=(Jbl S.mine x).1,doc:=Jaa (Jbl S.mine x).2 S.doc }/\keptC wx w' b):=fun wx hz=>JoZ hz.cl hk _ x hz.op hgx hsz hG hz.tabs;have hrv1:wrap64 (S.rev+1)=S.rev+1:=Jax (by omega) (by omega);generalize hxn:x.length=xn at *;obtain⟨hr0,hr1⟩:=hrv;generalize Jaa x S.seen=tx at *;clear h3 h4 hx hT hu hlo hxn hsz ho hgx hk hid hG
 rcases HCC with rfl|⟨rfl,hc1⟩|⟨rfl,hc1,hi1⟩
 all_goals as_aux_lemma =>
  skip
  go_enter Tryz.func49,Tryz.ntmps49
  go_wp2_with (go_at_call 57;refine(CU.out _ H0.out).mono ?_;rintro e w1 ⟨rfl,hb1⟩;have HZ1:=hdz (ZT.grow H0.out hb1);have HZ1B:Hid (Below w.heap.size w w1):=((brf _ _).alloc (nlr _) _).trans (hb1.mono (by rw[wsa];omega));have q2:w1.cell? ⟨b,2,none⟩=some (.int .i64 S.rev):=(Ja2 HZ1.out.blk).2.2.1;clear hb1)
  refine wz (fun wx:World=>ZT lo b w.heap.size who u c i S VM (.slice pv xn cv) x wx) 12 HZ1.out ZT.grow fun w5 hb5 hz5 G hG=>?_;have e2:∀y,(G y).cell? ⟨w.heap.size,2,none⟩=some (.slice pv xn cv):=fun y=>chp (hG.but y).box 2;have y3:∀y,(G y).cell? ⟨b,3,none⟩=some (.string ⟨S.seen.toArray⟩):=fun y=>(Ja2 (hG.but y).blk).2.2.2.1;(iterate 6 (refine ay hG hz5 fun _ k=>?_;go_simp;apply k;clear k))
  (refine ay hG hz5 fun K hK=>?_;go_simp;apply Exists.intro;refine⟨fun _=>?_,hK _ ?_⟩;exact CA.out _ (hG.but _);clear hK K)
  (iterate 5 (refine ay hG hz5 fun _ k=>?_;go_simp;apply k;clear k));clear e2 y3 hG;refine JaA (by kernel_rfl) ?_;intro v5 hv5;have HZ5:=hdz (ZT.grow hz5 hv5);have HB5:Hid (Below w.heap.size w v5):=HZ1B.out.trans ((hb5.trans (hv5.mono hb5.size)).mono HZ1B.out.size);clear hb5 hv5 hz5;have HZ5B:=hdz HB5;go_wp2;refine wz (fun wx:World=>ZT lo b w.heap.size who u c i S VM (.slice pv xn cv) x wx) 20 HZ5.out ZT.grow fun w8 hb8 hz8 G hG=>?_;have e0:∀y,(G y).cell? ⟨w.heap.size,0,none⟩=some (.int .i64 c):=fun y=>chp (hG.but y).box 0;have e1:∀y,(G y).cell? ⟨w.heap.size,1,none⟩=some (.int .i64 i):=fun y=>chp (hG.but y).box 1;have y0:∀y,(G y).cell? ⟨b,0,none⟩=some (.int .i64 who):=fun y=>(Ja2 (hG.but y).blk).1;have y6:∀y,(G y).cell? ⟨b,6,none⟩=some (.int .i64 S.id):=fun y=>(Ja2 (hG.but y).blk).2.2.2.2.2.2.1;refine ay hG hz8 fun _ k=>?_;go_simp;apply k;clear k
  (refine ay hG hz8 fun K hK=>?_;go_simp;apply Exists.intro;refine⟨fun _=>?_,hK _ ?_⟩;exact CP.out _ (hG.but _);clear hK K)
  (iterate 18 (refine ay hG hz8 fun _ k=>?_;go_simp;apply k;clear k));clear e0 e1 y0 y6 hG;refine JaA (by kernel_rfl) ?_;intro v8 hv8;have HZ8:=hdz (ZT.grow hz8 hv8);have HB8:Hid (Below w.heap.size w v8):=HZ5B.out.trans ((hb8.trans (hv8.mono hb8.size)).mono HZ5B.out.size);clear hb8 hv8 hz8;have HZ8B:=hdz HB8;have x2:v8.cell? ⟨w.heap.size,2,none⟩=some (.slice pv xn cv):=chp HZ8.out.box 2
  go_wp2_with (go_at_call 124;refine(CT.out _ HZ8.out).mono ?_;rintro e w2 ⟨rfl,hc2,hk2⟩;have HC2:=hdz hc2;have HK2:=hdz hk2;obtain⟨_,vm2,hq2,_⟩:=hc2;have z3:w2.frozen? ⟨b,3,none⟩=false:=Jcn hq2;have z2:w2.frozen? ⟨b,2,none⟩=false:=Jcn hq2;have y3:w2.cell? ⟨b,3,none⟩=some (.string ⟨S.seen.toArray⟩):=chp hq2 3;have y2:w2.cell? ⟨b,2,none⟩=some (.int .i64 S.rev):=chp hq2 2;clear hk2 hq2)
  go_ret;obtain⟨hE1,hE2⟩:=Jtz HC2.out tx (S.rev+1);exact⟨rfl,hE1,keptC.trans (JbO HZ8B.out hlt) (keptC.trans HK2.out hE2)⟩
theorem Jpe(h:isCl lo w b who u S)(hk:okK 2000 S)(hu:Jaz u)(rev c i:Int)(v:Value)(x:List Pt)(hx:opX lo w v x)(hwf:∀p∈x,wfP p)(hpu:Jal x<=400000)(hl:x.length<=1000000)(hsz:S.seen.length<=100000)(hid:0<=S.id/\S.id<=1000000)(hrv:0<=S.rev/\S.rev<=1000000)(hG:2<lo/\3<lo)(hT:Lib.Utf8Tabs 2 3 w) :
    Calls Tryz.prog 49 #[.pointer (some ⟨b,0,none⟩),.int .i64 rev,.agg #[.int .i64 c,.int .i64 i,v]] w fun e w'=>e=.returned (errV (tkE who S rev c i x))/\isCl lo w' b who u (tkS who S rev c i x)/\keptC w w' b:=by
 have hlt:=Jc5 h
 by_cases hr:rev=S.rev
 case neg =>
  have e1:tkE who S rev c i x=0:=if_pos hr;have e2:tkS who S rev c i x=S:=if_pos (.inl hr);rw[e1,e2];refine(Jpb h hu rev c i v x hx hT hr).mono ?_;rintro e w' ⟨rfl,hb⟩;exact⟨rfl,Jbw h hb,JbO hb hlt⟩
 subst hr
 by_cases ho:ordE x S.seen=0
 case neg =>
  have e1:tkE who S S.rev c i x=15:=by unfold tkE;rw[if_neg (by simp),if_pos ho]
  have e2:tkS who S S.rev c i x=S:=if_pos (.inr (by rw[e1];decide));rw[e1,e2];refine(Jpd h hu c i v x hx hwf hpu hl hsz hT ho).mono ?_;rintro e w' ⟨rfl,hb⟩;exact⟨rfl,Jbw h hb,JbO hb hlt⟩
 have hsp:S.seen.length+Jal x<=500000:=by omega
 by_cases hw:Jl5 who S c i
 case pos =>
  by_cases hd:Jaa (JbP S) S.seen=Jaa x S.seen
  . have e1:tkE who S S.rev c i x=0:=by unfold tkE;rw[if_neg (by simp),if_neg (by simpa using ho),if_neg fun e=>e.2 hd]
    have e2:tkS who S S.rev c i x = { S with seen:=Jaa x S.seen,rev:=S.rev+1,mine:=S.mine.tail,id:=if S.mine.tail≠[] then S.id+1 else S.id }:=by unfold tkS;rw[if_neg (by rw[e1];simp),if_pos hw]
    rw[e1,e2];obtain⟨hm,rfl,rfl⟩:=hw;exact Jpc h hk hu v x hx hsp hid hrv hG hT ho hm hd
  . have e1:tkE who S S.rev c i x=15:=by unfold tkE;rw[if_neg (by simp),if_neg (by simpa using ho),if_pos ⟨hw,hd⟩]
    have e2:tkS who S S.rev c i x=S:=if_pos (.inr (by rw[e1];decide));rw[e1,e2];obtain⟨hm,rfl,rfl⟩:=hw;refine(Jnf h hk hu v x hx hsp hid hrv hG hT ho hm hd).mono ?_;rintro e w' ⟨rfl,hb⟩;exact⟨rfl,Jbw h hb,JbO hb hlt⟩
 case neg =>
  have e1:tkE who S S.rev c i x=0:=by unfold tkE;rw[if_neg (by simp),if_neg (by simpa using ho),if_neg fun e=>hw e.1]
  have e2:tkS who S S.rev c i x = { S with seen:=Jaa x S.seen,rev:=S.rev+1,mine:=(Jbl S.mine x).1,doc:=Jaa (Jbl S.mine x).2 S.doc }:=by unfold tkS;rw[if_neg (by rw[e1];simp),if_neg hw]
  rw[e1,e2];exact JsO h hk hu c i v x hx hsp hid hrv hG hT ho hw
end
section
open Go.RowKit Go.Maps
attribute [local go_sem] Oper.semAt_some Ja7 Jbe
variable {w : World}{lo b : Nat}{who u : Int}{S : Cl}
def JgO (s:List UInt8):Cl:=⟨s,s,0,0,0,[]⟩
theorem Jq1{s:List UInt8}(h:V s):okK 2000 (JgO s):=⟨h,trivial,rfl,by simp[JgO],fun m hm=>by cases hm⟩
theorem Jpg(who:Int)(lo:Nat)(u:Nat)(hu:unitN u)(rs:List Nat)(hR:∀r∈rs,Jas r)(hz:C1 rs<=8000)(w:World)(hlo:lo<=w.heap.size)(hT:Lib.Utf8Tabs 2 3 w):Calls Tryz.prog 46 #[.int .i64 who,.int .i64 (u:Int),.string ⟨(encs rs).toArray⟩] w fun e w'=>∃b,e=.returned (.tuple #[.pointer (some ⟨b,0,none⟩),.nilIface])/\isCl lo w' b who (u:Int) (JgO (encs rs))/\w.heap.size<=b/\Below w.heap.size w w'/\∀x,ownC w' b x->x=b:=by
 have cN:Hid (Calls Tryz.prog 25 #[.int .i64 (u:Int),.string ⟨(encs rs).toArray⟩] w fun e w'=>∃b,e=.returned (.tuple #[.pointer (some ⟨b,0,none⟩),.nilIface])/\Below w.heap.size w w'):=(Joz u hu rs hR hz w hT).mono fun e w' ⟨b,h1,_,_,h2⟩=>⟨b,h1,h2⟩;have hc1:(encs rs).length=C1 rs:=(Jcf rs).symm;have CL:Hid (∀wx,Calls Tryz.prog 112 #[.string ⟨(encs rs).toArray⟩] wx fun e w'=>e=.returned (.string ⟨(encs rs).toArray⟩)/\Below wx.heap.size wx w'):=fun wx=>Jjs (encs rs) (by omega) wx;have HLO:=hdz hlo;generalize encs rs=s at *;clear hT hz hlo hu hR hc1
 go_enter Tryz.func46,Tryz.ntmps46
 go_wp2_with (first
  | (go_at_call 25;refine Calls.mono cN.out ?_;rintro e w1 ⟨b1,rfl,hb1⟩;have HB1:=hdz hb1;clear hb1)
  | (go_at_call 112;refine(CL.out _).mono ?_;rintro e w2 ⟨rfl,hb2⟩;have HB2:=hdz (HB1.out.trans (hb2.mono HB1.out.size));clear hb2))
 go_ret2
 have hl:=HLO.out;have hs:=HB2.out.size;refine⟨w2.heap.size,rfl,⟨by omega,.slice none 0 0,heap_alloc_new _ _,Jjh _ _⟩,hs,HB2.out.alloc hs _,fun x hx=>?_⟩
 rcases hx with e|⟨vm,e,hk⟩
 . exact e
 . rw[chp (heap_alloc_new w2 _) 4]at e
   have e:some (Value.slice none 0 0)=some vm:=e;rw[←osi e]at hk
   cases hk
theorem Jjb{p:Option Addr}{n c:Nat}{ps:List Pt}(h:opAt w (.slice p n c) ps):n=ps.length/\(ps≠[]->∃a,p=some a/\∀j u,(JaD ps)[j]?=some u->w.cell? (a.add j)=some u):=by
 obtain⟨p',c',e,_,_,h3⟩:=h;injection e with e1 e2 e3;subst e1;refine⟨e2,fun hne=>?_⟩;obtain⟨b,o,rfl,_,h4⟩:=h3 hne;refine⟨⟨b,o,none⟩,rfl,fun j u hj=>?_⟩;have hjl:=(llt hj);rw[JdC]at hjl;have hk:j / 3<ps.length:=by omega
 have hm:=Nat.div_add_mod j 3;have hm3:=Nat.mod_lt j (show 0<3 by decide);have hg:=Jfz ps (j / 3) ps[j / 3] (lgg hk) (j % 3) hm3;rw[show j / 3*3+j % 3=j by omega,hj]at hg;obtain⟨f1,f2,f3⟩:=h4 (j / 3) _ (lgg hk);have e3:o+j / 3*3+j % 3=o+j:=by omega
 have ea:(⟨b,o,none⟩:Addr).add j=⟨b,o+j / 3*3+j % 3,none⟩:=by rw[e3];simp[Addr.add]
 rw[ea];generalize j % 3=r at *
 rcases r with _|_|_|r
 . rw[Nat.add_zero,f1];exact hg.symm ▸ rfl
 . rw[f2];exact hg.symm ▸ rfl
 . rw[f3];exact hg.symm ▸ rfl
 . omega
theorem Jpm(ps:List Pt):∀u∈JaD ps,u.oneCell'=true:=fun u hu=>by
 obtain⟨p,_,hp⟩:=List.mem_flatMap.1 hu;exact Ja4 p u hp
theorem slNil(c:Nat)(w:World):(binOp .eql 23 (.slice none 0 c) (.slice none 0 0)).run Tryz.prog w=.ok (.bool true) w:=by kernel_rfl
theorem slSome(a:Addr)(n c:Nat)(w:World):(binOp .eql 23 (.slice (some a) n c) (.slice none 0 0)).run Tryz.prog w=.ok (.bool false) w:=by kernel_rfl
attribute [local go_sem] slNil slSome
theorem Jne(v:Value)(ps:List Pt)(w:World)(h:opAt w v ps)(hl:ps.length<=1000000):Calls Tryz.prog 126 #[v] w fun e w'=>∃v',e=.returned v'/\opN w.heap.size w' v' ps/\Below w.heap.size w w':=by
 obtain⟨p,c,rfl⟩:∃p c,v=.slice p ps.length c:=by obtain⟨p,c,e,_⟩:=h;exact⟨p,c,e⟩
 rcases p with _|a
 . have hps:ps=[]:=by
     by_cases e:ps=[]
     . exact e
     . obtain⟨a,e2,_⟩:=(Jjb h).2 e;cases e2
   subst hps;clear h
   go_enter Tryz.func126,Tryz.ntmps126
   go_wp2;go_ret;exact⟨_,rfl,JbS _ _,brf _ _⟩
 . have HA:Hid (∀j u,(JaD ps)[j]?=some u->w.cell? (a.add j)=some u):=by
     intro j u hj;have hne:ps≠[]:=fun e=>by subst e;simp[JaD]at hj
     obtain⟨a',e,h2⟩:=(Jjb h).2 hne;injection e with e;subst e;exact h2 j u hj
   have HLT:Hid (ps≠[]->a.block<w.heap.size):=fun hne=>by
    obtain⟨p',c',e,_,_,h3⟩:=h;injection e with e1 _ _;obtain⟨b,o,e2,h5,_⟩:=h3 hne;rw[←e1]at e2;injection e2 with e2;subst e2;exact h5
   obtain⟨i0,hi,hz0,hz1,hz2⟩:=info_parts Jbf;have HI:=hdz hi;have HZ0:=hdz hz0;have HZ1:=hdz hz1;have HZ2:=hdz hz2;obtain⟨n,hn⟩:∃n,ps.length=n:=⟨_,rfl⟩;have HN:=hdz hn;rw[hn]at hl ⊢;clear h hi hz0 hz1 hz2 hn
   go_enter Tryz.func126,Tryz.ntmps126
   go_wp2_with (at_builtin;have hrow:(w.alloc (.cells #[] 50)).ownsRow w.heap.size 50 3 (.slice (some ⟨w.heap.size,0,none⟩) 0 0) 0 []:=World.ownsRow_lit (e:=50) (base:=w.heap.size) (size:=3) w #[] 0 (nlr _) (by unfold maxLen;omega) rfl;refine wpList_append_own _ rfl _ _ 23 rfl w.heap.size 50 i0 (.agg #[.int .i64 0,.int .i64 0,.string ⟨#[]⟩]) 3 32 Tryz.underlying23 HI.out HZ0.out HZ1.out HZ2.out rfl (by decide) _ _ _ rfl hrow a n c (JaD ps) rfl (by rw[JdC,HN.out]) (fun j u hj=>?_) (Jpm _) (by unfold maxLen;omega) (by omega) (by simp) ?_)
   . skip
     have hne:ps≠[]:=fun e=>by subst e;simp[JaD]at hj
     exact(World.cell?_alloc_lt _ _ (a.add j) (by have:=HLT.out hne;simp only[Addr.add];split<;>exact this)).trans (HA.out j u hj)
   intro v' w' hown' hg' _;obtain⟨p',c',rfl⟩:=Jae hown';have HB9:Hid (Below w.heap.size w w'):=((brf _ _).alloc (nlr _) _).grown hg' (by simp) fun j hj=>by obtain rfl:=osi hj;exact nlr _
   have HO9:Hid (opN w.heap.size w' (.slice p' n c') ps):=JeE (nlr _) (by rw[HN.out];simpa using hown');clear hown' hg';go_wp2;go_ret;exact⟨_,rfl,HO9.out,HB9.out⟩
structure ZA (lo b:Nat) (who u:Int) (S:Cl) (VM:Value) (g:Nat) (p0:Option Addr) (k0 c0:Nat) (m0:List Pt) (wx:World):Prop where
 blk:wx.heap[b]?=some (.cells (Jb2 who u S VM) 203 (0,0))
 lt:g<wx.heap.size
 cel:wx.cell? ⟨g,0,none⟩=some (.slice p0 k0 c0)
 op0:opX lo wx (.slice p0 k0 c0) m0
theorem ZA.grow{VM:Value}{g:Nat}{p0:Option Addr}{k0 c0:Nat}{m0:List Pt}{w':World}(h:ZA lo b who u S VM g p0 k0 c0 m0 w)(hb:Below w.heap.size w w'):ZA lo b who u S VM g p0 k0 c0 m0 w' :=
 ⟨(hb.block b (alt h.blk)).trans h.blk,Nat.lt_of_lt_of_le h.lt hb.size,(hb.cell (p:=⟨g,0,none⟩) h.lt).trans h.cel,Jan h.op0 hb⟩
theorem Jnj(h:isCl lo w b who u S)(hm:S.mine=[]) :
    Calls Tryz.prog 53 #[.pointer (some ⟨b,0,none⟩)] w fun e w'=>e=.returned (.tuple #[.int .i64 0,.int .i64 S.rev,.slice none 0 0,.bool false])/\Below w.heap.size w w':=by
 have CP:Hid _:=Jb8 h;rw[show decide (0<S.mine.length)=false by rw[hm];rfl]at CP;have HC:=hdz h;clear h hm
 go_enter Tryz.func53,Tryz.ntmps53
 go_wp2_with (first
  | (go_at_call 58;refine Calls.mono CP.out ?_;rintro e w1 ⟨rfl,hb1⟩;have HB1:=hdz hb1;clear hb1)
  | (go_at_call 56;refine(JlS (Jbw HC.out HB1.out)).mono ?_;rintro e w2 ⟨rfl,hb2⟩;have HB2:=hdz (HB1.out.trans (hb2.mono HB1.out.size));clear hb2))
 refine bodyPost_ret (v:=.tuple #[.int .i64 0,.int .i64 S.rev,.slice none 0 0,.bool false]) (by simp[results,Tryz.results53,go_sem]) rfl ⟨rfl,HB2.out⟩
theorem Jni(h:isCl lo w b who u S)(hm:S.mine≠[])(hl:(JbP S).length<=1000000) :
    Calls Tryz.prog 53 #[.pointer (some ⟨b,0,none⟩)] w fun e w'=>∃v',e=.returned (.tuple #[.int .i64 S.id,.int .i64 S.rev,v',.bool true])/\(∀lo',opX lo' w' v' (JbP S))/\Below w.heap.size w w':=by
 have CP:Hid _:=Jb8 h;rw[decide_eq_true (List.length_pos_iff.2 hm)]at CP;obtain⟨hlo,VM,h3,h4⟩:=h;obtain⟨g,cc,p0,k0,c0,rfl,⟨hcn,hcm⟩,hgl,hce,hop⟩:=JhY h4 hm;unfold maxLen at hcm;have hop:opX lo w (.slice p0 k0 c0) (JbP S):=hop;have H0:Hid _:=(⟨h3,hgl,hce,hop⟩:ZA lo b who u S (.slice (some ⟨g,0,none⟩) S.mine.length cc) g p0 k0 c0 (JbP S) w);have CK:Hid (∀wx,opAt wx (.slice p0 k0 c0) (JbP S)->Calls Tryz.prog 126 #[.slice p0 k0 c0] wx fun e w'=>∃v',e=.returned v'/\opN wx.heap.size w' v' (JbP S)/\Below wx.heap.size wx w'):=fun wx ho=>Jne _ _ wx ho hl;have hmn:=List.length_pos_iff.2 hm;have hmi:(0:Int)<(S.mine.length:Int):=by omega
 generalize JbP S=m0 at *;obtain⟨n,hn⟩:∃n,S.mine.length=n:=⟨_,rfl⟩;rw[hn]at hcn hmi hmn H0;clear h3 h4 hm hl hgl hce hop hlo hn
 go_enter Tryz.func53,Tryz.ntmps53
 go_wp2_with (go_at_call 58;refine Calls.mono CP.out ?_;rintro e w1 ⟨rfl,hb1⟩;have HB1:=hdz hb1;have HZ1:=hdz (ZA.grow H0.out hb1);clear hb1)
 refine wz (fun wx:World=>ZA lo b who u S (.slice (some ⟨g,0,none⟩) n cc) g p0 k0 c0 m0 wx) 19 HZ1.out ZA.grow fun w30 hb30 hz1 G hG=>?_;have hb2A:=HB1.out.trans (hb30.mono HB1.out.size);have y6:∀y,(G y).cell? ⟨b,6,none⟩=some (.int .i64 S.id):=fun y=>(Ja2 (hG.but y).blk).2.2.2.2.2.2.1;have y2:∀y,(G y).cell? ⟨b,2,none⟩=some (.int .i64 S.rev):=fun y=>(Ja2 (hG.but y).blk).2.2.1;have y4:∀y,(G y).cell? ⟨b,4,none⟩=some (.slice (some ⟨g,0,none⟩) n cc):=fun y=>(Ja2 (hG.but y).blk).2.2.2.2.1;have yg:∀y,(G y).cell? ⟨g,0,none⟩=some (.slice p0 k0 c0):=fun y=>(hG.but y).cel;(iterate 14 (refine ay hG hz1 fun _ k=>?_;go_simp;apply k;clear k));clear y6 y2 y4 yg;refine JaI (i:=14) (by kernel_rfl) ⟨_,rfl,?_⟩;intro w31 hb31 K hK
 go_simp
 have hb2B:=hb2A.trans (hb31.mono hb2A.size);have hzB:=ZA.grow hz1 hb31;refine(CK.out w31 hzB.op0.1).mono ?_;rintro e w3 ⟨v',rfl,hn3,hb3⟩;obtain⟨p3,c3,rfl⟩:=Jbu hn3;refine⟨_,rfl,hK _ _ (fun _=>ZA.grow hzB hb3) ?_⟩;have hz2:=ZA.grow hzB hb3;clear hK K hz1;(iterate 4 (refine ay hG hz2 fun _ k=>?_;go_simp;apply k;clear k));clear hG hz2;refine JaA (by kernel_rfl) ?_;intro w4 hb4;have hb44:=hb2B.trans (hb3.mono hb2B.size);have HB4:Hid (Below w.heap.size w w4):=hb44.trans (hb4.mono hb44.size);have HN4:Hid (∀lo',opX lo' w4 (.slice p3 m0.length c3) m0):=fun lo'=>Jan (JaG hn3) hb4;clear hb30 hb31 hb3 hb4 hb44 hb2A hb2B hn3 hzB;go_wp2;refine bodyPost_ret (v:=.tuple #[.int .i64 S.id,.int .i64 S.rev,.slice p3 m0.length c3,.bool true]) (by simp[results,Tryz.results53,go_sem]) rfl ⟨_,rfl,HN4.out,HB4.out⟩
end
section
open Go.RowKit Go.Maps
attribute [local go_sem] Oper.semAt_some Ja7 Jbe
variable {w : World}{y lo : Nat}{who u : Int}{S : Cl}
theorem Jap{v1 v2:Value}(h3:w.heap[y]?=some (.cells (JbI who u S v1 v2) 98 (0,0))) :
    w.cell? ⟨y,0,none⟩=some (.int .i64 who)/\w.cell? ⟨y,1,none⟩=some (.int .i64 u)/\w.cell? ⟨y,2,none⟩=some (.string ⟨S.doc.toArray⟩)/\w.cell? ⟨y,3,none⟩=some (.string ⟨S.seen.toArray⟩)/\w.cell? ⟨y,4,none⟩=some (.int .i64 S.rev)/\w.cell? ⟨y,5,none⟩=some (.int .i64 S.id)/\w.cell? ⟨y,6,none⟩=some v1/\w.cell? ⟨y,7,none⟩=some v2/\w.cell? ⟨y,8,none⟩=some (.bool (decide (1<=S.mine.length)))/\w.cell? ⟨y,9,none⟩=some (.bool (decide (2<=S.mine.length)))/\w.cell? ⟨y,10,none⟩=some (.int .i64 S.drops)/\∀o,w.frozen? ⟨y,o,none⟩=false :=
 ⟨chp h3 0,chp h3 1,chp h3 2,chp h3 3,chp h3 4,chp h3 5,chp h3 6,chp h3 7,chp h3 8,chp h3 9,chp h3 10,fun o=>Jcn h3⟩
theorem JdP{w':World}(h:isRc lo w y who u S)(hb:Below w.heap.size w w'):isRc lo w' y who u S/\sameBut w w' fun k=>k=y:=⟨Jeu h hb,Jai hb _⟩
theorem Jll(h:isRc lo w y who u S)(i:Int)(hd:0<=S.drops/\S.drops<=1000000) :
    Calls Tryz.prog 52 #[.pointer (some ⟨y,0,none⟩),.int .i64 i] w fun e w'=>e=.returned (.tuple #[])/\isRc lo w' y who u (rfS S i)/\sameBut w w' fun k=>k=y:=by
 have HC:=hdz h;obtain⟨hlo,v1,v2,h3,h4,h5⟩:=h;obtain⟨p1,c1,rfl⟩:=Ja0 h4;obtain⟨p2,c2,rfl⟩:=Ja0 h5;generalize (Jau S 0).length=n1 at *;generalize (Jau S 1).length=n2 at *;have H3:=hdz h3;have HLO:=hdz hlo;obtain⟨_,_,x2,x3,x4,x5,x6,x7,x8,x9,x10,xf⟩:=Jap h3;have f2:=xf 2;have f6:=xf 6;have f7:=xf 7;have f8:=xf 8;have f9:=xf 9;have f10:=xf 10
 by_cases hm:S.mine=[]
 . have HR:Hid (rfS S i=S):=if_neg fun h=>h.1 hm
   rw[show decide (1<=S.mine.length)=false by rw[hm];rfl]at x8;clear h3 h4 h5 hm hd hlo xf
   go_enter Tryz.func52,Tryz.ntmps52
   go_wp2;go_end0;rw[HR.out];exact⟨rfl,HC.out,JeU _ _⟩
 . rw [show decide (1<=S.mine.length)=true from decide_eq_true (List.length_pos_iff.2 hm)]at x8
   generalize decide (2<=S.mine.length)=d2 at *
   by_cases hi:i=S.id
   . have HR:Hid (rfS S i = { S with mine:=[],doc:=S.seen,drops:=S.drops+1 }):=if_pos ⟨hm,hi⟩
     have hid1:wrap64 (S.drops+1)=S.drops+1:=Jax (by omega) (by omega);obtain⟨d0,d1⟩:=hd;subst hi;clear h3 h4 h5 hm hlo xf
     go_enter Tryz.func52,Tryz.ntmps52
     go_wp2;go_end0;rw[HR.out];refine⟨rfl,?_⟩;have b1:=heap_setCell_same w y 2 _ _ (.string ⟨S.seen.toArray⟩) H3.out;have b2:=heap_setCell_same _ y 8 _ _ (.bool false) b1;have b3:=heap_setCell_same _ y 9 _ _ (.bool false) b2;have b4:=heap_setCell_same _ y 6 _ _ (.slice none 0 0) b3;have b5:=heap_setCell_same _ y 7 _ _ (.slice none 0 0) b4;have b6:=heap_setCell_same _ y 10 _ _ (.int .i64 (S.drops+1)) b5;have hn:∀W,opX lo W (.slice none 0 0) []:=fun W=>JaG (JbS 0 W);refine⟨⟨HLO.out,.slice none 0 0,.slice none 0 0,b6,hn _,hn _⟩,?_⟩;exact(((((Jaj (S:=fun k=>k=y) rfl).trans (Jaj (S:=fun k=>k=y) rfl)).trans (Jaj (S:=fun k=>k=y) rfl)).trans (Jaj (S:=fun k=>k=y) rfl)).trans (Jaj (S:=fun k=>k=y) rfl)).trans (Jaj (S:=fun k=>k=y) rfl)
   . have HR:Hid (rfS S i=S):=if_neg fun h=>hi h.2
     clear h3 h4 h5 hm hd hlo xf
     go_enter Tryz.func52,Tryz.ntmps52
     go_wp2;go_end0;rw[HR.out];exact⟨rfl,HC.out,JeU _ _⟩
end
section
open Go.RowKit
variable {w w0 wr : World}{b j N n g1 g2 q : Nat}{ps : List Pt}{P : List (List UInt8)}{D : List Bool}
theorem JeO{b' i:Nat}{x:Value}(h:b'≠b):(w.setCell ⟨b,i,none⟩ x).cell? ⟨b',j,none⟩=w.cell? ⟨b',j,none⟩:=World.cell?_setCell_other _ _ _ _ (by intro e;simp only[Addr.mk.injEq]at e;exact h e.1.symm)
def JeP (x:Cel):List Value:=[.int .i64 x.1,.int .u8 (x.2.toNat:Int)]
def JbX (l:List Cel):List Value:=l.flatMap JeP
theorem Jcz(l m:List Cel):JbX (l++m)=JbX l++JbX m:=by simp[JbX]
theorem JgP(l:List Cel):(JbX l).length=l.length*2:=by
 induction l with
 | nil=>rfl
 | cons x l ih =>
  have:JbX (x :: l)=JeP x++JbX l:=rfl;rw[this,List.length_append,ih,List.length_cons];show 2+_=_;omega
theorem Jkf:(Tryz.prog.info? 289).map (fun i=>(i.zero,i.size,i.bytes))=some (some (.agg #[.int .i64 0,.int .u8 0]),2,16):=by kernel_rfl
theorem Jeh(x:Cel):∀u∈JeP x,u.oneCell'=true:=by
 intro u hu;simp only[JeP,List.mem_cons,List.not_mem_nil,or_false]at hu
 rcases hu with rfl|rfl<;>rfl
theorem Jpo(l:List Cel):∀u∈JbX l,u.oneCell'=true:=by
 intro u hu;obtain⟨x,_,hx⟩:=List.mem_flatMap.1 hu;exact Jeh x u hx
theorem Jpp(l:List Cel)(i:Nat)(x:Cel)(hi:l[i]?=some x):(JbX l)[i*2]?=some (.int .i64 x.1)/\(JbX l)[i*2+1]?=some (.int .u8 (x.2.toNat:Int)):=by
 induction l generalizing i with
 | nil=>simp at hi
 | cons y l ih =>
  have e:JbX (y :: l)=.int .i64 y.1 :: .int .u8 (y.2.toNat:Int) :: JbX l:=rfl
  cases i with
  | zero =>
   obtain rfl:y=x:=by simpa using hi
   rw[e];exact⟨rfl,rfl⟩
  | succ i =>
   obtain⟨h1,h2⟩:=ih i (by simpa using hi);rw[e,show(i+1)*2=i*2+1+1 by omega];exact⟨by simpa using h1,by simpa using h2⟩
theorem JnL:∀(l:List Pt)(p:Pt)(i:Int),midP i (l++[p])=midP i l++(Jb5 (i+Jag l) p.keep.toNat++putC p.put)
 | [],p,i=>by simp[midP,Jag]
 | q :: l,p,i=>by
  have ih:=JnL l p (i+q.keep+q.drop);rw[List.cons_append,midP,midP,ih];have e:Jag (q :: l)=q.keep+q.drop+Jag l:=by simp[Jag,lenP]
  rw[e,show i+q.keep+q.drop+Jag l=i+(q.keep+q.drop+Jag l) by omega];simp
theorem JnX:∀(l:List Pt)(p:Pt)(mid:List Cel),(∀q∈l,0<=q.keep/\0<=q.drop)->endP mid (l++[p])=endP mid l++((mid.drop (Jag l).toNat).take p.keep.toNat++putC p.put)
 | [],p,mid,_=>by simp[endP,Jag]
 | q :: l,p,mid,h=>by
  have h1:=h q (by simp)
  have h2:0<=Jag l:=by
   have hl:=fun x hx=>h x (List.mem_cons_of_mem q hx);clear h h1
   induction l with
   | nil=>simp[Jag]
   | cons x l ih =>
    have h3:=hl x (by simp);have h4:=ih fun y hy=>hl y (by simp[hy]);have e:Jag (x :: l)=x.keep+x.drop+Jag l:=by simp[Jag,lenP]
    omega
  have ih:=JnX l p (mid.drop (q.keep+q.drop).toNat) fun x hx=>h x (by simp[hx]);rw[List.cons_append,endP,endP,ih,List.drop_drop];have e:Jag (q :: l)=q.keep+q.drop+Jag l:=by simp[Jag,lenP]
  rw[e,show(q.keep+q.drop+Jag l).toNat=(q.keep+q.drop).toNat+(Jag l).toNat by omega];simp
theorem Jl1(l:List Pt)(p:Pt):Jag (l++[p])=Jag l+(p.keep+p.drop):=by simp[Jag,lenP]
theorem JoS(i:Int)(t:Nat):Jb5 i (t+1)=Jb5 i t++[(i+t,0)]:=by
 rw[Jdj];simp[Jb5]
theorem Jlr(u:List UInt8)(t:Nat)(h:t<u.length):putC (u.take (t+1))=putC (u.take t)++[(-1,u[t])]:=by
 rw[List.take_succ_eq_append_getElem h,JeD];rfl
theorem JcW:∀(l:List Pt),(∀q∈l,0<=q.keep/\0<=q.drop)->0<=Jag l
 | [],_=>by simp[Jag]
 | x :: l,h=>by
  have h3:=h x (by simp);have h4:=JcW l fun y hy=>h y (by simp[hy]);have e:Jag (x :: l)=x.keep+x.drop+Jag l:=by simp[Jag,lenP]
  omega
theorem JnS(h:fineP ps)(j:Nat):(((ps.take j).map isP).sum:Int)<=wts ps:=by
 have hs:=Jak h.one
 have key:∀(l:List Pt),(∀q∈l,0<=q.keep/\0<=q.drop)->0<=(l.map isP).sum/\(l.map isP).sum<=wts l:=by
  intro l
  induction l with
  | nil=>intro _;simp[wts]
  | cons x l ih =>
   intro hl;have h1:=hl x (by simp);obtain⟨h2,h3⟩:=ih fun y hy=>hl y (by simp[hy]);have e:wts (x :: l)=wtP x+wts l:=by simp[wts]
   have e2:isP x=x.keep+x.put.length:=rfl;have e3:wtP x=x.keep+x.drop+x.put.length:=rfl;rw[List.map_cons,List.sum_cons,e];omega
 have h1:=(key (ps.take j) fun q hq=>hs q (List.mem_of_mem_take hq)).2;have h2:=(key (ps.drop j) fun q hq=>hs q (List.mem_of_mem_drop hq));have e:wts ps=wts (ps.take j)+wts (ps.drop j):=by
  have:=Jd1 (ps.take j) (ps.drop j);rwa[List.take_append_drop]at this
 omega
theorem JhZ(h:fineP ps)(j:Nat):(midP 0 (ps.take j)).length<2000000:=by
 have h1:=Jka (ps.take j) 0 fun q hq=>(Jak h.one q (List.mem_of_mem_take hq)).1;have h2:=JnS h j;have h3:=h.w;omega
theorem Jjl:∀(l:List Pt)(mid:List Cel),(∀q∈l,0<=q.keep/\0<=q.drop)->((endP mid l).length:Int)<=(l.map isP).sum
 | [],_,_=>by simp[endP]
 | q :: l,mid,h=>by
  have h1:=h q (by simp);have ih:=Jjl l (mid.drop (q.keep+q.drop).toNat) fun x hx=>h x (by simp[hx]);simp only[endP,List.length_append,List.length_take,Jdu,List.map_cons,List.sum_cons,isP];omega
theorem JlF(h:fineP ps)(M:List Cel)(j:Nat):(endP M (ps.take j)).length<2000000:=by
 have h1:=Jjl (ps.take j) M fun q hq=>Jak h.one q (List.mem_of_mem_take hq);have h2:=JnS h j;have h3:=h.w;omega
theorem Jku(M:List Cel)(A K j:Nat)(u:Value)(h:(JbX ((M.drop A).take K))[j]?=some u):(JbX M)[A*2+j]?=some u:=by
 by_cases hA:A<=M.length
 . have e1:M=M.take A++((M.drop A).take K++(M.drop A).drop K):=by rw[List.take_append_drop,List.take_append_drop]
   have hlt:=(llt h);rw[e1,Jcz,Jcz];have hl:(JbX (M.take A)).length=A*2:=by rw[JgP,List.length_take];omega
   rw[List.getElem?_append_right (by omega),hl,Nat.add_sub_cancel_left,List.getElem?_append_left hlt];exact h
 . rw[List.drop_of_length_le (by omega)]at h
   simp[JbX]at h
theorem JeX{w':World}{o:Obj}{v:Value}{xs:List Value}(h:w.heap[b]?=some o)(hr:w.ownsRow N 289 2 v n xs)(hg:w.grownBy w' v.ownBlock)(ho:∀c fz,o≠.cells c 289 fz):w'.heap[b]?=some o:=by
 refine(hg.block b (Jav h) ?_).trans h;intro e
 rcases hr.2 with ⟨hx,_⟩|⟨g,cap,cur,rfl,_,hgg,_⟩
 . rw[hx]at e;cases e
 . have e2:some b=some g:=e
   obtain rfl:=osi e2;rw[h]at hgg;exact ho _ _ (osi hgg)
theorem JjX(n:Int):∀(E:List Cel)(pos:Int),0<=pos->okC n E pos->∀x∈E,x.1<0\/(0<=x.1/\x.1<n)
 | [],_,_,_,_,hx=>by cases hx
 | (i,c) :: E,pos,h0,h,x,hx=>by
   rw[okC]at h
   by_cases hi:i<0
   . rw[if_pos hi]at h
     rcases List.mem_cons.1 hx with rfl|hx
     . exact .inl hi
     . exact JjX n E pos h0 h x hx
   . rw[if_neg hi]at h
     rcases List.mem_cons.1 hx with rfl|hx
     . exact .inr ⟨by show 0<=i;omega,h.2.1⟩
     . exact JjX n E (i+1) (by omega) h.2.2 x hx
structure CInv (n j:Nat) (s:CSt):Prop where
 put:s.put.length=n+1
 drop:s.drop.length=n
 last:s.last<=n
 small:∀u∈s.put,u.length<=j
theorem CInv.step{s:CSt}{x:Cel}(h:CInv n j s)(hx:x.1<0\/(0<=x.1/\x.1<(n:Int))):CInv n (j+1) (Jds s x):=by
 obtain⟨h1,h2,h3,h4⟩:=h;unfold Jds
 split
 . refine ⟨by simpa using h1,h2,h3,fun u hu=>?_⟩
   rcases List.mem_or_eq_of_mem_set hu with hu|rfl
   . have:=h4 u hu;omega
   . have:(s.put[s.last]?.getD []).length<=j:=by
       cases hq:s.put[s.last]? with
       | none=>simp
       | some v=>exact h4 v (List.mem_of_getElem? hq)
     rw[List.length_append];simp;omega
 . refine⟨h1,by simpa using h2,by show(x.1+1).toNat<=n;omega,fun u hu=>by have:=h4 u hu;omega⟩
def cst0 (n:Nat):CSt:=⟨List.replicate (n+1) [],List.replicate n true,0⟩
theorem cinv0(n:Nat):CInv n 0 (cst0 n):=⟨by simp[cst0],by simp[cst0],Nat.zero_le _,fun u hu=>by rw[List.eq_of_mem_replicate hu];simp⟩
theorem cinvs(n:Nat)(E:List Cel)(h:∀x∈E,x.1<0\/(0<=x.1/\x.1<(n:Int)))(j:Nat)(hj:j<=E.length):CInv n j ((E.take j).foldl Jds (cst0 n)):=by
 induction j with
 | zero=>exact cinv0 n
 | succ j ih =>
  rw[List.take_succ_eq_append_getElem (by omega),List.foldl_append];exact(ih (by omega)).step (h _ (List.getElem_mem _))
structure gapR (w0:World) (N g1 g2 q n:Nat) (P:List (List UInt8)) (D:List Bool) (wr:World):Prop where
 r1:wr.ownsRow N 9 1 (.slice (some ⟨g1,0,none⟩) (n+1) (n+1)) (n+1) (P.map strV)
 r2:wr.ownsRow N 4 1 (.slice (some ⟨g2,0,none⟩) n n) n (D.map Value.bool)
 c0:wr.cell? ⟨q,0,none⟩=some (.slice (some ⟨g1,0,none⟩) (n+1) (n+1))
 c1:wr.cell? ⟨q,1,none⟩=some (.slice (some ⟨g2,0,none⟩) n n)
 ne:g1≠g2/\q≠g1/\q≠g2
 below:Below N w0 wr
theorem JgK(h:gapR w0 N g1 g2 q n P D wr)(hN:N<=wr.heap.size)(o:Obj):gapR w0 N g1 g2 q n P D (wr.alloc o):=by
 have hb:Below wr.heap.size wr (wr.alloc o):=(brf _ _).alloc (nlr _) _;exact⟨h.r1.alloc o,h.r2.alloc o,(hb.cell (blt wr _ h.c0)).trans h.c0,(hb.cell (blt wr _ h.c1)).trans h.c1,h.ne,h.below.alloc hN o⟩
theorem Jl9(h:gapR w0 N g1 g2 q n P D wr)(i:Nat)(d:Bool):gapR w0 N g1 g2 q n P (D.set i d) (wr.setCell ⟨g2,i,none⟩ (.bool d)):=by
 obtain⟨s1,s2⟩:=h.r2.stored i (.bool d);have hlt:=h.r2.lt g2 rfl;have k1:=h.r1.kept s2 (.inr (by simp only[Value.ownBlock];intro e;exact h.ne.1 (osi e)));have e:(D.set i d).map Value.bool=(D.map Value.bool).set i (.bool d):=by rw[List.map_set]
 refine⟨k1,by rw[e];exact s1,?_,?_,h.ne,h.below.setCell (by show N<=g2;exact hlt.1) _⟩
 . rw[JeO h.ne.2.2];exact h.c0
 . rw[JeO h.ne.2.2];exact h.c1
theorem Js0(h:gapR w0 N g1 g2 q n P D wr)(i:Nat)(u:List UInt8):gapR w0 N g1 g2 q n (P.set i u) D (wr.setCell ⟨g1,i,none⟩ (.string ⟨u.toArray⟩)):=by
 obtain⟨s1,s2⟩:=h.r1.stored i (.string ⟨u.toArray⟩);have hlt:=h.r1.lt g1 rfl;have k2:=h.r2.kept s2 (.inr (by simp only[Value.ownBlock];intro e;exact h.ne.1 (osi e).symm));have e:(P.set i u).map strV=(P.map strV).set i (.string ⟨u.toArray⟩):=by rw[List.map_set];rfl
 refine⟨by rw[e];exact s1,k2,?_,?_,h.ne,h.below.setCell (by show N<=g1;exact hlt.1) _⟩
 . rw[JeO h.ne.2.1];exact h.c0
 . rw[JeO h.ne.2.1];exact h.c1
theorem JqR(h:gapR w0 N g1 g2 q n P D wr):gapR w0 N g1 g2 q n P D wr.drew:=⟨h.r1.drew,h.r2.drew,h.c0,h.c1,h.ne,h.below.drew⟩
theorem Jps(u:List UInt8)(c:UInt8):ByteArray.mk u.toArray++ByteArray.mk #[c]=ByteArray.mk (u++[c]).toArray:=by
 apply ByteArray.ext;rw[ByteArray.data_append];simp
def Jlp (g:GSt):Nat:=JbZ g.1+g.2.length
theorem JgF(f:List UInt8->GSt)(X:Nat)(hf:∀acc,Jlp (f acc)<=acc.length+X):∀(m:Nat)(acc:List UInt8),Jlp (Jfd acc m f)<=acc.length+X
 | 0,acc=>hf acc
 | m + 1,acc=>by
  have ih:=JgF f X hf m [];have e:Jlp (Jfd acc (m+1) f)=acc.length+Jlp (Jfd [] m f):=by
   show JbZ ((acc,true) :: (Jfd [] m f).1)+_=_;unfold Jlp JbZ;simp only[List.map_cons,List.sum_cons];show _+(Jfd [] m f).2.length=_;omega
  rw[e];simp only[List.length_nil]at ih;omega
theorem JhR(n:Int):∀(E:List Cel)(acc:List UInt8)(pos:Int),Jlp (gapE n E acc pos)<=acc.length+E.length
 | [],acc,pos=>by
  rw[gapE];exact JgF _ 0 (fun acc=>by simp[Jlp,JbZ]) _ acc
 | (i, c) :: E,acc,pos=>by
   rw[gapE]
   by_cases hi:i<0
   . rw[if_pos hi]
     have:=JhR n E (acc++[c]) pos;simp only[List.length_append,List.length_cons,List.length_nil]at this ⊢;omega
   . rw [if_neg hi]
     have ih:=JhR n E [] (i+1);have:=JgF (fun acc=>((acc,false) :: (gapE n E [] (i+1)).1,(gapE n E [] (i+1)).2)) E.length (fun acc=>by
      unfold Jlp JbZ at ih ⊢;simp only[List.map_cons,List.sum_cons,List.length_nil]at ih ⊢
      omega) (i - pos).toNat acc
     simp only[List.length_cons];omega
theorem Jqm(n:Int)(E:List Cel)(acc:List UInt8)(pos:Int):JbZ (gapE n E acc pos).1+(gapE n E acc pos).2.length<=acc.length+E.length:=JhR n E acc pos
def cmpD (w0:World) (N g1 g2 q n:Nat) (k:Nat) (i:Value) (wr:World):Prop :=
 ∃j:Nat,i=.int .i64 j/\j+k=n/\gapR w0 N g1 g2 q n (List.replicate (n+1) []) (List.replicate j true++List.replicate (n - j) false) wr
def cmpG (w0:World) (N g1 g2 q n:Nat) (E:List Cel) (k:Nat) (u22 i:Value) (wr:World):Prop :=
 ∃j:Nat,i=.int .i64 j/\j+k=E.length/\u22=.int .i64 (((E.take j).foldl Jds (cst0 n)).last:Nat)/\gapR w0 N g1 g2 q n ((E.take j).foldl Jds (cst0 n)).put ((E.take j).foldl Jds (cst0 n)).drop wr
def cmpA (w0:World) (N:Nat) (a:List Pt) (k:Nat) (u11 u12 u46:Value) (wr:World):Prop :=
 ∃j:Nat,u46=.int .i64 j/\j+k=a.length/\u12=.int .i64 (Jag (a.take j))/\wr.ownsRow N 289 2 u11 (midP 0 (a.take j)).length (JbX (midP 0 (a.take j)))/\Below N w0 wr
def cmpE (w0:World) (N:Nat) (M:List Cel) (b:List Pt) (k:Nat) (u16 u12 u84:Value) (wr:World):Prop :=
 ∃j:Nat,u84=.int .i64 j/\j+k=b.length/\u12=.int .i64 (Jag (b.take j))/\wr.ownsRow N 289 2 u16 (endP M (b.take j)).length (JbX (endP M (b.take j)))/\Below N w0 wr
def cmpK (w0:World) (N:Nat) (M:List Cel) (A0:Int) (K:Nat) (b:Nat) (o:Obj) (k:Nat) (u11 u12 u52:Value) (wr:World):Prop :=
 ∃t:Nat,u52=.int .i64 t/\t+k=K/\u12=.int .i64 (A0+t)/\wr.ownsRow N 289 2 u11 (M++Jb5 A0 t).length (JbX (M++Jb5 A0 t))/\Below N w0 wr/\wr.heap[b]?=some o
def cmpU (w0:World) (N:Nat) (M:List Cel) (U:List UInt8) (b:Nat) (o:Obj) (k:Nat) (u11 u65:Value) (wr:World):Prop :=
 ∃t:Nat,u65=.int .i64 t/\t+k=U.length/\wr.ownsRow N 289 2 u11 (M++putC (U.take t)).length (JbX (M++putC (U.take t)))/\Below N w0 wr/\wr.heap[b]?=some o
end
end Go.Proofs.YtedgnlgjmnccgabGreatDoor
