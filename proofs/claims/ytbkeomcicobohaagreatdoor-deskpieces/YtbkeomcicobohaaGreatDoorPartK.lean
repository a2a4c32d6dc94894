/-
  A part of the texts that the proof uses.
-/
import Derived.Test.YtbkeomcicobohaaGreatDoorPartJ
set_option maxRecDepth 100000
set_option maxHeartbeats 40000000
set_option linter.unusedVariables false
namespace Go.Proofs.YtbkeomcicobohaaGreatDoor
open Go.Proofs.Tryz Go.RowKit Go.Maps
section
attribute [local go_sem] Oper.semAt_some Jaj JaD
variable {s : List UInt8}{lo r bx bmx k : Nat}{w w' : World}{bs : List Nat}{us : List Int}{vc : Value}
def Jdi (s:List UInt8) (us:List Int):Rm:=⟨s,[],λ_=>none,0,us.map λu=>(u,Jdw s),[],0⟩
theorem Jrq(hV:V s)(hs:s.length<=2000){us:List Int}(hu:∀u∈us,JaH u):Inv (s.length:Int) 0 [s] (Jdi s us)/\Inv2 (Jdi s us)/\potR (Jdi s us)=0:=by
 have hcl:∀(k:Nat) (q:Int×Cl),(Jdi s us).cl[k]?=some q->q.2=Jdw s/\JaH q.1:=λk q hq=>by
  have hq:(us.map λu=>(u,Jdw s))[k]?=some q:=hq;rw[List.getElem?_map]at hq
  cases h:us[k]? with
  | none=>rw[h]at hq;cases hq
  | some u =>
   rw[h]at hq;obtain rfl:=osi hq;exact⟨rfl,hu u (List.mem_of_getElem? h)⟩
 refine⟨⟨⟨hV,hs,by omega,by omega,trivial,rfl⟩,⟨rfl,λk hk=>?_,rfl⟩,⟨rfl,λi x d hx=>?_,λd hd=>?_⟩,Nat.zero_le _,λk q hq=>?_,λp hp=>?_,Nat.zero_le _⟩,⟨λk q hq=>?_,λp hp=>?_⟩,rfl⟩
 . obtain rfl:k=0:=Nat.le_zero.1 hk
   exact⟨s,rfl,rfl⟩
 . simp[Jdi]at hx
 . rw[List.mem_singleton.1 hd];exact⟨hV,hs⟩
 . obtain⟨e,h1⟩:=hcl k q hq
   obtain⟨u,S⟩:=q;obtain rfl:S=Jdw s:=e;exact⟨h1,JsO hV,Int.le_refl _,rfl,⟨Int.le_refl _,by simp[Jdw]⟩,⟨Int.le_refl _,by simp[Jdw]⟩⟩
 . simp[Jdi]at hp
 . obtain⟨e,h1⟩:=hcl k q hq
   rw[e];refine⟨Int.le_refl _,λ_=>rfl,λj x _ hx=>?_,λhm=>absurd rfl hm,by show(0:Int)≠8;decide⟩;simp[Jdi]at hx
 . simp[Jdi]at hp
theorem Jrm{cl:List (Int×Cl)}(h:isCls lo w bs cl)(hb:Bw w w'){b:Nat}{u:Int}{S:Cl}(hc:isCl lo w' b (bs.length:Int) u S)(hn:w.heap.size<=b)(own1:∀x,ownC w' b x->x=b):isCls lo w' (bs++[b]) (cl++[(u,S)]):=by
 have h':=JgA h hb;have old:∀(j c x:Nat),bs[j]?=some c->ownC w' c x->x<w.heap.size:=λj c x hc hx=>by
  have hj:j<cl.length:=by rw[←h.len];exact(llt hc)
  have hcl:=h.each j c cl[j] hc (lgg hj);have:=JfD (X:=λ_=>False) (Jai hb _) (Jcq hcl) id hx;exact(JfE hcl this).2.1
 have at_:∀(j c:Nat),(bs++[b])[j]?=some c->bs[j]?=some c\/j=bs.length/\c=b:=λj c hc=>by
  rcases Nat.lt_or_ge j bs.length with hj|hj
  . rw[List.getElem?_append_left hj]at hc;exact .inl hc
  . have:j<(bs++[b]).length:=(llt hc)
    have hje:j=bs.length:=by simp at this;omega
    subst hje;rw[List.getElem?_append_right (nlr _),Nat.sub_self]at hc;exact .inr ⟨rfl,(osi hc).symm⟩
 refine⟨by simp[h.len],λk c q hk hq=>?_,λj k c c' hj hk hne x hx hx'=>?_⟩
 . rcases at_ k c hk with hk | ⟨rfl,rfl⟩
   . have hkl:k<cl.length:=by rw[←h.len];exact(llt hk)
     rw[List.getElem?_append_left hkl]at hq;exact h'.each k c q hk hq
   . rw[h.len,List.getElem?_append_right (nlr _),Nat.sub_self]at hq
     obtain rfl:(u,S)=q:=by simpa using hq
     exact hc
 . rcases at_ j c hj with hj1 | ⟨ej,ec⟩
   . rcases at_ k c' hk with hk1 | ⟨ek,ec'⟩
     . exact h'.apart j k c c' hj1 hk1 hne x hx hx'
     . have h1:=old j c x hj1 hx
       rw[ec']at hx';have h2:=own1 x hx';omega
   . rcases at_ k c' hk with hk1 | ⟨ek,ec'⟩
     . have h1:=old k c' x hk1 hx'
       rw[ec]at hx;have h2:=own1 x hx;omega
     . exact hne (ej.trans ek.symm)
theorem Jvi:(prog.info? 69).map (λi=>(i.zero,i.size,i.bytes))=some (some (.pointer none),1,8):=by kernel_rfl
theorem new_one(w:World)(v:Value)(T:TypeId)(j:Nat)(u:Value)(hj: [v][j]?=some u):(w.alloc (Oc #[v] T)).cell? (((Ad w.heap.size 0):Addr).add j)=some u:=by
 have hj0:j=0:=by have:=(llt hj);simp at this;exact this
 subst hj0;rw[Addr.add_lit];have:=chp (heap_alloc_new w (Oc #[v] T)) 0;obtain rfl:v=u:=by simpa using hj
 exact this
structure NewI (lo:Nat) (s:List UInt8) (us:List Int) (r bx bmx:Nat) (vc:Value) (bs:List Nat) (k:Nat) (w:World):Prop where
 low:lo<=r
 len:bs.length=k
 blk:w.heap[r]?=some (Oc #[Pd bx 0,vc,.slice none 0 0,I6 0] 68)
 row:w.ownsRow lo 69 1 vc bs.length (ptrs bs)
 cls:isCls lo w bs ((us.take k).map λu=>(u,Jdw s))
 srv:Jcv lo 0 w bx bmx s [] (λ_=>none)
theorem NewI.below(h:NewI lo s us r bx bmx vc bs k w)(hb:Bw w w'):NewI lo s us r bx bmx vc bs k w' :=
 ⟨h.low,h.len,(hb.block r (alt h.blk)).trans h.blk,Jbl h.row hb,JgA h.cls hb,Jc4 h.srv hb⟩
theorem NewI.push{w1:World}(h:NewI lo s us r bx bmx vc bs k w)(hb:Bw w w1){b:Nat}{u:Int}(hu:us[k]?=some u)(hc:isCl lo w1 b (k:Int) u (Jdw s))(hn:w.heap.size<=b)(own1:∀x,ownC w1 b x->x=b)(w2:World)(hb2:Bw w1 w2) :
    w2.ownsRow lo 69 1 vc bs.length (ptrs bs)/\∀w6 v2,w6.ownsRow lo 69 1 v2 (bs.length+1) (ptrs bs++[Pd b 0])->w2.grownBy w6 vc.ownBlock ->
     w6.cell? (Ad r 1)=some vc/\w6.frozen? (Ad r 1)=false/\NewI lo s us r bx bmx v2 (bs++[b]) (k+1) (w6.setCell (Ad r 1) v2):=by
 have hbb:Bw w w2:=hb.trans (hb2.mono hb.size);have h2:=h.below hbb;have hcl2:=JgA (Jrm h.cls hb (b:=b) (u:=u) (S:=Jdw s) (by rw[h.len];exact hc) hn own1) hb2;have hown:=λk=>Jeh (k:=k) h2.row;refine⟨h2.row,λw6 v2 hnew hg=>?_⟩;have hnb:some r≠vc.ownBlock:=λe=>by
  obtain⟨_,_,cs,hc⟩:=hown r e.symm;have:=JaB h2.blk hc;revert this;decide
 have hb6:=(hg.block r (alt h2.blk) hnb).trans h2.blk;have hfin:=heap_setCell_same w6 r 1 _ _ v2 hb6;have hS:sameBut w2 (w6.setCell (Ad r 1) v2) (λk=>k=r\/vc.ownBlock=some k):=(Jbb (S:=λk=>k=r\/vc.ownBlock=some k) hg λk e=>.inr e).comp (Jat (S:=λk=>k=r\/vc.ownBlock=some k) (.inl rfl)) λk _ h=>h
 have hX:∀k,k<w2.heap.size->(k=r\/vc.ownBlock=some k)->lo<=k/\∃cs T,w2.heap[k]?=some (Oc cs T)/\(T=68\/T=69):=λk hk e=>by
  rcases e with rfl|e
  . exact⟨h.low,_,_,h2.blk,.inl rfl⟩
  . obtain⟨a,_,cs,hc⟩:=hown k e
    exact⟨a,cs,_,hc,.inr rfl⟩
 have hpl:ptrs (bs++[b])=ptrs bs++[Pd b 0]:=by simp[ptrs]
 have hul:k<us.length:=(llt hu);have htk:us.take (k+1)=us.take k++[u]:=by rw[List.take_add_one,hu];rfl
 refine⟨chp hb6 1,JaP hb6,h.low,by simp[h.len],hfin,?_,?_,Jfr h2.srv hS λx hx e=>?_⟩
 . rw[hpl,List.length_append]
   refine JcP (S:=λk=>k=r) hnew (Jat rfl) λk hk e=>?_;subst e;obtain⟨_,_,cs,hc⟩:=Jeh hnew hk;have:=JaB hb6 hc;revert this;decide
 . rw [htk,List.map_append]
   refine JfH hcl2 hS (λx hx e=>?_) λc hc x e hx=>?_
   . obtain⟨a,cs,T,hc,hT⟩:=hX x hx e
     exact⟨a,Ja8 hc (by rcases hT with rfl|rfl<;>decide)⟩
   . obtain⟨_,hlt,cs,T,hc',hT⟩:=Jj8 hcl2 hc hx
     obtain⟨_,cs2,T2,hc2,hT2⟩:=hX x hlt e;have:=JaB hc' hc2;subst this
     rcases hT with rfl|rfl<;>rcases hT2 with e|e<;>revert e<;>decide
 . obtain⟨a,cs,T,hc,hT⟩:=hX x hx e
   exact⟨a,cs,T,_,hc,by rcases hT with rfl|rfl<;>decide,by rcases hT with rfl|rfl<;>decide,by rcases hT with rfl|rfl<;>decide⟩
theorem JmZ(s:List UInt8)(hV:V s)(hs:s.length<=2000)(us:List Int)(hul:us.length<=6)(v:Value)(lo:Nat)(w:World)(he:Env lo w)(hlo:lo<=w.heap.size)(hus:Je5 w v us) :
    Cg 13 #[Sx s,v] w λe w'=>Bw w w'/\((∀u∈us,JaH u)/\(∃r bx bmx bs,e=.returned (.tuple #[Pd r 0,.nilIface])/\isRoom lo w' r bx bmx bs (Jdi s us)/\w.heap.size<=r)\/(∃u∈us,¬JaH u)/\e=.returned (.tuple #[.pointer none,.iface 25 (I6 1)])):=by
 have hsc:=Joa hV;have CN:Hid _:=JiR lo s hs hsc w hlo he.tabs
 have CC:Hid (∀wx (k:Int) (u:Int),Bw w wx->JaH u->Cg 24 #[I6 k,I6 u,Sx s] wx λe w'=>∃b,e=.returned (.tuple #[Pd b 0,.nilIface])/\isCl lo w' b k u (Jdw s)/\wx.heap.size<=b/\Bw wx w'/\∀x,ownC w' b x->x=b):=λwx k u hb hu=>by
  obtain⟨rs,hR,rfl⟩:=hV;obtain ⟨m,hm,hmu⟩:∃m:Nat,u=(m:Int)/\Juq m:=by
   rcases hu with rfl|rfl|rfl
   . exact⟨1,rfl,.inl rfl⟩
   . exact⟨2,rfl,.inr (.inl rfl)⟩
   . exact⟨3,rfl,.inr (.inr rfl)⟩
  rw[hm];have hc1:(encs rs).length=C1 rs:=(Jcb rs).symm;exact Jr6 k lo m hmu rs hR (by omega) wx (Nat.le_trans hlo hb.size) (Go.Proofs.Utf8Tabs_below he.tabs hb)
 obtain⟨p,c,rfl,q1,q2,q3⟩:=hus;have HUS:=hdz q3;have HLO:=hdz hlo;obtain⟨N,hN⟩:∃N,us.length=N:=⟨_,rfl⟩;have HN:=hdz hN;rw[hN]at q1 hul ⊢;unfold maxLen at q2;have hNi:(N:Int)<=6:=by omega
 have hNj:¬(6:Int)<(N:Int):=by omega
 obtain⟨i0,hi0,hq0,hq1,hq2⟩:=info_parts Jvi;clear he hlo hV hs hsc q3 hN
 go_enter func13,ntmps13
 go_wp2_with (go_at_call 23;refine Calls.mono CN.out ?_;rintro e w1 ⟨bx,bmx,rfl,h1,hm1,hb1⟩;have H1:=hdz h1;have HB1:=hdz hb1;clear h1 hb1 hm1)
 have hb2:Bw w1 (w1.alloc (.cells #[Pd bx 0,.slice none 0 0,.slice none 0 0,I6 0] 68)):=zA _ _
 have HI:Hid (NewI lo s us w1.heap.size bx bmx (.slice none 0 0) [] 0 (w1.alloc (.cells #[Pd bx 0,.slice none 0 0,.slice none 0 0,I6 0] 68))) :=
  ⟨Nat.le_trans HLO.out HB1.out.size,rfl,heap_alloc_new _ _,World.ownsRow_nil _ _ _ _,⟨rfl,λk b q hk=>by simp at hk,λj k b b' hj=>by simp at hj⟩,Jc4 H1.out hb2⟩
 have HB2:Hid (Bw w (w1.alloc (.cells #[Pd bx 0,.slice none 0 0,.slice none 0 0,I6 0] 68))):=HB1.out.trans (hb2.mono HB1.out.size);obtain⟨r,hr⟩:∃r,w1.heap.size=r:=⟨_,rfl⟩;rw[hr]at HI ⊢;have HRW:Hid (w.heap.size<=r):=hr ▸ HB1.out.size;clear hb2 hr
 go_loopw [30] (λi wr=>∃k:Nat,i=.int .i64 k/\k<=N/\(∀u∈us.take k,JaH u)/\∃vc bs,NewI lo s us r bx bmx vc bs k wr/\Bw w wr/\∀j,vc.ownBlock=some j->w.heap.size<=j) (λi _=>N - (intOf i).toNat)
 case atStart=>exact⟨0,rfl,Nat.zero_le _,λu hu=>(by cases hu),_,[],HI.out,HB2.out,λj hj=>by cases hj⟩
 case round =>
  obtain⟨k,rfl,hk,hok,vc,bs,h1,h2,h3⟩:=hrel;have HOK:=hdz hok;clear hok;have HI1:=hdz h1;have HW1:=hdz h2;have hki:(k:Int)<=6:=by omega
  clear HI HB2
  by_cases hlt:k<N
  . have hki2:(k:Int)<(N:Int):=by omega
    have hkul:k<us.length:=by rw[HN.out];exact hlt
    have hku:us[k]?=some us[k]:=lgg hkul;have hne:us≠[]:=λe=>by have:=HN.out;rw[e]at this;simp at this;omega
    obtain⟨b0,o,rfl,hb0,hat⟩:=HUS.out hne;have g0:=(zC h2 b0 (o+k) hb0).trans (hat k _ hku);have HTK:=hdz (List.take_succ_eq_append_getElem hkul);have HME:=hdz (List.getElem_mem hkul);have HKU:=hdz hku;generalize us[k]=u at *;obtain⟨pc,cc,evc⟩:=Jak h1.row;subst evc
    by_cases hou:JaH u
    case neg =>
     have CCB:Hid _:=Jr5 (k:Int) u hou ⟨s.toArray⟩ wr;have HNO:=hdz hou;clear h1 h2 h3 hat hku hne hou
     go_wp2_with (go_at_call 24;refine Calls.mono CCB.out ?_;rintro e w3 ⟨rfl,hb3⟩;have HB3:=hdz (HW1.out.trans (hb3.mono HW1.out.size));clear hb3)
     go_ret2
     exact⟨HB3.out,.inr ⟨⟨_,HME.out,HNO.out⟩,rfl⟩⟩
    have HOU:=hdz hou;have CCK:Hid _:=CC.out wr (k:Int) u h2 hou;have hrow:=h1.row;have hlen:=h1.len;have hcm:bs.length<=6:=by omega
    have HOWN:=hdz h3;clear h1 h2 h3 hat hku hne hou hrow hlen
    go_wp2_with (first
     | (go_at_call 24;refine Calls.mono CCK.out ?_;rintro e w3 ⟨b,rfl,hc3,hn3,hb3,ho3⟩;have hpush:=λw2 hb2=>NewI.push HI1.out hb3 HKU.out hc3 hn3 ho3 w2 hb2;have HP:=hdz hpush;have HB3:Hid (Bw w w3):=HW1.out.trans (hb3.mono HW1.out.size);have x1:w3.cell? (Ad r 1)=some (.slice pc bs.length cc):=(zC hb3 r 1 (alt HI1.out.blk)).trans (chp HI1.out.blk 1);have hr3:r<w3.heap.size:=Nat.lt_of_lt_of_le (alt HI1.out.blk) hb3.size;clear hpush hc3 hn3 hb3 ho3)
     | (at_builtin;obtain⟨hrow2,hfin2⟩:=HP.out _ ((brf _ _).alloc (nlr _) (.cells #[Pd b 0] 69));have HF:=hdz hfin2;have HBA:Hid (Bw w (w3.alloc (.cells #[Pd b 0] 69))):=HB3.out.alloc HB3.out.size _;refine JeD _ rfl _ _ 65 rfl lo 69 i0 (.pointer none) 1 8 underlying65 hi0 hq0 hq1 hq2 rfl (by decide) _ _ _ rfl hrow2 (Ad w3.heap.size 0) 1 1 [Pd b 0] rfl rfl (new_one _ _ _) (λu hu=>by rw[List.mem_singleton.1 hu];rfl) (by unfold maxLen;omega) (by omega) (by have h1:=HLO.out;have h2:=HBA.out.size;omega) (by omega) ?_;clear hfin2 hrow2))
    intro v2 w6 hown' hg' hvn;obtain⟨y1,y2,y3⟩:=HF.out w6 v2 hown' hg';have Y3:=hdz y3;have HB6:Hid (Bw w (w6.setCell (Ad r 1) v2)):=(HBA.out.grown hg' HBA.out.size λj hj=>HOWN.out j hj).setCell (p:=(Ad r 1)) HRW.out v2;have HVN:Hid (∀j,v2.ownBlock=some j->w.heap.size<=j):=λj hj=>(hvn j hj).elim (HOWN.out j) λh=>by have h1:=HBA.out.size;rw[wsa]at h1;have h:w3.heap.size+1<=j:=h;omega
    obtain⟨p6,c6,rfl⟩:=Jak hown';clear hown' hg' y3 hvn;go_wp2
    go_roundw
    case rel=>exact⟨k+1,by go_num,by omega,λx hx=>by rw[HTK.out]at hx;rcases List.mem_append.1 hx with hx|hx;exact HOK.out x hx;rw[List.mem_singleton.1 hx];exact HOU.out,_,_,Y3.out,HB6.out,HVN.out⟩
    case measure=>simp[intOf];omega
  . obtain rfl:k=N:=by omega
    have hki2:¬((k:Int)<(k:Int)):=by omega
    go_wp2
    go_ret2
    refine⟨HW1.out,.inl ⟨λx hx=>HOK.out x (by rw[List.take_of_length_le (Nat.le_of_eq HN.out)];exact hx),r,rfl,⟨bx,bmx,bs,?_⟩,HRW.out⟩⟩;have h:=HI1.out;have hc:=h.cls;rw[List.take_of_length_le (Nat.le_of_eq HN.out)]at hc;exact⟨h.low,⟨_,_,h.blk,h.row,Jth _ _ _⟩,hc,h.srv⟩
theorem JqO(s:List UInt8)(hV:V s)(hs:s.length<=2000)(us:List Int)(hu:∀u∈us,JaH u)(hul:us.length<=6)(v:Value)(lo:Nat)(w:World)(he:Env lo w)(hlo:lo<=w.heap.size)(hus:Je5 w v us) :
    Cg 13 #[Sx s,v] w λe w'=>∃r bx bmx bs,e=.returned (.tuple #[Pd r 0,.nilIface])/\isRoom lo w' r bx bmx bs (Jdi s us)/\Bw w w'/\w.heap.size<=r :=
 (JmZ s hV hs us hul v lo w he hlo hus).mono λe w' ⟨hb,h⟩=>by
   rcases h with ⟨_,r,bx,bmx,bs,e1,h1,h2⟩|⟨⟨u,h1,h2⟩,_⟩
   . exact⟨r,bx,bmx,bs,e1,h1,hb,h2⟩
   . exact absurd (hu u h1) h2
theorem JqN(s:List UInt8)(hsc:(scan s).2=true)(hs:s.length<=2000)(us:List Int)(hul:6<us.length)(v:Value)(lo:Nat)(w:World)(he:Env lo w)(hlo:lo<=w.heap.size)(hus:Je5 w v us) :
    Cg 13 #[Sx s,v] w (Rt w (.tuple #[.pointer none,.iface 25 (I6 4)])):=by
 have CN:Hid _:=JiR lo s hs hsc w hlo he.tabs;obtain⟨p,c,rfl,q1,q2,_⟩:=hus;have hNj:(6:Int)<(us.length:Int):=by omega
 clear he hlo hs hsc
 go_enter func13,ntmps13
 go_wp2_with (go_at_call 23;refine Calls.mono CN.out ?_;rintro e w1 ⟨bx,bmx,rfl,h1,hm1,hb1⟩;clear h1 hm1)
 go_ret2
 exact⟨rfl,hb1⟩
theorem Js5(s:List UInt8)(hsc:(scan s).2=false)(hs:s.length<=2000)(v:Value)(us:List Int)(w:World)(hT:Lib.Utf8Tabs 3 4 w)(hus:Je5 w v us) :
    Cg 13 #[Sx s,v] w λe w'=>∃x w1,e=.returned (.tuple #[.pointer none,x])/\isAt w w1 x (Jgq s)/\Bw w1 w'/\Bw w w':=by
 have CN:Hid _:=Jq9 s (by omega) hsc w hT;obtain⟨p,c,rfl,q1,q2,_⟩:=hus;clear hs hsc hT
 go_enter func13,ntmps13
 go_wp2_with (go_at_call 23;refine Calls.mono CN.out ?_;rintro e w1 ⟨x,wy,rfl,h1,h2,hb1⟩;obtain⟨bb,rfl,hA⟩:=h1;have HA:=hdz hA;have H2:=hdz h2;clear h2 hA)
 go_ret2
 exact⟨_,wy,rfl,⟨bb,rfl,HA.out⟩,H2.out,hb1⟩
end
structure DkS where
 l0:Int
 R:Rm
def newS (s:List UInt8) (us:List Int):DkS:=⟨s.length,Jdi s us⟩
abbrev Jdx:=DkS->List (List UInt8)->DkS×Except Int (List UInt8)
def wd (ws:List (List UInt8)) (i:Nat):List UInt8:=(ws[i]?).getD []
def inR (n:Nat) (k:Int):Int:=if 0<=k/\k<(n:Int) then 0 else 2
def oneV (E:DkS->Int->Int) (f:DkS->Int->DkS):Jdx:=λS ws =>
 match numW (wd ws 1) with
 | none=>(S,.error 3)
 | some k=>if E S k=0 then (f S k,.ok (wd ws 0)) else (S,.error (E S k))
def sendV:Jdx:=oneV (λS k=>inR S.R.cl.length k) λS k=>{ S with R:=JdO S.R k.toNat }
def Jt8:Jdx:=oneV (λS k=>inR S.R.fl.length k) λS k=>{ S with R:=Jcn S.l0 S.R k.toNat }
def loseV:Jdx:=oneV (λS k=>inR S.R.fl.length k) λS k=>{ S with R:=outR S.R k.toNat }
def Jlt (R:Rm) (i:Nat):Rm:=match R.fl[i]? with | some p=>JbK R p | none=>R
def Jse:Jdx:=oneV (λS k=>inR S.R.fl.length k) λS k=>{ S with R:=Jlt S.R k.toNat }
def Js7:Jdx:=λS ws=>({ S with R:=JeI S.l0 S.R },.ok (wd ws 0))
def manyV:Jdx:=λS _=>(S,.ok (JcV [(S.R.fl.length:Int)]))
def cliV (f:Cl->List UInt8):Jdx:=λS ws=>(S,(cliD S.R.cl.length (wd ws 1)).map λk=>f (clK S.R k).2)
def revV:Jdx:=cliV revT
def textV:Jdx:=cliV λc=>Jh5 c.doc
def seenV:Jdx:=cliV λc=>Jh5 c.seen
def Jo3:Jdx:=λS _=>(S,.ok (JiX S.R))
def Jqh:Jdx:=λS ws=>(S,Jj5 (Ja2 (wd ws 1)))
def JlF (u at_:Int) (rs:List Nat):Except Int (List Int) :=
 if ¬(u=1\/u=2\/u=3) then .error 1
 else if at_<0\/by_ u rs<at_ then .error 2
 else if by_ u (upTo rs u at_)=at_ then .ok [C4 (upTo rs u at_),by_ u (upTo rs u at_) - by_ u (find (Ja3 (C4 (upTo rs u at_))) [] rs)]
 else .error 10
def JgW (u line col:Int) (rs:List Nat):Except Int (List Int) :=
 if ¬(u=1\/u=2\/u=3) then .error 1
 else if line<0\/C4 rs<line then .error 2
 else if col<0\/endL u line rs - Jbt u line rs<col then .error 2
 else if Jbt u line rs+col<0\/by_ u rs<Jbt u line rs+col then .error 2
 else if by_ u (upTo rs u (Jbt u line rs+col))=Jbt u line rs+col then .ok [by_ u (upTo rs u (Jbt u line rs+col))]
 else .error 10
def docV (f:List Int->List Nat->Except Int (List Int)):Jdx:=λS ws=>(S,
 match Jdq (ws.drop 2) with
 | none=>.error 3
 | some ns=>if (scan (Ja2 (wd ws 1))).2=true then (f ns (Ja0 (Ja2 (wd ws 1)))).map JcV else .error 3)
def iAt (ns:List Int) (i:Nat):Int:=(ns[i]?).getD 0
def spotV:Jdx:=docV λns rs=>JlF (iAt ns 0) (iAt ns 1) rs
def JsD:Jdx:=docV λns rs=>JgW (iAt ns 0) (iAt ns 1) (iAt ns 2) rs
def Jl3 (u:Int):Bool:=decide (u=1\/u=2\/u=3)
def Jf2:Jdx:=λS ws =>
 match Jdq (ws.drop 2) with
 | none=>(S,.error 3)
 | some us =>
  if (scan (Ja2 (wd ws 1))).2=true then
   if 6<us.length then (S,.error 4) else if us.all Jl3=true then (newS (Ja2 (wd ws 1)) us,.ok (wd ws 0)) else (S,.error 1)
  else (S,.error 3)
def Jmj:Jdx:=λS ws =>
 match Jd7 (ws.drop 2) with
 | none=>(S,.error 3)
 | some ps=>match cliD S.R.cl.length (wd ws 1) with
  | .error n=>(S,.error n)
  | .ok k=>({ S with R:=Jmk S.R k ps },if edE (clK S.R k).1 (clK S.R k).2 ps=0 then .ok (wd ws 0) else .error (edE (clK S.R k).1 (clK S.R k).2 ps))
/-! the words that a line may begin with -/
def JrV:List UInt8:=[98,101,103,105,110]
def wEdit:List UInt8:=[101,100,105,116]
def wSend:List UInt8:=[115,101,110,100]
def Jl0:List UInt8:=[100,101,108,105,118,101,114]
def wLose:List UInt8:=[108,111,115,101]
def JrR:List UInt8:=[116,119,105,99,101]
def JrS:List UInt8:=[113,117,105,101,116]
def wMany:List UInt8:=[109,97,110,121]
def wRev:List UInt8:=[114,101,118]
def wText:List UInt8:=[116,101,120,116]
def wSeen:List UInt8:=[115,101,101,110]
def Jof:List UInt8:=[115,101,114,118,101,114]
def JrU:List UInt8:=[99,111,117,110,116]
def wSpot:List UInt8:=[115,112,111,116]
def JrT:List UInt8:=[112,108,97,99,101]
def wHelp:List UInt8:=[104,101,108,112]
def helpT:List UInt8:=Lib.join [JrV,JrU,Jl0,wEdit,wHelp,wLose,wMany,JrT,JrS,wRev,wSeen,wSend,Jof,wSpot,wText,JrR] [32]
def helpV:Jdx:=λS _=>(S,.ok helpT)
structure Vb where
 word:List UInt8
 behind:Nat
 more:Bool
 fn:FuncId
 does:Jdx
def tabL:List Vb:=[⟨JrV,1,true,25,Jf2⟩,⟨wEdit,1,true,26,Jmj⟩,⟨wSend,1,false,27,sendV⟩,⟨Jl0,1,false,28,Jt8⟩,
 ⟨wLose,1,false,29,loseV⟩,⟨JrR,1,false,30,Jse⟩,⟨JrS,0,false,31,Js7⟩,⟨wMany,0,false,32,manyV⟩,
 ⟨wRev,1,false,33,revV⟩,⟨wText,1,false,34,textV⟩,⟨wSeen,1,false,35,seenV⟩,⟨Jof,0,false,36,Jo3⟩,
 ⟨JrU,1,false,37,Jqh⟩,⟨wSpot,3,false,38,spotV⟩,⟨JrT,4,false,39,JsD⟩,⟨wHelp,0,false,40,helpV⟩]
def JfM (w:List UInt8):List Vb->Option Vb
 | []=>none
 | v :: vs=>if w=v.word then some v else JfM w vs
def Jro (v:Vb) (n:Nat):Bool:=decide (n=v.behind) || (decide (v.behind<n) && v.more)
def ansD:Except Int (List UInt8)->List UInt8
 | .ok t=>t
 | .error n=>errT n
def JeR (S:DkS) (ws:List (List UInt8)):DkS×Except Int (List UInt8) :=
 match ws with
 | []=>(S,.ok [111,107])
 | w :: rest=>match JfM w tabL with
  | none=>(S,.error 3)
  | some v=>if Jro v rest.length=true then v.does S (w :: rest) else (S,.error 3)
def Jcu (S:DkS) (line:List UInt8):DkS×List UInt8:=((JeR S (Jcx line)).1,ansD (JeR S (Jcx line)).2)
def Jcr:DkS:=newS [] [1,2,3]
def Jez (t:List UInt8):List UInt8:=runD Jcu Jcr (cutD (JcT t))
section
variable {lo r bx bmx q i m : Nat}{w w1 w2 w' : World}{bs : List Nat}{S : DkS}{v : Value}{ws : List (List UInt8)}
structure EnvD (lo:Nat) (w:World):Prop where
 env:Env lo w
 nums:EnvK w
 low:1<lo/\7<lo/\8<lo
theorem JqS{w w':World}{X:Nat->Prop}(h:Lib.TabIs Tryz.prog w "internal/strconv.uint64pow10" .u64 Lib.pow10Tab)(hs:sameBut w w' X)(hX:¬X 1):Lib.TabIs Tryz.prog w' "internal/strconv.uint64pow10" .u64 Lib.pow10Tab:=by
 have hg:Tryz.prog.globalNamed "internal/strconv.uint64pow10" = some 1:=by kernel_rfl
 unfold Lib.TabIs World.var? at h ⊢;rw[hg]at h ⊢;simp only[Option.bind_some]at h ⊢;have hlt:1<w.heap.size:=by
  rcases Nat.lt_or_ge 1 w.heap.size with h' | h'
  . exact h'
  . rw[Array.getElem?_eq_none h']at h;cases h
 rw[hs.block _ hlt hX];exact h
theorem EnvD.below{lo:Nat}{w w':World}(h:EnvD lo w)(hb:Bw w w'):EnvD lo w':=⟨h.env.below hb,h.nums.below hb,h.low⟩
theorem EnvD.same{lo:Nat}{w w':World}{X:Nat->Prop}(h:EnvD lo w)(hs:sameBut w w' X)(hX:∀k,X k->lo<=k):EnvD lo w':=by
 obtain⟨h1,⟨t1,⟨te,pe,t2⟩,te',pe',t3⟩,l1,l2,l3⟩:=h;have no:∀{g:Nat},g<lo->¬X g:=λhg e=>absurd (hX _ e) (Nat.not_le.2 hg);exact⟨h1.same hs hX,⟨JqS t1 hs (no l1),⟨te,pe,JcM hs t2 (no l2)⟩,te',pe',JcM hs t3 (no l3)⟩,l1,l2,l3⟩
def tabV (q:Nat) (v:Vb):Value:=.agg #[I6 (v.behind:Int),.bool v.more,.func (.func v.fn) #[Pd q 0] #[]]
def tabG (q:Nat):Nat->List Vb->List MapEntry
 | _,[]=>[]
 | i,v :: vs=>{ key:=Sx v.word,val:=tabV q v,born:=i } :: tabG q (i+1) vs
def JeK (w:World) (mp q:Nat):Prop:=w.heap[mp]?=some (.map (tabG q 0 tabL).toArray 16)
def Jj3 (T:TypeId):Prop:=Jfh T\/T=47
def Jbx (lo:Nat) (w:World) (k:Nat):Prop:=lo<=k/\((∃cs T,w.heap[k]?=some (Oc cs T)/\Jj3 T)\/∃es c,w.heap[k]?=some (.map es c))
theorem JhU(h:sameBut w w1 (Jbx lo w))(h':sameBut w1 w2 (Jbx lo w1)):sameBut w w2 (Jbx lo w):=h.comp h' λk hk e=>by
 by_cases hn:Jbx lo w k
 . exact hn
 . have:=h.block k hk hn
   unfold Jbx at e ⊢;rw[this]at e;exact e
theorem Jbe(h:Bw w w1):sameBut w w1 (Jbx lo w):=Jai h _
theorem JhV(h:sameBut w w1 (Jbx lo w))(hb:Bw w1 w2):sameBut w w2 (Jbx lo w):=JhU h (Jbe hb)
theorem Jd1(hb:Bw w w1)(h:sameBut w1 w2 (Jbx lo w1)):sameBut w w2 (Jbx lo w):=JhU (Jbe hb) h
theorem Jut{R:Rm}(h:isRoom lo w r bx bmx bs R)(hs:sameBut w w' (JaE lo w bmx)):sameBut w w' (Jbx lo w):=hs.mono λk _ e=>by
 refine⟨e.1,?_⟩
 rcases e.2 with rfl|⟨cs,T,hc,hT⟩
 . obtain⟨D,⟨es,clock,hb,_⟩,_⟩:=h.srv.2.2.2
   exact .inr ⟨es,clock,hb⟩
 . exact .inl ⟨cs,T,hc,.inl hT⟩
structure isSes (lo:Nat) (w:World) (q:Nat) (S:DkS):Prop where
 env:EnvD lo w
 low:lo<=q
 st:∃r bx bmx bs mp,w.heap[q]?=some (Oc #[Pd r 0,.map (some mp)] 47)/\isRoom lo w r bx bmx bs S.R/\bmx≠mp/\JeK w mp q
theorem isSes.lt(h:isSes lo w q S):q<w.heap.size:=by
 obtain⟨_,_,r,bx,bmx,bs,mp,h1,_⟩:=h;exact(alt h1)
theorem isSes.below{lo:Nat}{w w':World}{q:Nat}{S:DkS}(h:isSes lo w q S)(hb:Bw w w'):isSes lo w' q S:=by
 obtain⟨h0,hl,r,bx,bmx,bs,mp,h1,h2,h3,h4⟩:=h;exact⟨h0.below hb,hl,r,bx,bmx,bs,mp,(hb.block q (alt h1)).trans h1,Jal h2 hb,h3,(hb.block mp (alt h4)).trans h4⟩
theorem Jh9{mp:Nat}{R':Rm}(he:EnvD lo w)(hl:lo<=q)(h1:w.heap[q]?=some (Oc #[Pd r 0,.map (some mp)] 47))(h2:isRoom lo w r bx bmx bs S.R)(h3:bmx≠mp)(h4:JeK w mp q)
    (hr:isRoom lo w' r bx bmx bs R') (hs:sameBut w w' (JaE lo w bmx)):isSes lo w' q { S with R:=R' }/\sameBut w w' (Jbx lo w)/\w'.heap[q]?=w.heap[q]?:=by
 have nq:¬JaE lo w bmx q:=λe=>by
  rcases e.2 with rfl|⟨cs,T,hc,hT⟩
  . exact Jb0 h2.srv.2.2.2 _ _ _ h1
  . have:=JaB h1 hc
    subst this;revert hT;unfold Jfh;decide
 have nm:¬JaE lo w bmx mp:=λe=>by
  rcases e.2 with e|⟨cs,T,hc,hT⟩
  . exact h3 e.symm
  . unfold JeK at h4;rw[h4]at hc;cases hc
 refine⟨⟨he.same hs λk e=>e.1,hl,r,bx,bmx,bs,mp,(hs.block q (alt h1) nq).trans h1,hr,h3,(hs.block mp (alt h4) nm).trans h4⟩,Jut h2 hs,hs.block q (alt h1) nq⟩
def DInv (k:Nat) (S:DkS):Prop:=∃(n:Int) (D:List (List UInt8)),n<=k/\Inv S.l0 n D S.R/\potR S.R<=2400*k/\S.R.cl.length<=6
theorem DInv.more{k:Nat}(h:DInv k S):DInv (k+1) S:=by
 obtain⟨n,D,a,b,c,d⟩:=h;exact⟨n,D,by omega,b,by omega,d⟩
def wordsAt (w:World) (v:Value) (ws:List (List UInt8)):Prop:=JcE w v ws/\∀b,v.ownBlock=some b->∃cs fz,w.heap[b]?=some (.cells cs 9 fz)
theorem wordsAt.notK(h:wordsAt w v ws){b:Nat}(hb:v.ownBlock=some b):¬Jbx lo w b:=λe=>by
 obtain⟨cs,fz,hc⟩:=h.2 b hb
 rcases e.2 with ⟨cs',T,hc',hT⟩|⟨es,c,hm⟩
 . have:=JaB hc hc'
   subst this;revert hT;unfold Jj3 Jfh;decide
 . rw[hm]at hc;cases hc
theorem wordsAt.below(h:wordsAt w v ws)(hb:Bw w w'):wordsAt w' v ws :=
 ⟨JhW h.1 hb,λb hv=>by obtain⟨cs,fz,hc⟩:=h.2 b hv;exact⟨cs,fz,(hb.block b (alt hc)).trans hc⟩⟩
def Jdm (f:FuncId) (v:Jdx) (n:Nat):Prop:=∀(lo:Nat) (w:World) (q:Nat) (S:DkS) (k:Nat) (ws:List (List UInt8)) (vw:Value),isSes lo w q S->DInv k S->k<=3000->wordsAt w vw ws->(∀s∈ws.drop 1,s.length<=1999)->ws.length<=1001->n<=ws.length ->
 Cg f #[Pd q 0,vw] w λe w'=>e=JgJ (v S ws).2/\isSes lo w' q (v S ws).1/\sameBut w w' (Jbx lo w)
theorem Jc8{f:FuncId}{args:Array Value}{x:Except Int (List UInt8)}(h:isSes lo w q S)(hc:Cg f args w λe w'=>e=JgJ x/\Bw w w') :
    Cg f args w λe w'=>e=JgJ x/\isSes lo w' q S/\sameBut w w' (Jbx lo w) :=
 hc.mono λe w' ⟨a,b⟩=>⟨a,h.below b,Jbe b⟩
theorem Jh2(h:i<ws.length):ws[i]?=some (wd ws i):=by unfold wd;rw[lgg h];rfl
theorem Jgs(hs:∀s∈ws.drop 1,s.length<=m)(hi:1<=i:=by omega):(wd ws i).length<=m:=by
 unfold wd
 cases h:ws[i]? with
 | none=>simp
 | some s =>
  refine hs s ?_;have e:i=1+(i - 1):=by omega
  rw[e,←List.getElem?_drop]at h;exact List.mem_of_getElem? h
theorem JgM{b o n c:Nat}(h:JcE w (.slice (some (Ad b o)) n c) ws)(hm:m<=n):JcE w (.slice (if c=m then some (Ad b o) else some (Ad b (o+m))) (n - m) (c - m)) (ws.drop m):=by
 obtain⟨p,c',h1,h2,h3,h4⟩:=h;injection h1 with e1 e2 e3;subst e1 e2 e3;refine⟨_,_,by rw[List.length_drop],by rw[List.length_drop];omega,by omega,λhne=>?_⟩;have hlt:m<ws.length:=by
  rcases Nat.lt_or_ge m ws.length with h|h
  . exact h
  . exact absurd (List.drop_of_length_le h) hne
 obtain⟨b',o',e,hb,hc⟩:=h4 λe=>by rw[e]at hlt;exact absurd hlt (Nat.not_lt_zero _)
 injection e with e;injection e with e1 e2 _;subst e1 e2;rw[if_neg (by omega)];refine⟨b,o+m,rfl,hb,λi s hi=>?_⟩;rw[List.getElem?_drop]at hi;have:=hc (m+i) s hi;rwa[←Nat.add_assoc]at this
end
def JcH (T:List PanicEntry->World->Prop) (P:Program) (o:Oper) (a:Act) (K:Act->World->Prop):Result Next->Prop
 | .ok (.value v) w'=>K (a.put o.dst v) w'
 | .ok .skip w'=>K (a.put o.dst undef) w'
 | .ok (.enter f args) w'=>Calls P f args w' λe w''=>(∃v,e=.returned v/\K (a.put o.dst v) w'')\/∃c,e=.panicked c/\T c w''
 | _=>False
theorem Jgb(a:Act)(d:Option Tmp)(v:Value):(a.put d v).defers=a.defers:=by cases d<;>rfl
theorem JlU{T:List PanicEntry->World->Prop}{P:Program}{o:Oper}{a:Act}{K K':Act->World->Prop}(h:∀a' w,a'.defers=a.defers->K a' w->K' a' w){r:Result Next}(hh:JcH T P o a K r):JcH T P o a K' r:=by
 cases r with
 | ok n w =>
  cases n<;>simp only[JcH]at hh ⊢
  case value=>exact h _ _ (Jgb _ _ _) hh
  case skip=>exact h _ _ (Jgb _ _ _) hh
  case enter=>exact hh.mono λe w hx=>hx.elim (λ⟨v,e1,e2⟩=>.inl ⟨v,e1,h _ _ (Jgb _ _ _) e2⟩) .inr
 | halt x w=>simp only[JcH]at hh
theorem Joh{T:List PanicEntry->World->Prop}{P:Program}{Q:Exit->Act->World->Prop}{o:Oper}{a:Act}{K:Act->World->Prop}(hQ:∀c w,T c w->Q (.panic c) a w){r:Result Next}(hh:JcH T P o a K r):o.upon P a K Q r:=by
 cases r with
 | ok n w =>
  cases n<;>simp only[JcH]at hh<;>simp only[Oper.upon]
  case value=>exact hh
  case skip=>exact hh
  case enter=>exact hh.mono λe w hx=>hx.elim (λ⟨v,e1,e2⟩=>by subst e1;exact e2) (λ⟨c,e1,e2⟩=>by subst e1;exact hQ c w e2)
 | halt x w=>simp only[JcH]at hh
def opT (T:List PanicEntry->World->Prop) (P:Program) (ops:Array Oper) (i:Nat) (K:Act->World->Prop) (a:Act) (w:World):Prop :=
 match ops[i]? with
 | none=>K a w
 | some o=>if Region.wanted o (yielded ops a.tmps) then JcH T P o a K ((execOp a.eval o).run P w) else K (a.put o.dst undef) w
theorem Jnh{T:List PanicEntry->World->Prop}{P:Program}{ops:Array Oper}{i:Nat}{K K':Act->World->Prop}{a:Act}{w:World}(h:∀a' w,a'.defers=a.defers->K a' w->K' a' w)(hh:opT T P ops i K a w):opT T P ops i K' a w:=by
 unfold opT at *
 split
 . rename_i ho;simp only[ho]at hh;exact h _ _ rfl hh
 . rename_i o ho
   simp only[ho]at hh
   split
   . rename_i hw;simp only[hw,if_true]at hh;exact JlU h hh
   . rename_i hw;simp only[hw]at hh;exact h _ _ (Jgb _ _ _) hh
theorem JuB{T:List PanicEntry->World->Prop}{P:Program}{ops:Array Oper}{i:Nat}{K K':Act->World->Prop}{a:Act}{w:World}(h:∀a w,K a w->K' a w)(hh:opT T P ops i K a w):opT T P ops i K' a w:=Jnh (λa' w _=>h a' w) hh
section
variable {P : Program} {ops : Array Oper} {md : Region.Mode} {m : Nat} {T : List PanicEntry → World → Prop} {Z : World → Prop} {Q : Exit → Act → World → Prop}
def anyT (T:List PanicEntry->World->Prop) (Z:World->Prop) (P:Program) (md:Region.Mode) (ops:Array Oper) (m:Nat) (Q:Exit->Act->World->Prop):Nat->Array Bool->Act->World->Prop
 | 0,listed,a,w=>Region.ready md ops listed=[]/\∀w',Bw w w'->Q .normal a w'
 | fuel+1,listed,a,w =>
  (Region.ready md ops listed=[]->∀w',Bw w w'->Q .normal a w') /\
  ∀i∈Region.ready md ops listed,∀w',Bw w w'->opT T P ops i (λa' w''=>(i<m->Z w'->Z w'')/\anyT T Z P md ops m Q fuel (listed.setIfInBounds i true) a' w'') a w'
theorem JjJ{D:List Deferred}(hQ:∀c a w,a.defers=D->T c w->Q (.panic c) a w):∀(fuel:Nat)(listed:Array Bool)(a:Act)(w:World),a.defers=D->anyT T Z P md ops m Q fuel listed a w->wpAny P md ops Q fuel listed a w
 | 0,_,_,w,_,h=>⟨h.1,h.2 w (brf _ _)⟩
 | fuel + 1,listed,a,w,hD,h=>⟨λh0=>h.1 h0 w (brf _ _),λi hi=>by
     have h1:=h.2 i hi w (brf _ _);have h2:=Jnh (λa' w'' e hh=>JjJ hQ fuel _ a' w'' (e.trans hD) hh.2) h1;unfold opT at h2;unfold wpOp
     split
     . rename_i ho;simp only[ho]at h2;exact h2
     . rename_i o ho
       simp only[ho]at h2
       split
       . rename_i hw;simp only[hw,if_true]at h2;exact .inl (Joh (λc w' h=>hQ c a w' hD h) h2)
       . rename_i hw;simp only[hw]at h2;exact h2⟩
theorem Jlo:∀{fuel:Nat}{listed:Array Bool}{a:Act}{w w2:World},anyT T Z P md ops m Q fuel listed a w->Bw w w2->anyT T Z P md ops m Q fuel listed a w2
 | 0,_,_,_,_,h,hb=>⟨h.1,λw' hb'=>h.2 w' (hb.trans (hb'.mono hb.size))⟩
 | _+1,_,_,_,_,h,hb=>⟨λh0 w' hb'=>h.1 h0 w' (hb.trans (hb'.mono hb.size)),λi hi w' hb'=>h.2 i hi w' (hb.trans (hb'.mono hb.size))⟩
theorem Jgu{i:Nat}{o:Oper}{v:Value}{a:Act}{w':World}(hi:ops[i]?=some o)(hy:Jcg Z P ops o v a)(hb:Z w'){K:Act->World->Prop}
    (h:∀w'',Bw w' w''->K (a.put o.dst v) w''):opT T P ops i K a w':=by
 unfold opT;simp only[hi];unfold Jcg at hy
 split
 . rename_i hw
   rw[if_pos hw]at hy;have h3:=hy w' hb;generalize (execOp a.eval o).run P w'=r at *
   cases r with
   | ok n w2 =>
    cases n<;>simp only[Jaj]at h3<;>simp only[JcH]
    case value u =>
     obtain⟨e1,e2⟩:=h3;rw[e2];exact h _ (by rw[e1];exact brf _ _)
    case skip =>
     obtain⟨e1,e2⟩:=h3;rw[←e2];exact h _ (by rw[e1];exact brf _ _)
    case enter f args =>
     obtain⟨e1,hc⟩:=h3;rw[e1];exact hc.mono λe w'' ⟨he,hw''⟩=>.inl ⟨v,he,h _ hw''⟩
   | halt x w2=>simp only[Jaj]at h3
 . rename_i hw
   rw[if_neg hw]at hy;rw[←hy];exact h _ (brf _ _)
theorem JuA{j:Nat}{oi oj:Oper}{v:Value}(hj:ops[j]?=some oj)(hap:oi.apart ops oj=true)(hsi:∀cs b,oi.op≠.select cs b)(hsj:∀cs b,oj.op≠.select cs b)
    {K:Act->World->Prop} {a:Act} {w:World} (hy:Jcg Z P ops oi v a) (h:opT T P ops j K (a.put oi.dst v) w) :
    opT T P ops j (λa' w'=>Jcg Z P ops oi v a'/\K (a'.put oi.dst v) w') a w:=by
 obtain⟨h1,h2,h3⟩:=Oper.apart_spec hap;have keep:∀u,Jcg Z P ops oi v (a.put oj.dst u):=λu=>JhR hy (execOp_put oi hsi a oj.dst u h3) (wanted_put oi a oj.dst u h3);unfold opT at *;simp only[hj]at *;rw[wanted_put oj a oi.dst v h1]at h
 split
 . rename_i hw
   simp only[hw,if_true]at h;rw[execOp_put oj hsj a oi.dst v h1]at h;generalize (execOp a.eval oj).run P w=r at *
   cases r with
   | ok n w2 =>
    cases n<;>simp only[JcH]at h ⊢
    case value u=>exact⟨keep u,by rw[←Act.put_comm a v u h2];exact h⟩
    case skip=>exact⟨keep _,by rw[←Act.put_comm a v undef h2];exact h⟩
    case enter f args=>exact h.mono λe w'' h=>h.elim (λ⟨u,e1,e2⟩=>.inl ⟨u,e1,keep u,by rw[←Act.put_comm a v u h2];exact e2⟩) .inr
   | halt x w2=>simp only[JcH]at h
 . rename_i hw
   simp only[hw]at h;exact⟨keep _,by rw[←Act.put_comm a v undef h2];exact h⟩
theorem Jlp(hZ:∀{w w':World},Z w->Bw w w'->Z w'){i:Nat}{oi:Oper}{v:Value}(hi:ops[i]?=some oi)(him:i<m)(hsel:∀(j:Nat)(o:Oper) cs b,ops[j]?=some o->o.op≠.select cs b)(hlate:JeJ md ops m=true) :
    ∀ (fuel:Nat) (listed:Array Bool) (a:Act) (w:World),Z w ->
     (∀j oj,ops[j]?=some oj->j≠i->listed.getD j true=false->(∀e∈oj.after,Region.binds md e=true->e.on≠i)->oi.apart ops oj=true) ->
     i∈Region.ready md ops listed->Jcg Z P ops oi v a ->
     anyT T Z P md ops m Q fuel (listed.setIfInBounds i true) (a.put oi.dst v) w->anyT T Z P md ops m Q (fuel+1) listed a w:=by
 intro fuel
 induction fuel with
 | zero =>
  intro listed a w hC _ hr hy H;refine⟨λh=>(by rw[h]at hr;cases hr),λj hj w' hb=>?_⟩
  by_cases hji:j=i
  . subst hji;exact Jgu hi hy (hZ hC hb) λw'' hb'=>⟨λ_ h=>hZ h hb',Jlo H (hb.trans (hb'.mono hb.size))⟩
  . have:=ready_mono hj hji
    rw[H.1]at this
    cases this
 | succ fuel ih =>
  intro listed a w hC hfree hr hy H;refine⟨λh=>(by rw[h]at hr;cases hr),λj hj w' hb=>?_⟩;have hC':=hZ hC hb
  by_cases hji:j=i
  . subst hji;exact Jgu hi hy hC' λw'' hb'=>⟨λ_ h=>hZ h hb',Jlo H (hb.trans (hb'.mono hb.size))⟩
  . have h1:=H.2 j (ready_mono hj hji) w' hb
    obtain⟨hjun,oj,hoj,hall⟩:=mem_ready.1 hj;have hnot:∀e∈oj.after,Region.binds md e=true->e.on≠i:=λe he hb heq=>by
     have h1:=hall e he hb;have h0:=(mem_ready.1 hr).1;rw[heq]at h1
     rcases Nat.lt_or_ge i listed.size with h' | h'
     . simp[h']at h0 h1;rw[h0]at h1;cases h1
     . simp[Array.getElem?_eq_none h']at h1
    have hjm:j<m:=by
     by_cases hjm:j<m
     . exact hjm
     . obtain⟨e,he,hb,hon⟩:=Jfq hlate hoj hjm him
       exact absurd hon (hnot e he hb)
    have h2:=JuA hoj (hfree j oj hoj hji hjun hnot) (λcs b=>hsel i oi cs b hi) (λcs b=>hsel j oj cs b hoj) hy h1
    have hfree':∀k ok,ops[k]?=some ok->k≠i->(listed.setIfInBounds j true).getD k true=false ->
        (∀e∈ok.after,Region.binds md e=true->e.on≠i)->oi.apart ops ok=true:=λk ok hk hki hun hno=>by
     refine hfree k ok hk hki ?_ hno
     by_cases hjk:j=k
     . subst hjk;exact hjun
     . rw[getD_set_ne true hjk]at hun;exact hun
    refine JuB (λa' w'' h3=>?_) h2;obtain⟨h3y,h3g,h3a⟩:=h3;refine⟨λ_=>h3g hjm,ih (listed.setIfInBounds j true) a' w'' (h3g hjm hC') hfree' (ready_mono hr (Ne.symm hji)) h3y ?_⟩;rw[Array.setIfInBounds_comm _ _ hji];exact h3a
theorem Jao{i fuel:Nat}{o:Oper}{listed:Array Bool}{a:Act}{w:World}{G:World->World}(hG:GrowZ Z G)(hw0:Z w)(hi:ops[i]?=some o)(him:decide (i<m)=true)(hs:(Region.noSelect ops && JeJ md ops m)=true)
    (hf:(Region.free md ops listed i && (Region.ready md ops listed).contains i)=true)
    (h:∀K:Act->Prop,(∀a,anyT T Z P md ops m Q fuel (listed.setIfInBounds i true) a w->K a)->if Region.wanted o (yielded ops a.tmps) then ∃v,(∀x,Jaj P (G x) v ((execOp a.eval o).run P (G x)))/\K (a.put o.dst v) else K (a.put o.dst undef)) :
    anyT T Z P md ops m Q (fuel+1) listed a w:=by
 have h1:=h _ λ_ h=>h;have him':i<m:=of_decide_eq_true him;rw[Bool.and_eq_true]at hs hf
 split at h1
 . rename_i hw
   obtain⟨v,h2,h3⟩:=h1;refine Jlp hG.grow hi him' (Region.noSelect_spec hs.1) hs.2 fuel listed a w hw0 (Region.free_spec hi hf.1) (by simpa using hf.2) ?_ h3;unfold Jcg;rw[if_pos hw];intro w' hb;have:=h2 w';rw[hG.onto w' hb]at this;exact this
 . rename_i hw
   refine Jlp hG.grow hi him' (Region.noSelect_spec hs.1) hs.2 fuel listed a w hw0 (Region.free_spec hi hf.1) (by simpa using hf.2) ?_ h1;unfold Jcg;rw[if_neg hw]
def askT (T:List PanicEntry->World->Prop) (Z:World->Prop) (P:Program) (md:Region.Mode) (ops:Array Oper) (m:Nat) (Q:Exit->Act->World->Prop) (fuel:Nat) (listed:Array Bool) (a:Act) (w:World) (i:Nat):Prop :=
 ∃o,ops[i]?=some o/\∀w',Bw w w'->∀K:Act->World->Prop,(∀a' w'',(Z w'->Z w'')->anyT T Z P md ops m Q fuel (listed.setIfInBounds i true) a' w''->K a' w'')->if Region.wanted o (yielded ops a.tmps) then JcH T P o a K ((execOp a.eval o).run P w') else K (a.put o.dst undef) w'
theorem Jcs{i fuel:Nat}{listed:Array Bool}{a:Act}{w:World}(hr:Region.ready md ops listed=[i])(h:askT T Z P md ops m Q fuel listed a w i):anyT T Z P md ops m Q (fuel+1) listed a w:=by
 obtain⟨o,hi,h⟩:=h;refine⟨λh0=>absurd (hr.symm.trans h0) (by simp),λj hj w' hb=>?_⟩;rw[hr,List.mem_singleton]at hj;subst hj;unfold opT;simp only[hi];exact h w' hb _ λa' w'' hb' ha=>⟨λ_=>hb',ha⟩
theorem Jqn{i j fuel:Nat}{listed:Array Bool}{a:Act}{w:World}(hr:Region.ready md ops listed=[i,j])(h:askT T Z P md ops m Q fuel listed a w i)(h':askT T Z P md ops m Q fuel listed a w j):anyT T Z P md ops m Q (fuel+1) listed a w:=by
 obtain⟨o,hi,h⟩:=h;obtain⟨o',hj,h'⟩:=h';refine⟨λh0=>absurd (hr.symm.trans h0) (by simp),λk hk w' hb=>?_⟩;rw[hr]at hk;unfold opT
 rcases List.mem_cons.1 hk with rfl|hk
 . simp only[hi]
   exact h w' hb _ λa' w'' hb' ha=>⟨λ_=>hb',ha⟩
 . rw[List.mem_singleton]at hk
   subst hk;simp only[hj];exact h' w' hb _ λa' w'' hb' ha=>⟨λ_=>hb',ha⟩
theorem JiD{fuel:Nat}{listed:Array Bool}{a:Act}{w:World}(hr:Region.ready md ops listed=[])(h:∀w',Bw w w'->Q .normal a w'):anyT T Z P md ops m Q fuel listed a w:=by
 cases fuel with
 | zero=>exact⟨hr,h⟩
 | succ n=>exact⟨λ_=>h,λi hi=>(by rw[hr]at hi;cases hi)⟩
theorem Jdf{id:Nat}{a:Act}{w:World}{l:List Oper}(T:List PanicEntry->World->Prop)(Z:World->Prop)(m n:Nat)(hm:P.follows .mixedOrders=true)(hn:l.length=n)
    (hQ:∀c a' w,a'.defers=a.defers->T c w->Q (.panic c) a' w)
    (h:∀w',Bw w w'->anyT T Z P .any l.toArray m Q n (Array.replicate n false) a w'):(Code.region id l.toArray true).wp P Q a w :=
 wp_region_any hm (JjJ (T:=T) (Z:=Z) hQ _ _ _ _ rfl (by subst hn;simpa using h { w with drawn:=w.drawn+1 } (Below.drew (brf _ w))))
end
section
attribute [local go_sem] Oper.semAt_some Jaj JcH
variable {f g : FuncId}
def isOne (f g:FuncId):Prop:=(f=27/\g=56)\/(f=28/\g=58)\/(f=29/\g=59)\/(f=30/\g=60)
theorem JuH(hfg:isOne f g)(s:List UInt8)(hs:s.length<=1000000)(n b o c q r:Nat)(hli:(1:Int)<(n:Int))(w:World)(he:EnvK w)(hc:w.cell? (Ad b (o+1))=some (Sx s))(hbw:b<w.heap.size)
    (hq:w.cell? (Ad q 0)=some (Pd r 0)) (hm:numW s=none) :
    Cg f #[Pd q 0,.slice (some (Ad b o)) n c] w λe w'=>e=JaA 3/\Bw w w':=by
 have CN:Hid (∀wx,Bw w wx->Cg 57 #[Sx s] wx λe w'=>e=JaA 3/\Bw wx w'):=λwx hb=>by
  have:=Jda s hs wx (he.below hb);rw[hm]at this;exact this
 have hqw:=blt w _ hq;clear he hm
 rcases hfg with ⟨rfl,rfl⟩|⟨rfl,rfl⟩|⟨rfl,rfl⟩|⟨rfl,rfl⟩
 all_goals
  (first
    | go_enter func27,ntmps27
    | go_enter func28,ntmps28
    | go_enter func29,ntmps29
    | go_enter func30,ntmps30)
  go_wp2
  go_region_dies
  all_goals
   refine(CN.out w.drew (brf _ w).drew).mono ?_;rintro e w1 ⟨rfl,h⟩;exact⟨rfl,rfl,((brf w.heap.size w).drew).trans h⟩
theorem JuG(hfg:isOne f g)(s s0:List UInt8)(hs:s.length<=1000000)(n b o c q r:Nat)(hli:(1:Int)<(n:Int))(w:World)(he:EnvK w)(hc:w.cell? (Ad b (o+1))=some (Sx s))(hbw:b<w.heap.size)
    (hq:w.cell? (Ad q 0)=some (Pd r 0)) (k:Int) (hm:numW s=some k) (E:Int) (Q:World->Prop) (hQB:∀a x,Q a->Bw a x->Q x) (hQL:∀a,Q a->JbM a)
    (hQc:∀a,Q a->a.cell? (Ad b (o+0))=some (Sx s0)/\a.cell? (Ad b (o+1))=some (Sx s)/\a.cell? (Ad q 0)=some (Pd r 0))
    (hC:∀wx,Bw w wx->Cg g #[Pd r 0,I6 k] wx λe w'=>e=.returned (errV E)/\Q w') :
    Cg f #[Pd q 0,.slice (some (Ad b o)) n c] w λe w'=>e=(if E=0 then .returned (Sx s0) else JaA E)/\Q w':=by
 have CN:Hid (∀wx,Bw w wx->Cg 57 #[Sx s] wx (Rt wx (I6 k))):=λwx hb=>by
  have:=Jda s hs wx (he.below hb);rw[hm]at this;exact this
 have CC:=hdz hC;have CM:Hid (∀wx,Q wx->Cg 52 #[errV E] wx λe w'=>e=(if E=0 then .returned (.tuple #[]) else JaA E)/\Bw wx w'):=λwx hx=>Je3 E wx (hQL wx hx);have QC:=hdz hQc;have QB:=hdz hQB;have hqw:q<w.heap.size:=blt w _ hq;have HZ:Hid (∀wx,Bw w wx->wx.cell? (Ad q 0)=some (Pd r 0)/\wx.cell? (Ad b (o+1))=some (Sx s)):=λwx hb=>⟨(zC hb q 0 hqw).trans hq,(zC hb b (o+1) hbw).trans hc⟩;generalize errV E=ve at *;clear he hm hC hQc hQL hQB
 rcases hfg with ⟨rfl,rfl⟩|⟨rfl,rfl⟩|⟨rfl,rfl⟩|⟨rfl,rfl⟩
 all_goals
  (first
    | go_enter func27,ntmps27
    | go_enter func28,ntmps28
    | go_enter func29,ntmps29
    | go_enter func30,ntmps30)
  go_wp2;refine Jdf (λc wx=>c=[{ v:=erV E,recovered:=false }]/\E≠0/\Q wx) (λwx=>wx.cell? (Ad q 0)=some (Pd r 0)/\wx.cell? (Ad b (o+1))=some (Sx s)) 10 10 (by kernel_rfl) rfl ?_ ?_
  . rintro c a' x hd ⟨rfl,h0,hx⟩
    exact⟨hd.trans rfl,by rw[if_neg h0];rfl,hx⟩
  intro w1 hb1;have hz0:=HZ.out w1 hb1;obtain⟨G,hG⟩:=Jb6 (Z:=λwx:World=>wx.cell? (Ad q 0)=some (Pd r 0)/\wx.cell? (Ad b (o+1))=some (Sx s)) hz0 (λ{w w'} h hb=>⟨(hb.cell (blt w _ h.1)).trans h.1,(hb.cell (blt w _ h.2)).trans h.2⟩);have y0:∀x,(G x).cell? (Ad q 0)=some (Pd r 0):=λx=>(hG.but x).1;have y1:∀x,(G x).cell? (Ad b (o+1))=some (Sx s):=λx=>(hG.but x).2
  (refine Jao hG hz0 (i:=0) rfl (by kernel_rfl) (by kernel_rfl) (by kernel_rfl) (λK hK=>?_);go_simp;refine hK _ ?_;clear hK K)
  (refine Jao hG hz0 (i:=1) rfl (by kernel_rfl) (by kernel_rfl) (by kernel_rfl) (λK hK=>?_);go_simp;refine hK _ ?_;clear hK K)
  (refine Jao hG hz0 (i:=2) rfl (by kernel_rfl) (by kernel_rfl) (by kernel_rfl) (λK hK=>?_);go_simp;refine hK _ ?_;clear hK K)
  (refine Jao hG hz0 (i:=3) rfl (by kernel_rfl) (by kernel_rfl) (by kernel_rfl) (λK hK=>?_);go_simp;refine hK _ ?_;clear hK K)
  (refine Jao hG hz0 (i:=4) rfl (by kernel_rfl) (by kernel_rfl) (by kernel_rfl) (λK hK=>?_);go_simp;refine hK _ ?_;clear hK K)
  (refine Jao hG hz0 (i:=5) rfl (by kernel_rfl) (by kernel_rfl) (by kernel_rfl) (λK hK=>?_);go_simp;refine hK _ ?_;clear hK K)
  (refine Jao hG hz0 (i:=6) rfl (by kernel_rfl) (by kernel_rfl) (by kernel_rfl) (λK hK=>?_);go_simp;refine hK _ ?_;clear hK K)
  clear y0 y1 hG G hz0;refine Jcs (i:=7) (by kernel_rfl) ⟨_,rfl,?_⟩;intro w2 hb2 K hK
  go_simp
  have hb2A:=hb1.trans (hb2.mono hb1.size);refine(CN.out w2 hb2A).mono ?_;rintro e w3 ⟨rfl,hb3⟩;have hb3A:=hb2A.trans (hb3.mono hb2A.size);refine .inl ⟨_,rfl,hK _ _ (λ_=>HZ.out w3 hb3A) ?_⟩;clear hK K;refine Jcs (i:=8) (by kernel_rfl) ⟨_,rfl,?_⟩;intro w4 hb4 K hK
  go_simp
  have hb4A:=hb3A.trans (hb4.mono hb3A.size);refine(CC.out w4 hb4A).mono ?_;rintro e w5 ⟨rfl,hq5⟩;refine .inl ⟨_,rfl,hK _ _ (λ_=>⟨(QC.out w5 hq5).2.2,(QC.out w5 hq5).2.1⟩) ?_⟩;clear hK K;refine Jcs (i:=9) (by kernel_rfl) ⟨_,rfl,?_⟩;intro w6 hb6 K hK
  go_simp
  have hq6:=QB.out w5 w6 hq5 hb6;refine(CM.out w6 hq6).mono ?_;rintro e w7 ⟨rfl,hb7⟩;have hq7:=QB.out w6 w7 hq6 hb7
  by_cases h0:E=0
  case neg =>
   rw[if_neg h0];exact .inr ⟨_,rfl,rfl,h0,hq7⟩
  rw[if_pos h0];refine .inl ⟨_,rfl,hK _ _ (λ_=>⟨(QC.out w7 hq7).2.2,(QC.out w7 hq7).2.1⟩) ?_⟩;clear hK K;refine JiD (by kernel_rfl) ?_;intro w8 hb8;have hq8:=QB.out w7 w8 hq7 hb8;have HQ8:Hid (Q w8):=hq8;have hc8:=(QC.out w8 hq8).1;rw[Nat.add_zero]at hc8;clear hq8 hq7 hq6 hq5 hb1 hb2 hb3 hb4 hb6 hb7 hb8 hb2A hb3A hb4A CN CC CM HZ QB QC;go_wp2;go_ret;exact⟨rfl,HQ8.out⟩
end
section
variable {lo r bx bmx n : Nat}{w : World}{bs : List Nat}{R R' : Rm}{g : FuncId}{k E : Int}
theorem JlM{l0 n:Int}{D:List (List UInt8)}(h:isRoom lo w r bx bmx bs R)(hi:Inv l0 n D R){k b:Nat}(hb:bs[k]?=some b):isCl lo w b (k:Int) (clK R k).1 (clK R k).2/\okCl n D (clK R k):=by
 have hk:k<R.cl.length:=by rw[←h.cls.len];exact(llt hb)
 obtain⟨h1,h2⟩:=hi.clk hk;exact⟨h.cls.each k b _ hb h1,h2⟩
theorem okMany:Jdm 32 manyV 1:=λlo w q S k ws vw h hd hk hw hsz hl hn=>by
 have h':=h;obtain⟨he,_,r,bx,bmx,bs,mp,h1,h2,_⟩:=h;obtain⟨n,D,a,b,c,d⟩:=hd;exact Jc8 h' (JrZ vw q w he.nums (chp h1 0) h2 (by have:=b.room;omega))
theorem okText:Jdm 34 textV 2:=λlo w q S k ws vw h hd hk hw hsz hl hn=>by
 have h':=h;obtain⟨he,_,r,bx,bmx,bs,mp,h1,h2,_⟩:=h;obtain⟨n,D,a,b,c,d⟩:=hd;refine Jc8 h' ?_;have:=JrW ws (wd ws 1) (Jh2 (by omega)) (by have:=Jgs (i:=1) hsz;omega) (by omega) vw q w he.nums he.env.lay he.env.tabs (chp h1 0) h2 (by rw[h2.cls.len];omega) hw.1 λj x hj=>by
  obtain⟨g1,g2⟩:=JlM h2 b hj;exact⟨g1,by have:=g2.ok.len;have:=g2.small b.lk;omega⟩
 rw[h2.cls.len]at this;exact this
theorem okSeen:Jdm 35 seenV 2:=λlo w q S k ws vw h hd hk hw hsz hl hn=>by
 have h':=h;obtain⟨he,_,r,bx,bmx,bs,mp,h1,h2,_⟩:=h;obtain⟨n,D,a,b,c,d⟩:=hd;refine Jc8 h' ?_;have:=JrY ws (wd ws 1) (Jh2 (by omega)) (by have:=Jgs (i:=1) hsz;omega) (by omega) vw q w he.nums he.env.lay he.env.tabs (chp h1 0) h2 (by rw[h2.cls.len];omega) hw.1 λj x hj=>by
  obtain⟨g1,g2⟩:=JlM h2 b hj;exact⟨g1,by have:=g2.small b.lk;omega⟩
 rw[h2.cls.len]at this;exact this
theorem okRev:Jdm 33 revV 2:=λlo w q S k ws vw h hd hk hw hsz hl hn=>by
 have h':=h;obtain⟨he,_,r,bx,bmx,bs,mp,h1,h2,_⟩:=h;obtain⟨n,D,a,b,c,d⟩:=hd;refine Jc8 h' ?_;have:=Jum ws (wd ws 1) (Jh2 (by omega)) (by have:=Jgs (i:=1) hsz;omega) (by omega) vw q w he.nums he.env.lay he.env.tabs (chp h1 0) h2 (by rw[h2.cls.len];omega) hw.1 λj x hj=>by
  obtain⟨g1,g2⟩:=JlM h2 b hj;have e1:=g2.revle b.lk;have e2:=b.few;have e3:=g2.dr;have e4:=g2.id;have e5:=g2.rev;refine⟨g1,⟨by omega,by omega⟩,by omega,?_⟩
  split at e3<;>split at e4<;>omega
 rw[h2.cls.len]at this;exact this
theorem JuK:Jdm 36 Jo3 1:=λlo w q S k ws vw h hd hk hw hsz hl hn=>by
 have h':=h;obtain⟨he,_,r,bx,bmx,bs,mp,h1,h2,_⟩:=h;obtain⟨n,D,a,b,c,d⟩:=hd;exact Jc8 h' (Jog vw q w he.nums he.env.tabs (chp h1 0) h2 (by have:=b.few;omega) (by have:=b.srv.room;omega))
theorem okCount:Jdm 37 Jqh 2:=λlo w q S k ws vw h hd hk hw hsz hl hn =>
 Jc8 h (Jqy ws (wd ws 1) (Jh2 (by omega)) (by have:=Jgs (i:=1) hsz;omega) (by omega) vw _ w h.env.nums h.env.env.lay h.env.env.tabs hw.1)
theorem okQuiet:Jdm 31 Js7 1:=λlo w q S k ws vw h hd hk hw hsz hl hn=>by
 obtain⟨he,hq,r,bx,bmx,bs,mp,h1,h2,h3,h4⟩:=h;obtain⟨n,D,a,b,c,d⟩:=hd;have hbs:=h2.cls.len;refine(Jqw ws (wd ws 0) (Jh2 (by omega)) (by omega) vw q w he.env (chp h1 0) h2 b (by omega) (by omega) (by omega) hw.1 λx hx e=>?_).mono ?_
 . refine hw.notK hx (lo:=lo) ⟨e.1,?_⟩
   rcases e.2 with rfl|⟨cs,T,hc,hT⟩
   . obtain⟨D,⟨es,clock,hb,_⟩,_⟩:=h2.srv.2.2.2
     exact .inr ⟨es,clock,hb⟩
   . exact .inl ⟨cs,T,hc,.inl hT⟩
 . rintro e w' ⟨rfl,g1,g2⟩
   obtain⟨i1,i2,_⟩:=Jh9 he hq h1 h2 h3 h4 g1 g2;exact⟨rfl,i1,i2⟩
def Jhx (g:FuncId) (E:DkS->Int->Int) (fR:DkS->Int->Rm):Prop:=∀(lo:Nat) (w:World) (r bx bmx:Nat) (bs:List Nat) (S:DkS) (n:Int) (D:List (List UInt8)) (k:Int),Env lo w->isRoom lo w r bx bmx bs S.R->Inv S.l0 n D S.R->n<=100000->potR S.R<=90000000->bs.length<=6 ->
 Cg g #[Pd r 0,I6 k] w λe w'=>e=.returned (errV (E S k))/\isRoom lo w' r bx bmx bs (if E S k=0 then fR S k else S.R)/\sameBut w w' (JaE lo w bmx)
theorem JlT{f:FuncId}(hfg:isOne f g){E:DkS->Int->Int}{fR:DkS->Int->Rm}(hE:Jhx g E fR):Jdm f (oneV E λS k=>{ S with R:=fR S k }) 2:=λlo w q S k ws vw h hd hk hw hsz hl hn=>by
 have h':=h;obtain⟨he,hq,r,bx,bmx,bs,mp,h1,h2,h3,h4⟩:=h;obtain⟨n,D,a,b,c,d⟩:=hd;have hbs:=h2.cls.len;have hq0:=cQ h1 0 rfl;obtain⟨x,o,cp,rfl,hlt,hbw,hc1⟩:=JcR hw.1 (Jh2 (ws:=ws) (i:=1) (by omega));obtain⟨x',o',cp',ev,_,_,hc0⟩:=JcR hw.1 (Jh2 (ws:=ws) (i:=0) (by omega));injection ev with ev _ _;injection ev with ev;injection ev with e1 e2 _;subst e1 e2;have hx:¬Jbx lo w x:=hw.notK rfl;have hlw:=Jgs (i:=1) hsz;unfold oneV
 cases hm:numW (wd ws 1) with
 | none =>
  refine(JuH hfg (wd ws 1) (by omega) ws.length x o cp q r (by omega) w he.nums hc1 hbw hq0 hm).mono ?_;rintro e w' ⟨rfl,hb⟩;exact⟨rfl,h'.below hb,Jbe hb⟩
 | some j =>
  have kept:∀{y:World},sameBut w y (Jbx lo w)->y.cell? (Ad x (o+0))=some (Sx (wd ws 0))/\y.cell? (Ad x (o+1))=some (Sx (wd ws 1)):=λhs =>
   ⟨(World.cell?_of_block (hs.block x hbw hx)).trans hc0,(World.cell?_of_block (hs.block x hbw hx)).trans hc1⟩
  refine (JuG hfg (wd ws 1) (wd ws 0) (by omega) ws.length x o cp q r (by omega) w he.nums hc1 hbw hq0 j hm (E S j)
   (λy=>isSes lo y q { S with R:=if E S j=0 then fR S j else S.R }/\sameBut w y (Jbx lo w)/\y.cell? (Ad q 0)=some (Pd r 0))
   (λy z hy hb=>⟨hy.1.below hb,JhV hy.2.1 hb,(zC hb q 0 hy.1.lt).trans hy.2.2⟩) (λy hy=>hy.1.env.env.lay) (λy hy=>⟨(kept hy.2.1).1,(kept hy.2.1).2,hy.2.2⟩) λwx hb=>?_).mono ?_
  . have h1x:=(hb.block q (alt h1)).trans h1
    have h2x:=Jal h2 hb;refine(hE lo wx r bx bmx bs S n D j (he.env.below hb) h2x b (by omega) (by omega) (by omega)).mono ?_;rintro e w' ⟨rfl,g1,g2⟩;obtain⟨i1,i2,i3⟩:=Jh9 (he.below hb) hq h1x h2x h3 ((hb.block mp (alt h4)).trans h4) g1 g2;exact⟨rfl,i1,Jd1 hb i2,chp (i3.trans h1x) 0⟩
  . rintro e w' ⟨rfl,g1,g2,_⟩
    by_cases h0:E S j=0
    . simp only[if_pos h0]at g1 ⊢
      exact⟨rfl,g1,g2⟩
    . simp only[if_neg h0]at g1 ⊢
      exact⟨rfl,g1,g2⟩
theorem JpW(h:0<=k/\k<(n:Int)):inR n k=0:=if_pos h
theorem Jmd(h:¬(0<=k/\k<(n:Int))):inR n k=2:=if_neg h
theorem Jiz(hE:E=2)(h:isRoom lo w r bx bmx bs R)(hc:Cg g #[Pd r 0,I6 k] w (Rt w (.iface 25 (I6 2)))) :
    Cg g #[Pd r 0,I6 k] w λe w'=>e=.returned (errV E)/\isRoom lo w' r bx bmx bs (if E=0 then R' else R)/\sameBut w w' (JaE lo w bmx):=by
 subst hE;refine hc.mono ?_;rintro e w' ⟨rfl,hb⟩;exact⟨rfl,Jal h hb,Jai hb _⟩
theorem JgR(hE:E=0)(hc:Cg g #[Pd r 0,I6 k] w λe w'=>e=.returned .nilIface/\isRoom lo w' r bx bmx bs R'/\sameBut w w' (JaE lo w bmx)) :
    Cg g #[Pd r 0,I6 k] w λe w'=>e=.returned (errV E)/\isRoom lo w' r bx bmx bs (if E=0 then R' else R)/\sameBut w w' (JaE lo w bmx):=by
 subst hE;exact hc
theorem Jvv:Jhx 56 (λS k=>inR S.R.cl.length k) λS k=>JdO S.R k.toNat:=λlo w r bx bmx bs S n D k he h hi hn hp hb=>by
 have hlen:=h.cls.len
 by_cases hk:0<=k/\k<(S.R.cl.length:Int)
 . obtain⟨j,rfl⟩:∃j:Nat,k=(j:Int):=⟨k.toNat,by omega⟩
   refine JgR (JpW hk) ?_;exact Jk0 h hi (k:=j) (by omega) (by omega) (by omega)
 . exact Jiz (Jmd hk) h (Jo8 h k (by omega))
theorem Jt5:Jhx 58 (λS k=>inR S.R.fl.length k) λS k=>Jcn S.l0 S.R k.toNat:=λlo w r bx bmx bs S n D k he h hi hn hp hb=>by
 by_cases hk:0<=k/\k<(S.R.fl.length:Int)
 . obtain⟨j,rfl⟩:∃j:Nat,k=(j:Int):=⟨k.toNat,by omega⟩
   refine JgR (JpW hk) ?_;exact Jia he h hi hn (i:=j) (lgg (by omega)) (by omega) (by omega)
 . exact Jiz (Jmd hk) h (JlN h k (by omega))
theorem Jvw:Jhx 59 (λS k=>inR S.R.fl.length k) λS k=>outR S.R k.toNat:=λlo w r bx bmx bs S n D k he h hi hn hp hb=>by
 by_cases hk:0<=k/\k<(S.R.fl.length:Int)
 . obtain⟨j,rfl⟩:∃j:Nat,k=(j:Int):=⟨k.toNat,by omega⟩
   refine JgR (JpW hk) ?_;exact Js6 h (i:=j) (by omega) hi.room
 . exact Jiz (Jmd hk) h (JqP h k (by omega))
theorem Jt4:Jhx 60 (λS k=>inR S.R.fl.length k) λS k=>Jlt S.R k.toNat:=λlo w r bx bmx bs S n D k he h hi hn hp hb=>by
 by_cases hk:0<=k/\k<(S.R.fl.length:Int)
 . obtain⟨j,rfl⟩:∃j:Nat,k=(j:Int):=⟨k.toNat,by omega⟩
   obtain⟨p,hp'⟩:∃p,S.R.fl[j]?=some p:=⟨_,lgg (by omega)⟩;obtain⟨k1,k2,k3⟩:=hi.counts (by omega);refine JgR (JpW hk) ?_;have e:Jlt S.R ((j:Int)).toNat=JbK S.R p:=by unfold Jlt;rw[Int.toNat_natCast,hp']
   dsimp only
   rw[e];exact JqL h hp' (by omega) hi.room
 . exact Jiz (Jmd hk) h (Jo7 h k (by omega))
theorem okSend:Jdm 27 sendV 2:=JlT (.inl ⟨rfl,rfl⟩) Jvv
theorem JsP:Jdm 28 Jt8 2:=JlT (.inr (.inl ⟨rfl,rfl⟩)) Jt5
theorem okLose:Jdm 29 loseV 2:=JlT (.inr (.inr (.inl ⟨rfl,rfl⟩))) Jvw
theorem okTwice:Jdm 30 Jse 2:=JlT (.inr (.inr (.inr ⟨rfl,rfl⟩))) Jt4
end
end Go.Proofs.YtbkeomcicobohaaGreatDoor
namespace Go.Proofs
open Go.Shelf Go.RowKit Go.Maps Go.Sort
def Tryz.keys78_ren:Go.Shelf.Ren:=⟨λ| 7=>78 | 10=>126 | n=>n,λ| 23=>45 | 26=>9 | 3=>58 | 28=>115 | 0=>0 | 27=>32 | 33=>49 | 4=>4 | n=>n,λ| n=>n⟩
theorem Tryz.keys78:Go.Proofs.SlLaysZ.n7 Tryz.prog Tryz.keys78_ren:={
 mixed:=by kernel_rfl
 f7:=⟨Tryz.f78.name,by decide,Tryz.func78.trans (congrArg some (by kernel_rfl))⟩
 f10:=⟨Tryz.f126.name,by decide,Tryz.func126.trans (congrArg some (by kernel_rfl))⟩
 t0:=Tryz.underlying0
 a0:=Tryz.isAgg0
 z0:=Tryz.sizeOf0
 v0:=Tryz.zeroValue0
 t4:=Tryz.underlying4
 a4:=Tryz.isAgg4
 z4:=Tryz.sizeOf4
 v4:=Tryz.zeroValue4
 t23:=Tryz.underlying45
 a23:=Tryz.isAgg45
 z23:=Tryz.sizeOf45
 v23:=Tryz.zeroValue45
 t26:=Tryz.underlying9
 a26:=Tryz.isAgg9
 z26:=Tryz.sizeOf9
 v26:=Tryz.zeroValue9
 t27:=Tryz.underlying32
 a27:=Tryz.isAgg32
 z27:=Tryz.sizeOf32
 v27:=Tryz.zeroValue32
 t28:=Tryz.underlying115
 a28:=Tryz.isAgg115
 z28:=Tryz.sizeOf115
 v28:=Tryz.zeroValue115
 t33:=Tryz.underlying49
 a33:=Tryz.isAgg49
 z33:=Tryz.sizeOf49
 v33:=Tryz.zeroValue49 }
def Tryz.sorted77_ren:Go.Shelf.Ren:=⟨λ| 6=>77 | 8=>124 | 9=>125 | 11=>179 | 13=>181 | 12=>180 | 23=>237 | 24=>132 | 14=>228 | 15=>229 | 16=>230 | 17=>231 | 18=>232 | 19=>233 | 20=>234 | 21=>235 | 22=>236 | 25=>263 | 26=>264 | 27=>265 | 28=>266 | 29=>267 | 30=>268 | 31=>274 | n=>n,λ| 26=>9 | 28=>115 | 24=>54 | 0=>0 | 3=>3 | 37=>174 | 48=>177 | 50=>122 | 4=>4 | 40=>287 | 39=>286 | 45=>202 | 5=>5 | 9=>9 | 51=>322 | 55=>326 | 57=>331 | 58=>145 | 33=>49 | n=>n,λ| n=>n⟩
theorem Tryz.sorted77:Go.Proofs.SlLaysZ.n6 Tryz.prog Tryz.sorted77_ren:={
 mixed:=by kernel_rfl
 f6:=⟨Tryz.f77.name,by decide,Tryz.func77.trans (congrArg some (by kernel_rfl))⟩
 f8:=⟨Tryz.f124.name,by decide,Tryz.func124.trans (congrArg some (by kernel_rfl))⟩
 f11:=⟨Tryz.f179.name,by decide,Tryz.func179.trans (congrArg some (by kernel_rfl))⟩
 t0:=Tryz.underlying0
 a0:=Tryz.isAgg0
 z0:=Tryz.sizeOf0
 v0:=Tryz.zeroValue0
 t24:=Tryz.underlying54
 a24:=Tryz.isAgg54
 z24:=Tryz.sizeOf54
 v24:=Tryz.zeroValue54
 t26:=Tryz.underlying9
 a26:=Tryz.isAgg9
 z26:=Tryz.sizeOf9
 v26:=Tryz.zeroValue9
 t28:=Tryz.underlying115
 a28:=Tryz.isAgg115
 z28:=Tryz.sizeOf115
 v28:=Tryz.zeroValue115
 i26:=by kernel_rfl }
def Tryz.sort125_ren:Go.Shelf.Ren:=⟨λ| 6=>125 | 8=>181 | 9=>180 | 19=>237 | 20=>132 | 21=>228 | 22=>229 | 23=>230 | 24=>231 | 25=>232 | 26=>233 | 27=>234 | 28=>235 | 29=>236 | 36=>263 | 31=>264 | 32=>265 | 37=>266 | 38=>267 | 39=>268 | 41=>274 | n=>n,λ| 27=>54 | 29=>9 | 3=>3 | 32=>174 | 26=>54 | 0=>0 | 44=>177 | 46=>122 | 4=>4 | 36=>287 | 35=>286 | 41=>202 | 5=>5 | 9=>9 | 53=>322 | 57=>326 | 63=>331 | 64=>145 | n=>n,λ| n=>n⟩
theorem Tryz.sort125:Go.Proofs.SlLaysM.n6 Tryz.prog Tryz.sort125_ren:={
 mixed:=by kernel_rfl
 f6:=⟨Tryz.f125.name,by decide,Tryz.func125.trans (congrArg some (by kernel_rfl))⟩
 f8:=Tryz.func181.trans (congrArg some (by kernel_rfl))
 f9:=⟨Tryz.f180.name,by decide,Tryz.func180.trans (congrArg some (by kernel_rfl))⟩
 f19:=Tryz.func237.trans (congrArg some (by kernel_rfl))
 f20:=Tryz.func132.trans (congrArg some (by kernel_rfl))
 f21:=⟨Tryz.f228.name,by decide,Tryz.func228.trans (congrArg some (by kernel_rfl))⟩
 f22:=⟨Tryz.f229.name,by decide,Tryz.func229.trans (congrArg some (by kernel_rfl))⟩
 f23:=⟨Tryz.f230.name,by decide,Tryz.func230.trans (congrArg some (by kernel_rfl))⟩
 f24:=⟨Tryz.f231.name,by decide,Tryz.func231.trans (congrArg some (by kernel_rfl))⟩
 f25:=⟨Tryz.f232.name,by decide,Tryz.func232.trans (congrArg some (by kernel_rfl))⟩
 f26:=⟨Tryz.f233.name,by decide,Tryz.func233.trans (congrArg some (by kernel_rfl))⟩
 f27:=⟨Tryz.f234.name,by decide,Tryz.func234.trans (congrArg some (by kernel_rfl))⟩
 f28:=⟨Tryz.f235.name,by decide,Tryz.func235.trans (congrArg some (by kernel_rfl))⟩
 f29:=⟨Tryz.f236.name,by decide,Tryz.func236.trans (congrArg some (by kernel_rfl))⟩
 f31:=Tryz.func264.trans (congrArg some (by kernel_rfl))
 f32:=Tryz.func265.trans (congrArg some (by kernel_rfl))
 f36:=⟨Tryz.f263.name,by decide,Tryz.func263.trans (congrArg some (by kernel_rfl))⟩
 f37:=⟨Tryz.f266.name,by decide,Tryz.func266.trans (congrArg some (by kernel_rfl))⟩
 f38:=⟨Tryz.f267.name,by decide,Tryz.func267.trans (congrArg some (by kernel_rfl))⟩
 f39:=⟨Tryz.f268.name,by decide,Tryz.func268.trans (congrArg some (by kernel_rfl))⟩
 f41:=⟨Tryz.f274.name,by decide,Tryz.func274.trans (congrArg some (by kernel_rfl))⟩
 t0:=Tryz.underlying0
 a0:=Tryz.isAgg0
 z0:=Tryz.sizeOf0
 v0:=Tryz.zeroValue0
 t3:=Tryz.underlying3
 a3:=Tryz.isAgg3
 z3:=Tryz.sizeOf3
 v3:=Tryz.zeroValue3
 t4:=Tryz.underlying4
 a4:=Tryz.isAgg4
 z4:=Tryz.sizeOf4
 v4:=Tryz.zeroValue4
 t5:=Tryz.underlying5
 a5:=Tryz.isAgg5
 z5:=Tryz.sizeOf5
 v5:=Tryz.zeroValue5
 t9:=Tryz.underlying9
 a9:=Tryz.isAgg9
 z9:=Tryz.sizeOf9
 v9:=Tryz.zeroValue9
 t26:=Tryz.underlying54
 a26:=Tryz.isAgg54
 z26:=Tryz.sizeOf54
 v26:=Tryz.zeroValue54
 t27:=Tryz.underlying54
 a27:=Tryz.isAgg54
 z27:=Tryz.sizeOf54
 v27:=Tryz.zeroValue54
 t29:=Tryz.underlying9
 a29:=Tryz.isAgg9
 z29:=Tryz.sizeOf9
 v29:=Tryz.zeroValue9
 t32:=Tryz.underlying174
 a32:=Tryz.isAgg174
 z32:=Tryz.sizeOf174
 v32:=Tryz.zeroValue174
 t35:=Tryz.underlying286
 a35:=Tryz.isAgg286
 z35:=Tryz.sizeOf286
 v35:=Tryz.zeroValue286
 t36:=Tryz.underlying287
 a36:=Tryz.isAgg287
 z36:=Tryz.sizeOf287
 v36:=Tryz.zeroValue287
 t41:=Tryz.underlying202
 a41:=Tryz.isAgg202
 z41:=Tryz.sizeOf202
 v41:=Tryz.zeroValue202
 t44:=Tryz.underlying177
 a44:=Tryz.isAgg177
 z44:=Tryz.sizeOf177
 v44:=Tryz.zeroValue177
 t46:=Tryz.underlying122
 a46:=Tryz.isAgg122
 z46:=Tryz.sizeOf122
 v46:=Tryz.zeroValue122
 t53:=Tryz.underlying322
 a53:=Tryz.isAgg322
 z53:=Tryz.sizeOf322
 v53:=Tryz.zeroValue322
 t57:=Tryz.underlying326
 a57:=Tryz.isAgg326
 z57:=Tryz.sizeOf326
 v57:=Tryz.zeroValue326
 t63:=Tryz.underlying331
 a63:=Tryz.isAgg331
 z63:=Tryz.sizeOf331
 v63:=Tryz.zeroValue331
 t64:=Tryz.underlying145
 a64:=Tryz.isAgg145
 z64:=Tryz.sizeOf145
 v64:=Tryz.zeroValue145 }
theorem Tryz.sorts77(m:Nat):AnyZ.SortsIn Tryz.prog Tryz.sorted77_ren Fence.wide m :=
 ⟨λblk off cap ss W hH hblk hsz=>callsIn_wide.2 (AnyM.slices_Sort_string Tryz.sort125 blk off cap ss W hH hblk hsz),
  λp cap W=>callsIn_wide.2 (AnyM.slices_Sort_string_none Tryz.sort125 p cap W)⟩
theorem Tryz.maps_Keys_78(mb:Option Nat)(W:World):CallsIn Fence.wide 5 Tryz.prog 78 #[.map mb] W λe w'=>e=.returned (.func (.func 126) #[] #[.pointer (some ⟨W.heap.size,0,none⟩)])/\w'=W.alloc (.cells #[.map mb] 45) :=
 AnyZ.keys_in Tryz.keys78 Fence.wide 5 trivial rfl mb W
theorem Tryz.slices_Sorted_keys_77_78{H:Type}(b nn:Nat)(D0:DataW H)(R:Value->Option (DataW H×List MemPlace))(w:World)(hown:w.ownsMap Tryz.prog 9 R b nn D0)(hmax:Maps.size D0<=maxLen)(hbytes:Maps.size D0*16<=140737488355328) :
    CallsIn Fence.wide 5 Tryz.prog 77 #[.func (.func 126) #[] #[.pointer (some ⟨w.heap.size,0,none⟩)]] (w.alloc (.cells #[.map (some b)] 45)) λe w'=>∃(v:Value) (ss:List (List UInt8)),e=.returned v/\ss.Perm (strKeys D0) /\
     w'.ownsRow (w.alloc (.cells #[.map (some b)] 45)).heap.size 9 1 v ss.length ((ss.mergeSort (λx y=>decide (x<=y))).map encStr)/\(v=.slice none 0 0↔ss=[])/\Below (w.alloc (.cells #[.map (some b)] 45)).heap.size (w.alloc (.cells #[.map (some b)] 45)) w':=by
 have hbl:=hown.lt
 have hseq:SeqGives Fence.wide 2 Tryz.prog 126 #[.pointer (some ⟨w.heap.size,0,none⟩)] encStr (λss=>ss.Perm (strKeys D0)) (Maps.size D0) (w.alloc (.cells #[.map (some b)] 45)) :=
  AnyZ.keys_gives (ρ:=Tryz.keys78_ren) { Tryz.keys78 with } Fence.wide _ trivial rfl (by omega) w.heap.size b nn D0 _ (by simp) (by simp) (by
   obtain⟨es,clock,hb,Ft,hs,hD⟩:=hown
   exact⟨es,clock,(Below.heap_alloc _ _ b hbl).trans hb,Ft,hs,hD⟩)
 exact AnyZ.sorted_in Tryz.sorted77 Fence.wide 5 trivial trivial trivial trivial rfl (by omega) (Tryz.sorts77 _) (enters_of Tryz.func125 (by kernel_rfl) rfl) 126 #[.pointer (some ⟨w.heap.size,0,none⟩)] trivial (enters_of Tryz.func126 (by kernel_rfl) rfl) _ _ hmax hbytes _ hseq
end Go.Proofs
namespace Go.Proofs.YtbkeomcicobohaaGreatDoor
open Go.Proofs.Tryz Go.RowKit Go.Maps
section
open Go.Sort Go.WideElems
def helpKs:List (List UInt8):=[JrV,JrU,Jl0,wEdit,wHelp,wLose,wMany,JrT,JrS,wRev,wSeen,wSend,Jof,wSpot,wText,JrR]
def anyR (_:Value):Option (DataW Unit×List MemPlace):=some (.lit (.bool true),[])
def JpX:DataW Unit:=.map (helpKs.map λs=>(.string s,.lit (.bool true)))
theorem JlA(q:Nat):∀(i:Nat)(l:List Vb),(tabG q i l).length=l.length
 | _,[]=>rfl
 | i,v :: vs=>by simp[tabG,JlA q (i+1) vs]
theorem JmI(q:Nat):(tabG q 0 tabL).map (·.born)=List.range 16:=rfl
theorem Juv(q:Nat):(tabG q 0 tabL).map (·.key)=tabL.map λv=>Sx v.word:=rfl
theorem tab_rd(q:Nat):(tabG q 0 tabL).map (rd prog 9 anyR)=tabL.map λv=>some ((.string v.word,.lit (.bool true)):Lit×DataW Unit):=by kernel_rfl
theorem tab_rg(q:Nat):(tabG q 0 tabL).map (rg prog 9 anyR)=tabL.map λv=>((.string v.word,.lit (.bool true)):Lit×DataW Unit):=by kernel_rfl
theorem tab_own{w:World}{mp q:Nat}(h:JeK w mp q):w.ownsMap prog 9 anyR mp 16 JpX:=by
 refine⟨_,_,h,⟨?_,⟨?_,?_,?_⟩,?_⟩,?_,?_⟩
 . simp[JlA,tabL,maxLen]
 . intro x hx
   have:x.born∈(tabG q 0 tabL).map (·.born):=List.mem_map_of_mem hx;rw[JmI]at this;exact List.mem_range.1 this
 . show((tabG q 0 tabL).map (·.born)).Nodup
   rw[JmI];exact List.nodup_range
 . show((tabG q 0 tabL).map (·.key)).Nodup
   rw[Juv];have:(tabL.map (·.word)).Nodup:=by decide +kernel
   exact List.pairwise_map.2 ((List.pairwise_map.1 this).imp λh e=>h (by injection e with e;injection e with e;simpa using e))
 . intro x hx
   have:rd prog 9 anyR x∈(tabG q 0 tabL).map (rd prog 9 anyR):=List.mem_map_of_mem hx;rw[tab_rd]at this;obtain⟨v,_,hv⟩:=List.mem_map.1 this;exact⟨_,hv.symm⟩
 . simp[JlA,tabL]
 . show JpX=.map (((tabG q 0 tabL).map (rg prog 9 anyR)).foldr DataW.insert [])
   rw[tab_rg]
   kernel_rfl
theorem Jtq:strKeys JpX=helpKs:=rfl
theorem JoZ:helpKs.mergeSort leB=helpKs:=List.mergeSort_of_pairwise (by decide +kernel)
theorem Jsa(q r mp:Nat)(v:Value)(w:World)(h1:w.cell? (Ad q 1)=some (.map (some mp)))(h2:JeK w mp q) :
    Cg 40 #[Pd q 0,v] w (Rt w (Sx helpT)):=by
 have CK:Hid (Cg 78 #[.map (some mp)] w λe w'=>e=.returned (.func (.func 126) #[] #[Pd w.heap.size 0])/\w'=w.alloc (Oc #[.map (some mp)] 45)):=callsIn_wide.1 (maps_Keys_78 (some mp) w);have CS:Hid (Cg 77 #[.func (.func 126) #[] #[Pd w.heap.size 0]] (w.alloc (Oc #[.map (some mp)] 45)) λe w'=>∃p c,e=.returned (.slice p 16 c)/\JcE w' (.slice p 16 c) helpKs/\Bw w w'):=by
  refine(callsIn_wide.1 (slices_Sorted_keys_77_78 mp 16 JpX anyR w (tab_own h2) (by decide +kernel) (by decide +kernel))).mono ?_;rintro e w' ⟨v,ss,rfl,hp,hr,_,hb⟩;rw[Jtq]at hp;rw[mergeSort_of_perm hp,JoZ,hp.length_eq]at hr;obtain⟨p,c,rfl⟩:=Jak hr;exact⟨p,c,rfl,JlD (ss:=helpKs) hr,((brf _ w).alloc (nlr _) _).trans (hb.mono (by simp))⟩
 clear h2
 go_enter func40,ntmps40
 go_wp2_with (first
  | (go_at_call 78;refine Calls.mono CK.out ?_;rintro e w1 ⟨rfl,rfl⟩)
  | (go_at_call 77;refine Calls.mono CS.out ?_;rintro e w2 ⟨p,c,rfl,hst,h⟩;have CJ:Hid _:=Jqr helpKs [32] _ w2 hst (by decide +kernel) (by decide +kernel);have HB2:=hdz h;clear h hst)
  | (go_at_call 76;refine Calls.mono CJ.out ?_;rintro e w3 ⟨rfl,h⟩;have HB3:=hdz (HB2.out.trans (h.mono HB2.out.size));clear h))
 go_ret;exact⟨rfl,HB3.out⟩
theorem okHelp:Jdm 40 helpV 1:=λlo w q S k ws vw h hd hk hw hsz hl hn=>by
 have h':=h;obtain⟨he,_,r,bx,bmx,bs,mp,h1,h2,_,h4⟩:=h;exact Jc8 h' (Jsa q r mp vw w (chp h1 1) h4)
end
theorem JoN(s:ByteArray)(hs:s.size<400000000)(hok:(scan s.data.toList).2=false)(w:World)(hT:Lib.Utf8Tabs 3 4 w) :
    Cg 120 #[.string s] w λe w'=>∃a,e=.returned (.tuple #[.pointer none,.iface 229 (Pd a 0)])/\isAt w w' (.iface 229 (Pd a 0)) (Jgq s.data.toList)/\Bw w w':=by
 have cC:=(JfS s hs w hT).mono (R':=λe w'=>∃a,e=.returned (.tuple #[cnt 0 0 0 0,.iface 229 (Pd a 0)])/\Bw w w'/\isAt w w' (.iface 229 (Pd a 0)) (Jgq s.data.toList)) (by
  rintro e w' ⟨v,x,rfl,hb,h|h⟩
  . rw[hok]at h;cases h.1
  . obtain⟨_,rfl,hx⟩:=h
    obtain⟨a,rfl,hx2⟩:=hx
    exact⟨a,rfl,hb,a,rfl,hx2⟩)
 generalize Jgq s.data.toList=PL at *;unfold cnt at cC;clear hs hok hT
 go_enter func120,ntmps120
 go_wp2_with (go_at_call 47;refine cC.mono ?_;rintro e w1 ⟨a,rfl,hb1,hx1⟩;have HX1:=hdz hx1;clear hx1)
 go_ret2
 obtain⟨a',e1,h1,h2,h3,h4⟩:=HX1.out;refine⟨_,rfl,⟨a',e1,h1,?_,(World.cell?_of_block (Below.heap_alloc _ _ _ h2)).trans h3,(World.cell?_of_block (Below.heap_alloc _ _ _ h2)).trans h4⟩,hb1.alloc hb1.size _⟩;rw[wsa];omega
def JeB (t:List UInt8) (e:Ending) (w':World):Prop :=
 if (scan t).2=true then ∃b,e=.returned (Pd b 0)/\Jc5 w' b (Ja0 t) else e=JaA 3
theorem Jih(s:List UInt8)(hs:s.length<=8000)(w:World)(hg:JbM w)(hU:Lib.Utf8Tabs 3 4 w) :
    Cg 74 #[Sx s] w λe w'=>JeB (Ja2 s) e w'/\Bw w w':=by
 have CT:Hid _:=JfX s (by omega) w hU;have hlt:(Ja2 s).length<=8000:=by unfold Ja2;split<;>simp<;>omega
 by_cases hok:(scan (Ja2 s)).2=true
 . have he:encs (Ja0 (Ja2 s))=Ja2 s:=JbD hok
   have CN:Hid (∀wx,Bw w wx->Cg 120 #[Sx (Ja2 s)] wx λe w'=>∃b,e=.returned (.tuple #[Pd b 0,.nilIface])/\Jc5 w' b (Ja0 (Ja2 s))/\Bw wx w'):=λwx hb=>by
    have:=JuQ (Ja0 (Ja2 s)) (λr hr=>Jd4 hr) (by rw[Jcb,he];omega) wx (Go.Proofs.Utf8Tabs_below hU hb);unfold Jah at this;rw[he]at this;exact this.mono λe w' ⟨b,h1,_,h2,h3⟩=>⟨b,h1,h2,h3⟩
   have HP:Hid (JeB (Ja2 s)=λe w'=>∃b,e=.returned (Pd b 0)/\Jc5 w' b (Ja0 (Ja2 s))):=by show _=_;funext e w';unfold JeB;rw[if_pos hok]
   clear he hlt hok hU hg;generalize Ja2 s=t at *
   go_enter func74,ntmps74
   go_wp2_with (first
    | (go_at_call 50;refine Calls.mono CT.out ?_;rintro e w1 ⟨rfl,h⟩;have HB1:=hdz h;clear h)
    | (go_at_call 120;refine(CN.out _ HB1.out).mono ?_;rintro e w2 ⟨b,rfl,h1,h2⟩;have HR2:=hdz h1;have HB2:=hdz (HB1.out.trans (h2.mono HB1.out.size));clear h1 h2)
    | (go_at_call 52;refine(JlW _).mono ?_;rintro e w3 ⟨rfl,h⟩;have HR3:Hid _:=Jb4 HR2.out h;have HB3:=hdz (HB2.out.trans (h.mono HB2.out.size));clear h))
   go_ret;exact⟨by rw[HP.out];exact⟨_,rfl,HR3.out⟩,HB3.out⟩
 . have hok:(scan (Ja2 s)).2=false:=Bool.eq_false_iff.2 hok
   have CN:Hid (∀wx,Bw w wx->Cg 120 #[Sx (Ja2 s)] wx λe w'=>∃a,e=.returned (.tuple #[.pointer none,.iface 229 (Pd a 0)])/\w'.cell? (Ad a 0)=some (I6 3)/\Bw wx w'):=λwx hb =>
    (JoN ⟨(Ja2 s).toArray⟩ (by simp[ByteArray.size];omega) (by simpa using hok) wx (Go.Proofs.Utf8Tabs_below hU hb)).mono λe w' ⟨a,h1,h2,h3⟩=>by
      obtain⟨a',e1,_,_,h4,_⟩:=h2;injection e1 with _ e2;injection e2 with e3;obtain rfl:a=a':=by injection osi e3
      exact⟨a,h1,h4,h3⟩
   have CM:Hid (∀(a:Nat) (wx:World),Bw w wx->wx.cell? (Ad a 0)=some (I6 3)->Cg 52 #[.iface 229 (Pd a 0)] wx λe w'=>e=JaA 3/\Bw wx w'):=λa wx hb hc =>
    Ji3 _ _ 3 wx (JhP a 3 wx (JaQ hg hb) hc)
   have HP:Hid (JeB (Ja2 s)=λe w'=>e=JaA 3):=by show _=_;funext e w';unfold JeB;rw[if_neg (by rw[hok];decide)]
   clear hlt hok hU hg;generalize Ja2 s=t at *
   go_enter func74,ntmps74
   go_wp2_with (first
    | (go_at_call 50;refine Calls.mono CT.out ?_;rintro e w1 ⟨rfl,h⟩;have HB1:=hdz h;clear h)
    | (go_at_call 120;refine(CN.out _ HB1.out).mono ?_;rintro e w2 ⟨b,rfl,h1,h2⟩;have HC2:=hdz h1;have HB2:=hdz (HB1.out.trans (h2.mono HB1.out.size));clear h1 h2)
    | (go_at_call 52;refine(CM.out _ _ HB2.out HC2.out).mono ?_;rintro e w3 ⟨rfl,h⟩;unfold JaA;have HB3:=hdz (HB2.out.trans (h.mono HB2.out.size));clear h))
   exact⟨rfl,by rw[HP.out];rfl,HB3.out⟩
section
attribute [local go_sem] Oper.semAt_some Jaj JcH
variable {ns : List Int}
theorem Jjf(u line col:Int)(rs:List Nat)(hz:C1 rs<=100000000):∃X E:Int,Jne u line col rs=.tuple #[I6 X,errV E]/\JgW u line col rs=(if E=0 then .ok [X] else .error E)/\-9223372036854775808<=X/\X<=9223372036854775807:=by
 unfold Jne JgW
 by_cases h1:¬(u=1\/u=2\/u=3)
 . rw[if_pos h1,if_pos h1];exact⟨0,1,rfl,rfl,by decide,by decide⟩
 rw[if_neg h1,if_neg h1]
 by_cases h2:line<0\/C4 rs<line
 . rw[if_pos h2,if_pos h2];exact⟨0,2,rfl,rfl,by decide,by decide⟩
 rw[if_neg h2,if_neg h2]
 by_cases h3:col<0\/endL u line rs - Jbt u line rs<col
 . rw[if_pos h3,if_pos h3];exact⟨0,2,rfl,rfl,by decide,by decide⟩
 rw[if_neg h3,if_neg h3]
 by_cases h4:Jbt u line rs+col<0\/by_ u rs<Jbt u line rs+col
 . rw[if_pos h4,if_pos h4];exact⟨0,2,rfl,rfl,by decide,by decide⟩
 rw[if_neg h4,if_neg h4]
 by_cases h5:by_ u (upTo rs u (Jbt u line rs+col))=Jbt u line rs+col
 . rw[if_pos h5,if_pos h5]
   have s0:=JeO (JaY u (Jbt u line rs+col)) rs hz;have s1:=JnQ u (upTo rs u (Jbt u line rs+col));have s2:=Jdd u (upTo rs u (Jbt u line rs+col));unfold upTo at s1 s2;exact⟨_,0,rfl,rfl,by unfold upTo;omega,by unfold upTo;omega⟩
 . rw[if_neg h5,if_neg h5];exact⟨0,10,rfl,rfl,by decide,by decide⟩
theorem Jtl{w:World}{v:Value}(h:Je5 w v ns)(hne:ns≠[]):∃b o c,v=.slice (some (Ad b o)) ns.length c/\b<w.heap.size/\∀(i:Nat)(u:Int),ns[i]?=some u->w.cell? (Ad b (o+i))=some (I6 u):=by
 obtain⟨p,c,h1,_,_,h4⟩:=h;obtain⟨b,o,rfl,hb,hc⟩:=h4 hne;exact⟨b,o,c,h1,hb,hc⟩
theorem Jnw{i:Nat}(h:i<ns.length):ns[i]?=some (iAt ns i):=by unfold iAt;rw[lgg h];rfl
theorem Jjm:∀{ws:List (List UInt8)}{ns:List Int},Jdq ws=some ns->ns.length=ws.length
 | [],ns,h=>by unfold Jdq at h;injection h with h;subst h;rfl
 | s :: ws,ns,h=>by
  rw[Jk8]at h
  cases hn:numW s with
  | none=>rw[hn]at h;cases h
  | some n =>
   rw[hn]at h
   cases hr:Jdq ws with
   | none=>rw[hr]at h;cases h
   | some l =>
    rw[hr]at h;injection h with h;subst h;simp[Jjm hr]
def docX (ws:List (List UInt8)) (f:List Int->List Nat->Except Int (List Int)):Except Int (List UInt8) :=
 match Jdq (ws.drop 2) with
 | none=>.error 3
 | some ns=>if (scan (Ja2 (wd ws 1))).2=true then (f ns (Ja0 (Ja2 (wd ws 1)))).map JcV else .error 3
theorem Jqx(ws:List (List UInt8))(hsz:∀s∈ws.drop 1,s.length<=1999)(hwl:ws.length<=1001)(hl:5<=ws.length)(v:Value)(q:Option Addr)(w:World)(he:EnvK w)(hg:JbM w)(hU:Lib.Utf8Tabs 3 4 w)(hv:JcE w v ws) :
    Cg 39 #[.pointer q,v] w λe w'=>e=JgJ (docX ws λns rs=>JgW (iAt ns 0) (iAt ns 1) (iAt ns 2) rs)/\Bw w w':=by
 obtain⟨b,o,c,rfl,hlt,hbw,hc⟩:=JcR hv (Jh2 (ws:=ws) (i:=1) (by omega));have hst:=JgM hv (m:=2) (by omega);have hcl:5<=c:=by obtain⟨_,_,h1,h2,_⟩:=hv;injection h1 with _ _ h3;omega
 rw[if_neg (by omega)]at hst;have CN:=Jfn (ws.drop 2) (λs hs=>by have:=hsz s (by rw[←List.drop_drop (i:=1) (j:=1)]at hs;exact List.mem_of_mem_drop hs);omega) (by rw[List.length_drop];omega) _ w he hst;rw[List.length_drop]at CN;have hw1:(wd ws 1).length<=8000:=by have:=Jgs (i:=1) hsz;omega
 have CD:=λ(wx:World) (hb:Bw w wx)=>Jih (wd ws 1) hw1 wx (JaQ hg hb) (Go.Proofs.Utf8Tabs_below hU hb);have hn5:(5:Int)<=(ws.length:Int):=by omega
 have hc5:(5:Int)<=(c:Int):=by omega
 unfold docX
 cases hns:Jdq (ws.drop 2) with
 | none =>
  have CN2:Hid (Cg 51 #[.slice (some (Ad b (o+2))) (ws.length - 2) (c - 2)] w λe w'=>e=JaA 3/\Bw w w'):=by have:=CN;rw[hns]at this;exact this
  show Cg 39 _ w λe w'=>e=JaA 3/\Bw w w';generalize ws.length=n at *;clear CN CD hst hv hns hc he hg hU
  go_enter func39,ntmps39
  go_wp2_with (go_at_call 51;refine Calls.mono CN2.out ?_;rintro e w1 ⟨rfl,h⟩;unfold JaA;have HB1:=hdz h;clear h)
  exact⟨rfl,rfl,HB1.out⟩
 | some ns =>
  have hml:ns.length=ws.length - 2:=by rw[Jjm hns,List.length_drop]
  have CN2:Hid (Cg 51 #[.slice (some (Ad b (o+2))) (ws.length - 2) (c - 2)] w λe w'=>∃b1 o1 c1,e=.returned (.slice (some (Ad b1 o1)) ns.length c1)/\b1<w'.heap.size/\w'.cell? (Ad b1 (o1+0))=some (I6 (iAt ns 0))/\w'.cell? (Ad b1 (o1+1))=some (I6 (iAt ns 1))/\w'.cell? (Ad b1 (o1+2))=some (I6 (iAt ns 2))/\Bw w w'):=Calls.mono CN λe w' ⟨h1,h2⟩=>by
   rw[hns]at h1;obtain⟨v',rfl,h3,_⟩:=h1;obtain⟨b1,o1,c1,rfl,g1,g2⟩:=Jtl h3 (λe=>by rw[e]at hml;simp at hml;omega);exact⟨b1,o1,c1,rfl,g1,g2 0 _ (Jnw (by omega)),g2 1 _ (Jnw (by omega)),g2 2 _ (Jnw (by omega)),h2⟩
  obtain ⟨X,E,hXE⟩:∃X E:Int,(scan (Ja2 (wd ws 1))).2=true->C1 (Ja0 (Ja2 (wd ws 1)))<=100000000/\Jne (iAt ns 0) (iAt ns 1) (iAt ns 2) (Ja0 (Ja2 (wd ws 1)))=.tuple #[I6 X,errV E]/\JgW (iAt ns 0) (iAt ns 1) (iAt ns 2) (Ja0 (Ja2 (wd ws 1)))=(if E=0 then .ok [X] else .error E)/\-9223372036854775808<=X/\X<=9223372036854775807:=by
   by_cases hok:(scan (Ja2 (wd ws 1))).2=true
   . have hz:C1 (Ja0 (Ja2 (wd ws 1)))<=100000000:=by
       have:(Ja2 (wd ws 1)).length<=8000:=by unfold Ja2;split<;>simp<;>omega
       rw[Jcb,JbD hok];omega
     obtain⟨X,E,h⟩:=Jjf (iAt ns 0) (iAt ns 1) (iAt ns 2) _ hz;exact⟨X,E,λ_=>⟨hz,h⟩⟩
   . exact⟨0,0,λh=>absurd h hok⟩
  have CD2:Hid (∀wx,Bw w wx->Cg 74 #[Sx (wd ws 1)] wx λe w'=>JeB (Ja2 (wd ws 1)) e w'/\Bw wx w'):=CD;have CP:Hid ((scan (Ja2 (wd ws 1))).2=true->∀(x:Nat) (wx:World),Bw w wx->Jc5 wx x (Ja0 (Ja2 (wd ws 1)))->Cg 75 #[Pd x 0,I6 (iAt ns 0),.agg #[I6 (iAt ns 1),I6 (iAt ns 2)]] wx (Rt wx (.tuple #[I6 X,errV E]))):=λhok x wx hb hr=>by
   have:=JsC x _ (iAt ns 0) (iAt ns 1) (iAt ns 2) wx (Go.Proofs.Utf8Tabs_below hU hb) hr (hXE hok).1;rwa[(hXE hok).2.1]at this
  have CM:Hid (∀wx,Bw w wx->Cg 52 #[errV E] wx λe w'=>e=(if E=0 then .returned (.tuple #[]) else JaA E)/\Bw wx w'):=λwx hb=>Je3 E wx (JaQ hg hb);have CT:Hid ((scan (Ja2 (wd ws 1))).2=true->∀wx,Bw w wx->Cg 62 #[Sl wx.heap.size 1 1] (wx.alloc (Oc #[I6 X] 3)) λe w'=>e=.returned (Sx (JcV [X]))/\Below (wx.heap.size+1) (wx.alloc (Oc #[I6 X] 3)) w'):=λhok wx hb=>by
   have:=JbX [X] (λn hn=>by rw[List.mem_singleton.1 hn];exact(hXE hok).2.2.2) (by simp) _ _ ((he.below hb).below ((brf _ wx).alloc (nlr _) (.cells (intC [X]).toArray 3))) (Jdt wx [X] 3 (by simp));rw[wsa]at this;exact this
  have HP:Hid ((if (scan (Ja2 (wd ws 1))).2=true then (JgW (iAt ns 0) (iAt ns 1) (iAt ns 2) (Ja0 (Ja2 (wd ws 1)))).map JcV else .error 3:Except Int (List UInt8))=if (scan (Ja2 (wd ws 1))).2=true then (if E=0 then .ok (JcV [X]) else .error E) else .error 3):=by
   show _=_
   by_cases hok:(scan (Ja2 (wd ws 1))).2=true
   . rw[if_pos hok,if_pos hok,(hXE hok).2.2.1]
     by_cases h0:E=0
     . rw[if_pos h0,if_pos h0];rfl
     . rw[if_neg h0,if_neg h0];rfl
   . rw[if_neg hok,if_neg hok]
  show Cg 39 _ w λe w'=>e=JgJ (if (scan (Ja2 (wd ws 1))).2=true then (JgW (iAt ns 0) (iAt ns 1) (iAt ns 2) (Ja0 (Ja2 (wd ws 1)))).map JcV else .error 3)/\Bw w w';rw[HP.out];have HC:=hdz hc;have HBW:Hid (b<w.heap.size):=hbw;have hi1:(1:Int)<(ws.length:Int):=by omega
  have hm0:0<ns.length:=by omega
  have hm1:(1:Int)<(ns.length:Int):=by omega
  have hm2:(2:Int)<(ns.length:Int):=by omega
  generalize ns.length=m at *;generalize ws.length=n at *;generalize iAt ns 0=N0 at *;generalize iAt ns 1=N1 at *;generalize iAt ns 2=N2 at *;obtain⟨t,ht⟩:∃t,Ja2 (wd ws 1)=t:=⟨_,rfl⟩;rw[ht]at CD2 CP CT ⊢;obtain⟨ve,hve⟩:∃ve,errV E=ve:=⟨_,rfl⟩;rw[hve]at CP CM;generalize wd ws 1=s1 at *;clear CN CD hst hv hns hXE hml HP he hg hU hw1 ht hve hlt hsz hl hcl hbw
  go_enter func39,ntmps39
  go_wp2_with (go_at_call 51;refine Calls.mono CN2.out ?_;rintro e w1 ⟨b1,o1,c1,rfl,hl1,hx0,hx1,hx2,h⟩;have HB1:=hdz h;have HX0:=hdz hx0;have HX1:=hdz hx1;have HX2:=hdz hx2;clear h hl1 hx0 hx1 hx2)
  refine Jdf (λc wx=>c=[{ v:=erV 3,recovered:=false }]/\(scan t).2=false/\Bw w wx) (λwx=>wx.cell? (Ad b (o+1))=some (Sx s1)/\wx.cell? (Ad b1 (o1+0))=some (I6 N0)/\wx.cell? (Ad b1 (o1+1))=some (I6 N1)/\wx.cell? (Ad b1 (o1+2))=some (I6 N2)) 20 20 (by kernel_rfl) rfl ?_ ?_
  . rintro c a' x hd ⟨rfl,h0,hx⟩
    exact⟨hd.trans rfl,by rw[if_neg (by rw[h0];decide)];rfl,hx⟩
  intro w2 hb2;have zk:∀{x y:World},(x.cell? (Ad b (o+1))=some (Sx s1)/\x.cell? (Ad b1 (o1+0))=some (I6 N0)/\x.cell? (Ad b1 (o1+1))=some (I6 N1)/\x.cell? (Ad b1 (o1+2))=some (I6 N2))->Bw x y->(y.cell? (Ad b (o+1))=some (Sx s1)/\y.cell? (Ad b1 (o1+0))=some (I6 N0)/\y.cell? (Ad b1 (o1+1))=some (I6 N1)/\y.cell? (Ad b1 (o1+2))=some (I6 N2)):=λ{x y} h hb =>
   ⟨(hb.cell (blt x _ h.1)).trans h.1,(hb.cell (blt x _ h.2.1)).trans h.2.1,(hb.cell (blt x _ h.2.2.1)).trans h.2.2.1,(hb.cell (blt x _ h.2.2.2)).trans h.2.2.2⟩
  have hz1:=zk ⟨(zC HB1.out b (o+1) HBW.out).trans HC.out,HX0.out,HX1.out,HX2.out⟩ hb2;have hb2A:=HB1.out.trans (hb2.mono HB1.out.size);obtain⟨G,hG⟩:=Jb6 hz1 zk;have y0:∀x,(G x).cell? (Ad b (o+1))=some (Sx s1):=λx=>(hG.but x).1;have y1:∀x,(G x).cell? (Ad b1 o1)=some (I6 N0):=λx=>(hG.but x).2.1;have y2:∀x,(G x).cell? (Ad b1 (o1+1))=some (I6 N1):=λx=>(hG.but x).2.2.1;have y3:∀x,(G x).cell? (Ad b1 (o1+2))=some (I6 N2):=λx=>(hG.but x).2.2.2;have HZK:Hid (∀{x y:World},(x.cell? (Ad b (o+1))=some (Sx s1)/\x.cell? (Ad b1 (o1+0))=some (I6 N0)/\x.cell? (Ad b1 (o1+1))=some (I6 N1)/\x.cell? (Ad b1 (o1+2))=some (I6 N2))->Bw x y->(y.cell? (Ad b (o+1))=some (Sx s1)/\y.cell? (Ad b1 (o1+0))=some (I6 N0)/\y.cell? (Ad b1 (o1+1))=some (I6 N1)/\y.cell? (Ad b1 (o1+2))=some (I6 N2))):=zk;clear zk
  (refine Jao hG hz1 (i:=0) rfl (by kernel_rfl) (by kernel_rfl) (by kernel_rfl) (λK hK=>?_);go_simp;refine hK _ ?_;clear hK K)
  (refine Jao hG hz1 (i:=1) rfl (by kernel_rfl) (by kernel_rfl) (by kernel_rfl) (λK hK=>?_);go_simp;refine hK _ ?_;clear hK K)
  (refine Jao hG hz1 (i:=2) rfl (by kernel_rfl) (by kernel_rfl) (by kernel_rfl) (λK hK=>?_);go_simp;refine hK _ ?_;clear hK K)
  (refine Jao hG hz1 (i:=4) rfl (by kernel_rfl) (by kernel_rfl) (by kernel_rfl) (λK hK=>?_);go_simp;refine hK _ ?_;clear hK K)
  (refine Jao hG hz1 (i:=5) rfl (by kernel_rfl) (by kernel_rfl) (by kernel_rfl) (λK hK=>?_);go_simp;refine hK _ ?_;clear hK K)
  (refine Jao hG hz1 (i:=6) rfl (by kernel_rfl) (by kernel_rfl) (by kernel_rfl) (λK hK=>?_);go_simp;refine hK _ ?_;clear hK K)
  (refine Jao hG hz1 (i:=7) rfl (by kernel_rfl) (by kernel_rfl) (by kernel_rfl) (λK hK=>?_);go_simp;refine hK _ ?_;clear hK K)
  (refine Jao hG hz1 (i:=8) rfl (by kernel_rfl) (by kernel_rfl) (by kernel_rfl) (λK hK=>?_);go_simp;refine hK _ ?_;clear hK K)
  (refine Jao hG hz1 (i:=9) rfl (by kernel_rfl) (by kernel_rfl) (by kernel_rfl) (λK hK=>?_);go_simp;refine hK _ ?_;clear hK K)
  (refine Jao hG hz1 (i:=10) rfl (by kernel_rfl) (by kernel_rfl) (by kernel_rfl) (λK hK=>?_);go_simp;refine hK _ ?_;clear hK K)
  (refine Jao hG hz1 (i:=11) rfl (by kernel_rfl) (by kernel_rfl) (by kernel_rfl) (λK hK=>?_);go_simp;refine hK _ ?_;clear hK K)
  (refine Jao hG hz1 (i:=12) rfl (by kernel_rfl) (by kernel_rfl) (by kernel_rfl) (λK hK=>?_);go_simp;refine hK _ ?_;clear hK K)
  (refine Jao hG hz1 (i:=13) rfl (by kernel_rfl) (by kernel_rfl) (by kernel_rfl) (λK hK=>?_);go_simp;refine hK _ ?_;clear hK K)
  clear y0 y1 y2 y3;refine Jcs (i:=3) (by kernel_rfl) ⟨_,rfl,?_⟩;intro w3 hb3 K hK
  go_simp
  have hb3A:=hb2A.trans (hb3.mono hb2A.size);refine(CD2.out w3 hb3A).mono ?_;rintro e w4 ⟨hd,hb4⟩;have hb4A:=hb3A.trans (hb4.mono hb3A.size);unfold JeB at hd
  by_cases hok:(scan t).2=true
  case neg =>
   rw[if_neg hok]at hd;exact .inr ⟨_,hd,rfl,Bool.eq_false_iff.2 hok,hb4A⟩
  rw[if_pos hok]at hd;obtain⟨x,rfl,hr4⟩:=hd;refine .inl ⟨_,rfl,hK _ _ (λh=>HZK.out h hb4) ?_⟩;clear hK K;refine Jcs (i:=14) (by kernel_rfl) ⟨_,rfl,?_⟩;intro w5 hb5 K hK
  go_simp
  have hb5A:=hb4A.trans (hb5.mono hb4A.size);refine(CP.out hok x w5 hb5A (Jb4 hr4 hb5)).mono ?_;rintro e w6 ⟨rfl,hb6⟩;have hb6A:=hb5A.trans (hb6.mono hb5A.size);refine⟨_,rfl,hK _ _ (λh=>HZK.out h hb6) ?_⟩;clear hK K;have hz6:=HZK.out (HZK.out (HZK.out (HZK.out hz1 hb3) hb4) hb5) hb6
  (refine Jao hG hz6 (i:=15) rfl (by kernel_rfl) (by kernel_rfl) (by kernel_rfl) (λK hK=>?_);go_simp;refine hK _ ?_;clear hK K)
  (refine Jao hG hz6 (i:=16) rfl (by kernel_rfl) (by kernel_rfl) (by kernel_rfl) (λK hK=>?_);go_simp;refine hK _ ?_;clear hK K)
  (refine Jao hG hz6 (i:=17) rfl (by kernel_rfl) (by kernel_rfl) (by kernel_rfl) (λK hK=>?_);go_simp;refine hK _ ?_;clear hK K)
  (refine Jao hG hz6 (i:=18) rfl (by kernel_rfl) (by kernel_rfl) (by kernel_rfl) (λK hK=>?_);go_simp;refine hK _ ?_;clear hK K)
  (refine Jao hG hz6 (i:=19) rfl (by kernel_rfl) (by kernel_rfl) (by kernel_rfl) (λK hK=>?_);go_simp;refine hK _ ?_;clear hK K)
  refine JiD (by kernel_rfl) ?_;intro w7 hb7;have HB7:Hid (Bw w w7):=hb6A.trans (hb7.mono hb6A.size);clear hb2 hb3 hb4 hb5 hb6 hb7 hb2A hb3A hb4A hb5A hb6A hz1 hz6 hG G hr4 HZK
  by_cases h0:E=0
  case neg =>
   go_wp2_with (go_at_call 52;refine(CM.out _ HB7.out).mono ?_;rintro e w8 ⟨rfl,h⟩;rw[if_neg h0];unfold JaA;have HB8:=hdz (HB7.out.trans (h.mono HB7.out.size));clear h)
   exact⟨rfl,rfl,HB8.out⟩
  go_wp2_with (first
   | (go_at_call 52;refine(CM.out _ HB7.out).mono ?_;rintro e w8 ⟨rfl,h⟩;rw[if_pos h0];have HB8:=hdz (HB7.out.trans (h.mono HB7.out.size));clear h)
   | (go_at_call 62;refine(CT.out hok _ HB8.out).mono ?_;rintro e w9 ⟨rfl,h⟩;have HB9:Hid (Bw w w9):=(HB8.out.alloc HB8.out.size _).trans (h.mono (by have:=HB8.out.size;omega));clear h))
  go_ret;exact⟨rfl,HB9.out⟩
theorem okPlace:Jdm 39 JsD 5:=λlo w q S k ws vw h hd hk hw hsz hl hn =>
 Jc8 h (Jqx ws hsz hl hn vw _ w h.env.nums h.env.env.lay h.env.env.tabs hw.1)
end
section
attribute [local go_sem] Oper.semAt_some Jaj JcH
theorem Jkx(u at_:Int)(rs:List Nat)(hz:C1 rs<=100000000):∃X Y E:Int,Js1 u at_ rs=.tuple #[.agg #[I6 X,I6 Y],errV E]/\JlF u at_ rs=(if E=0 then .ok [X,Y] else .error E)/\(-9223372036854775808<=X/\X<=9223372036854775807)/\-9223372036854775808<=Y/\Y<=9223372036854775807:=by
 unfold Js1 JlF
 by_cases h1:¬(u=1\/u=2\/u=3)
 . rw[if_pos h1,if_pos h1];exact⟨0,0,1,rfl,rfl,by decide,by decide⟩
 rw[if_neg h1,if_neg h1]
 by_cases h2:at_<0\/by_ u rs<at_
 . rw[if_pos h2,if_pos h2];exact⟨0,0,2,rfl,rfl,by decide,by decide⟩
 rw[if_neg h2,if_neg h2]
 by_cases h5:by_ u (upTo rs u at_)=at_
 . rw[if_pos h5,if_pos h5]
   have s0:=JeO (JaY u at_) rs hz;have s0:C1 (upTo rs u at_)<=100000000:=s0;have s1:=JnQ u (upTo rs u at_);have s2:=Jdd u (upTo rs u at_);have s3:=JjP (upTo rs u at_);have s4:=JeO (Ja3 (C4 (upTo rs u at_))) rs hz;have s5:=JnQ u (find (Ja3 (C4 (upTo rs u at_))) [] rs);have s6:=Jdd u (find (Ja3 (C4 (upTo rs u at_))) [] rs);exact⟨_,_,0,rfl,rfl,by omega,by omega⟩
 . rw[if_neg h5,if_neg h5];exact⟨0,0,10,rfl,rfl,by decide,by decide⟩
theorem JrX(ws:List (List UInt8))(hsz:∀s∈ws.drop 1,s.length<=1999)(hwl:ws.length<=1001)(hl:4<=ws.length)(v:Value)(q:Option Addr)(w:World)(he:EnvK w)(hg:JbM w)(hU:Lib.Utf8Tabs 3 4 w)(hv:JcE w v ws) :
    Cg 38 #[.pointer q,v] w λe w'=>e=JgJ (docX ws λns rs=>JlF (iAt ns 0) (iAt ns 1) rs)/\Bw w w':=by
 obtain⟨b,o,c,rfl,hlt,hbw,hc⟩:=JcR hv (Jh2 (ws:=ws) (i:=1) (by omega));have hst:=JgM hv (m:=2) (by omega);have hcl:4<=c:=by obtain⟨_,_,h1,h2,_⟩:=hv;injection h1 with _ _ h3;omega
 rw[if_neg (by omega)]at hst;have CN:=Jfn (ws.drop 2) (λs hs=>by have:=hsz s (by rw[←List.drop_drop (i:=1) (j:=1)]at hs;exact List.mem_of_mem_drop hs);omega) (by rw[List.length_drop];omega) _ w he hst;rw[List.length_drop]at CN;have hw1:(wd ws 1).length<=8000:=by have:=Jgs (i:=1) hsz;omega
 have CD:=λ(wx:World) (hb:Bw w wx)=>Jih (wd ws 1) hw1 wx (JaQ hg hb) (Go.Proofs.Utf8Tabs_below hU hb);have hn5:(4:Int)<=(ws.length:Int):=by omega
 have hc5:(4:Int)<=(c:Int):=by omega
 unfold docX
 cases hns:Jdq (ws.drop 2) with
 | none =>
  have CN2:Hid (Cg 51 #[.slice (some (Ad b (o+2))) (ws.length - 2) (c - 2)] w λe w'=>e=JaA 3/\Bw w w'):=by have:=CN;rw[hns]at this;exact this
  show Cg 38 _ w λe w'=>e=JaA 3/\Bw w w';generalize ws.length=n at *;clear CN CD hst hv hns hc he hg hU
  go_enter func38,ntmps38
  go_wp2_with (go_at_call 51;refine Calls.mono CN2.out ?_;rintro e w1 ⟨rfl,h⟩;unfold JaA;have HB1:=hdz h;clear h)
  exact⟨rfl,rfl,HB1.out⟩
 | some ns =>
  have hml:ns.length=ws.length - 2:=by rw[Jjm hns,List.length_drop]
  have CN2:Hid (Cg 51 #[.slice (some (Ad b (o+2))) (ws.length - 2) (c - 2)] w λe w'=>∃b1 o1 c1,e=.returned (.slice (some (Ad b1 o1)) ns.length c1)/\b1<w'.heap.size/\w'.cell? (Ad b1 (o1+0))=some (I6 (iAt ns 0))/\w'.cell? (Ad b1 (o1+1))=some (I6 (iAt ns 1))/\Bw w w'):=Calls.mono CN λe w' ⟨h1,h2⟩=>by
   rw[hns]at h1;obtain⟨v',rfl,h3,_⟩:=h1;obtain⟨b1,o1,c1,rfl,g1,g2⟩:=Jtl h3 (λe=>by rw[e]at hml;simp at hml;omega);exact⟨b1,o1,c1,rfl,g1,g2 0 _ (Jnw (by omega)),g2 1 _ (Jnw (by omega)),h2⟩
  obtain ⟨X,Y,E,hXE⟩:∃X Y E:Int,(scan (Ja2 (wd ws 1))).2=true->C1 (Ja0 (Ja2 (wd ws 1)))<=100000000/\Js1 (iAt ns 0) (iAt ns 1) (Ja0 (Ja2 (wd ws 1)))=.tuple #[.agg #[I6 X,I6 Y],errV E]/\JlF (iAt ns 0) (iAt ns 1) (Ja0 (Ja2 (wd ws 1)))=(if E=0 then .ok [X,Y] else .error E)/\(-9223372036854775808<=X/\X<=9223372036854775807)/\-9223372036854775808<=Y/\Y<=9223372036854775807:=by
   by_cases hok:(scan (Ja2 (wd ws 1))).2=true
   . have hz:C1 (Ja0 (Ja2 (wd ws 1)))<=100000000:=by
       have:(Ja2 (wd ws 1)).length<=8000:=by unfold Ja2;split<;>simp<;>omega
       rw[Jcb,JbD hok];omega
     obtain⟨X,Y,E,h⟩:=Jkx (iAt ns 0) (iAt ns 1) _ hz;exact⟨X,Y,E,λ_=>⟨hz,h⟩⟩
   . exact⟨0,0,0,λh=>absurd h hok⟩
  have CD2:Hid (∀wx,Bw w wx->Cg 74 #[Sx (wd ws 1)] wx λe w'=>JeB (Ja2 (wd ws 1)) e w'/\Bw wx w'):=CD;have CP:Hid ((scan (Ja2 (wd ws 1))).2=true->∀(x:Nat) (wx:World),Bw w wx->Jc5 wx x (Ja0 (Ja2 (wd ws 1)))->Cg 73 #[Pd x 0,I6 (iAt ns 0),I6 (iAt ns 1)] wx (Rt wx (.tuple #[.agg #[I6 X,I6 Y],errV E]))):=λhok x wx hb hr=>by
   have:=Juz x _ (iAt ns 0) (iAt ns 1) wx (Go.Proofs.Utf8Tabs_below hU hb) hr (hXE hok).1;rwa[(hXE hok).2.1]at this
  have CM:Hid (∀wx,Bw w wx->Cg 52 #[errV E] wx λe w'=>e=(if E=0 then .returned (.tuple #[]) else JaA E)/\Bw wx w'):=λwx hb=>Je3 E wx (JaQ hg hb);have CT:Hid ((scan (Ja2 (wd ws 1))).2=true->∀wx,Bw w wx->Cg 62 #[Sl wx.heap.size 2 2] (wx.alloc (Oc #[I6 X,I6 Y] 3)) λe w'=>e=.returned (Sx (JcV [X,Y]))/\Below (wx.heap.size+1) (wx.alloc (Oc #[I6 X,I6 Y] 3)) w'):=λhok wx hb=>by
   have:=JbX [X,Y] (λn hn=>by rcases List.mem_cons.1 hn with rfl|hn;exact(hXE hok).2.2.2.1;rw[List.mem_singleton.1 hn];exact(hXE hok).2.2.2.2) (by simp) _ _ ((he.below hb).below ((brf _ wx).alloc (nlr _) (.cells (intC [X,Y]).toArray 3))) (Jdt wx [X,Y] 3 (by simp));rw[wsa]at this;exact this
  have HP:Hid ((if (scan (Ja2 (wd ws 1))).2=true then (JlF (iAt ns 0) (iAt ns 1) (Ja0 (Ja2 (wd ws 1)))).map JcV else .error 3:Except Int (List UInt8))=if (scan (Ja2 (wd ws 1))).2=true then (if E=0 then .ok (JcV [X,Y]) else .error E) else .error 3):=by
   show _=_
   by_cases hok:(scan (Ja2 (wd ws 1))).2=true
   . rw[if_pos hok,if_pos hok,(hXE hok).2.2.1]
     by_cases h0:E=0
     . rw[if_pos h0,if_pos h0];rfl
     . rw[if_neg h0,if_neg h0];rfl
   . rw[if_neg hok,if_neg hok]
  show Cg 38 _ w λe w'=>e=JgJ (if (scan (Ja2 (wd ws 1))).2=true then (JlF (iAt ns 0) (iAt ns 1) (Ja0 (Ja2 (wd ws 1)))).map JcV else .error 3)/\Bw w w';rw[HP.out];have HC:=hdz hc;have HBW:Hid (b<w.heap.size):=hbw;have hi1:(1:Int)<(ws.length:Int):=by omega
  have hm0:0<ns.length:=by omega
  have hm1:(1:Int)<(ns.length:Int):=by omega
  generalize ns.length=m at *;generalize ws.length=n at *;generalize iAt ns 0=N0 at *;generalize iAt ns 1=N1 at *;obtain⟨t,ht⟩:∃t,Ja2 (wd ws 1)=t:=⟨_,rfl⟩;rw[ht]at CD2 CP CT ⊢;obtain⟨ve,hve⟩:∃ve,errV E=ve:=⟨_,rfl⟩;rw[hve]at CP CM;generalize wd ws 1=s1 at *;clear CN CD hst hv hns hXE hml HP he hg hU hw1 ht hve hlt hsz hl hcl hbw
  go_enter func38,ntmps38
  go_wp2_with (go_at_call 51;refine Calls.mono CN2.out ?_;rintro e w1 ⟨b1,o1,c1,rfl,hl1,hx0,hx1,h⟩;have HB1:=hdz h;have HX0:=hdz hx0;have HX1:=hdz hx1;clear h hl1 hx0 hx1)
  refine Jdf (λc wx=>c=[{ v:=erV 3,recovered:=false }]/\(scan t).2=false/\Bw w wx) (λwx=>wx.cell? (Ad b (o+1))=some (Sx s1)/\wx.cell? (Ad b1 (o1+0))=some (I6 N0)/\wx.cell? (Ad b1 (o1+1))=some (I6 N1)) 17 17 (by kernel_rfl) rfl ?_ ?_
  . rintro c a' x hd ⟨rfl,h0,hx⟩
    exact⟨hd.trans rfl,by rw[if_neg (by rw[h0];decide)];rfl,hx⟩
  intro w2 hb2;have zk:∀{x y:World},(x.cell? (Ad b (o+1))=some (Sx s1)/\x.cell? (Ad b1 (o1+0))=some (I6 N0)/\x.cell? (Ad b1 (o1+1))=some (I6 N1))->Bw x y->(y.cell? (Ad b (o+1))=some (Sx s1)/\y.cell? (Ad b1 (o1+0))=some (I6 N0)/\y.cell? (Ad b1 (o1+1))=some (I6 N1)):=λ{x y} h hb =>
   ⟨(hb.cell (blt x _ h.1)).trans h.1,(hb.cell (blt x _ h.2.1)).trans h.2.1,(hb.cell (blt x _ h.2.2)).trans h.2.2⟩
  have hz1:=zk ⟨(zC HB1.out b (o+1) HBW.out).trans HC.out,HX0.out,HX1.out⟩ hb2;have hb2A:=HB1.out.trans (hb2.mono HB1.out.size);obtain⟨G,hG⟩:=Jb6 hz1 zk;have y0:∀x,(G x).cell? (Ad b (o+1))=some (Sx s1):=λx=>(hG.but x).1;have y1:∀x,(G x).cell? (Ad b1 o1)=some (I6 N0):=λx=>(hG.but x).2.1;have y2:∀x,(G x).cell? (Ad b1 (o1+1))=some (I6 N1):=λx=>(hG.but x).2.2;have HZK:Hid (∀{x y:World},(x.cell? (Ad b (o+1))=some (Sx s1)/\x.cell? (Ad b1 (o1+0))=some (I6 N0)/\x.cell? (Ad b1 (o1+1))=some (I6 N1))->Bw x y->(y.cell? (Ad b (o+1))=some (Sx s1)/\y.cell? (Ad b1 (o1+0))=some (I6 N0)/\y.cell? (Ad b1 (o1+1))=some (I6 N1))):=zk;clear zk
  (refine Jao hG hz1 (i:=0) rfl (by kernel_rfl) (by kernel_rfl) (by kernel_rfl) (λK hK=>?_);go_simp;refine hK _ ?_;clear hK K)
  (refine Jao hG hz1 (i:=1) rfl (by kernel_rfl) (by kernel_rfl) (by kernel_rfl) (λK hK=>?_);go_simp;refine hK _ ?_;clear hK K)
  (refine Jao hG hz1 (i:=2) rfl (by kernel_rfl) (by kernel_rfl) (by kernel_rfl) (λK hK=>?_);go_simp;refine hK _ ?_;clear hK K)
  (refine Jao hG hz1 (i:=4) rfl (by kernel_rfl) (by kernel_rfl) (by kernel_rfl) (λK hK=>?_);go_simp;refine hK _ ?_;clear hK K)
  (refine Jao hG hz1 (i:=5) rfl (by kernel_rfl) (by kernel_rfl) (by kernel_rfl) (λK hK=>?_);go_simp;refine hK _ ?_;clear hK K)
  (refine Jao hG hz1 (i:=6) rfl (by kernel_rfl) (by kernel_rfl) (by kernel_rfl) (λK hK=>?_);go_simp;refine hK _ ?_;clear hK K)
  (refine Jao hG hz1 (i:=7) rfl (by kernel_rfl) (by kernel_rfl) (by kernel_rfl) (λK hK=>?_);go_simp;refine hK _ ?_;clear hK K)
  (refine Jao hG hz1 (i:=8) rfl (by kernel_rfl) (by kernel_rfl) (by kernel_rfl) (λK hK=>?_);go_simp;refine hK _ ?_;clear hK K)
  (refine Jao hG hz1 (i:=9) rfl (by kernel_rfl) (by kernel_rfl) (by kernel_rfl) (λK hK=>?_);go_simp;refine hK _ ?_;clear hK K)
  clear y0 y1 y2;refine Jqn (i:=3) (j:=14) (by kernel_rfl) ⟨_,rfl,?a1⟩ ⟨_,rfl,?a2⟩
  case' a1 =>
   intro w3 hb3 K hK
   go_simp
   have hb3A:=hb2A.trans (hb3.mono hb2A.size);refine(CD2.out w3 hb3A).mono ?_;rintro e w4 ⟨hd,hb4⟩;have hb4A:=hb3A.trans (hb4.mono hb3A.size);unfold JeB at hd
   by_cases hok:(scan t).2=true
   case neg =>
    rw[if_neg hok]at hd;exact .inr ⟨_,hd,rfl,Bool.eq_false_iff.2 hok,hb4A⟩
   rw[if_pos hok]at hd;obtain⟨x,rfl,hr4⟩:=hd;refine .inl ⟨_,rfl,hK _ _ (λh=>HZK.out h hb4) ?_⟩;clear hK K;have hz4:=HZK.out (HZK.out hz1 hb3) hb4;refine Jqn (i:=10) (j:=14) (by kernel_rfl) ⟨_,rfl,?b1⟩ ⟨_,rfl,?b2⟩
  case' b1 =>
   intro w5 hb5 K hK
   go_simp
   have hb5A:=hb4A.trans (hb5.mono hb4A.size);refine(CP.out hok x w5 hb5A (Jb4 hr4 hb5)).mono ?_;rintro e w6 ⟨rfl,hb6⟩;have hb6A:=hb5A.trans (hb6.mono hb5A.size);refine⟨_,rfl,hK _ _ (λh=>HZK.out h hb6) ?_⟩;clear hK K;have hz6:=HZK.out (HZK.out hz4 hb5) hb6
   (refine Jao hG hz6 (i:=11) rfl (by kernel_rfl) (by kernel_rfl) (by kernel_rfl) (λK hK=>?_);go_simp;refine hK _ ?_;clear hK K)
   (refine Jao hG hz6 (i:=12) rfl (by kernel_rfl) (by kernel_rfl) (by kernel_rfl) (λK hK=>?_);go_simp;refine hK _ ?_;clear hK K)
   (refine Jao hG hz6 (i:=13) rfl (by kernel_rfl) (by kernel_rfl) (by kernel_rfl) (λK hK=>?_);go_simp;refine hK _ ?_;clear hK K)
   refine Jcs (i:=14) (by kernel_rfl) ⟨_,rfl,?_⟩;intro w7 hb7 K hK
   go_simp
   have hb7A:=hb6A.trans (hb7.mono hb6A.size);have hbn:Bw w7 (w7.alloc (Oc #[I6 0,I6 0] 107)):=zA _ _;refine hK _ _ (λh=>HZK.out h hbn) ?_;clear hK K;have hz8:=HZK.out (HZK.out hz6 hb7) hbn;have hk9:(w7.alloc (Oc #[I6 0,I6 0] 107)).heap[w7.heap.size]?=some (Oc #[I6 0,I6 0] 107):=heap_alloc_new _ _;have hbl:w.heap.size<=w7.heap.size:=hb7A.size;have hbl1:b1<w7.heap.size:=by have:=blt _ _ hz6.2.1;have:=hb7.size;simp only at *;omega
   have hb9A:Bw w (w7.alloc (Oc #[I6 0,I6 0] 107)):=hb7A.trans (hbn.mono hb7A.size);generalize w7.alloc (Oc #[I6 0,I6 0] 107)=w9 at *;obtain⟨β,hβ⟩:∃β,w7.heap.size=β:=⟨_,rfl⟩;rw[hβ]at hk9 hbl hbl1 ⊢
  case' b2 =>
   intro w5 hb5 K hK
   go_simp
   have hb5A:=hb4A.trans (hb5.mono hb4A.size);have hbn:Bw w5 (w5.alloc (Oc #[I6 0,I6 0] 107)):=zA _ _;refine hK _ _ (λh=>HZK.out h hbn) ?_;clear hK K;have hz6:=HZK.out (HZK.out hz4 hb5) hbn;have hk6:(w5.alloc (Oc #[I6 0,I6 0] 107)).heap[w5.heap.size]?=some (Oc #[I6 0,I6 0] 107):=heap_alloc_new _ _;have hbl:w.heap.size<=w5.heap.size:=hb5A.size;have hbl1:b1<w5.heap.size:=by have:=blt _ _ hz4.2.1;have:=hb5.size;simp only at *;omega
   have hb6A:Bw w (w5.alloc (Oc #[I6 0,I6 0] 107)):=hb5A.trans (hbn.mono hb5A.size);generalize w5.alloc (Oc #[I6 0,I6 0] 107)=w6 at *;obtain⟨β,hβ⟩:∃β,w5.heap.size=β:=⟨_,rfl⟩;rw[hβ]at hk6 hbl hbl1 ⊢;refine Jcs (i:=10) (by kernel_rfl) ⟨_,rfl,?_⟩;have hr6:=Jb4 (Jb4 hr4 hb5) hbn;intro w8 hb8 K hK
   go_simp
   have hb8A:=hb6A.trans (hb8.mono hb6A.size);refine(CP.out hok x w8 hb8A (Jb4 hr6 hb8)).mono ?_;rintro e w9 ⟨rfl,hb9⟩;have hb9A:=hb8A.trans (hb9.mono hb8A.size);refine⟨_,rfl,hK _ _ (λh=>HZK.out h hb9) ?_⟩;clear hK K;have hz9:=HZK.out (HZK.out hz6 hb8) hb9
   (refine Jao hG hz9 (i:=11) rfl (by kernel_rfl) (by kernel_rfl) (by kernel_rfl) (λK hK=>?_);go_simp;refine hK _ ?_;clear hK K)
   (refine Jao hG hz9 (i:=12) rfl (by kernel_rfl) (by kernel_rfl) (by kernel_rfl) (λK hK=>?_);go_simp;refine hK _ ?_;clear hK K)
   (refine Jao hG hz9 (i:=13) rfl (by kernel_rfl) (by kernel_rfl) (by kernel_rfl) (λK hK=>?_);go_simp;refine hK _ ?_;clear hK K)
   have hk9:=(hb9.block β (by have:=(alt hk6);have:=hb8.size;omega)).trans ((hb8.block β (alt hk6)).trans hk6)
  case' a2 =>
   intro w3 hb3 K hK
   go_simp
   have hb3A:=hb2A.trans (hb3.mono hb2A.size);have hbn:Bw w3 (w3.alloc (Oc #[I6 0,I6 0] 107)):=zA _ _;refine hK _ _ (λh=>HZK.out h hbn) ?_;clear hK K;have hz4:=HZK.out (HZK.out hz1 hb3) hbn;have hk4:(w3.alloc (Oc #[I6 0,I6 0] 107)).heap[w3.heap.size]?=some (Oc #[I6 0,I6 0] 107):=heap_alloc_new _ _;have hbl:w.heap.size<=w3.heap.size:=hb3A.size;have hbl1:b1<w3.heap.size:=by have:=blt _ _ hz1.2.1;have:=hb3.size;simp only at *;omega
   have hb4A:Bw w (w3.alloc (Oc #[I6 0,I6 0] 107)):=hb3A.trans (hbn.mono hb3A.size);generalize w3.alloc (Oc #[I6 0,I6 0] 107)=w4 at *;obtain⟨β,hβ⟩:∃β,w3.heap.size=β:=⟨_,rfl⟩;rw[hβ]at hk4 hbl hbl1 ⊢;refine Jcs (i:=3) (by kernel_rfl) ⟨_,rfl,?_⟩;intro w5 hb5 K hK
   go_simp
   have hb5A:=hb4A.trans (hb5.mono hb4A.size);refine(CD2.out w5 hb5A).mono ?_;rintro e w6 ⟨hd,hb6⟩;have hb6A:=hb5A.trans (hb6.mono hb5A.size);unfold JeB at hd
   by_cases hok:(scan t).2=true
   case neg =>
    rw[if_neg hok]at hd;exact .inr ⟨_,hd,rfl,Bool.eq_false_iff.2 hok,hb6A⟩
   rw[if_pos hok]at hd;obtain⟨x,rfl,hr6⟩:=hd;refine .inl ⟨_,rfl,hK _ _ (λh=>HZK.out h hb6) ?_⟩;clear hK K;have hz6:=HZK.out (HZK.out hz4 hb5) hb6;refine Jcs (i:=10) (by kernel_rfl) ⟨_,rfl,?_⟩;intro w8 hb8 K hK
   go_simp
   have hb8A:=hb6A.trans (hb8.mono hb6A.size);refine(CP.out hok x w8 hb8A (Jb4 hr6 hb8)).mono ?_;rintro e w9 ⟨rfl,hb9⟩;have hb9A:=hb8A.trans (hb9.mono hb8A.size);refine⟨_,rfl,hK _ _ (λh=>HZK.out h hb9) ?_⟩;clear hK K;have hz9:=HZK.out (HZK.out hz6 hb8) hb9
   (refine Jao hG hz9 (i:=11) rfl (by kernel_rfl) (by kernel_rfl) (by kernel_rfl) (λK hK=>?_);go_simp;refine hK _ ?_;clear hK K)
   (refine Jao hG hz9 (i:=12) rfl (by kernel_rfl) (by kernel_rfl) (by kernel_rfl) (λK hK=>?_);go_simp;refine hK _ ?_;clear hK K)
   (refine Jao hG hz9 (i:=13) rfl (by kernel_rfl) (by kernel_rfl) (by kernel_rfl) (λK hK=>?_);go_simp;refine hK _ ?_;clear hK K)
   have hl4:=(alt hk4);have hk9:=(hb9.block β (by have:=hb5.size;have:=hb6.size;have:=hb8.size;omega)).trans ((hb8.block β (by have:=hb5.size;have:=hb6.size;omega)).trans ((hb6.block β (by have:=hb5.size;omega)).trans ((hb5.block β hl4).trans hk4)))
  all_goals
   refine Jcs (i:=15) (by kernel_rfl) ⟨_,rfl,?_⟩;intro w20 hb20 K hK;have hk20:=(hb20.block β (alt hk9)).trans hk9;have c0:=cQ hk20 0 rfl;have c1:=cQ hk20 1 rfl;have f0:=Lib.frozen_of_heap hk20 0;have f1:=Lib.frozen_of_heap hk20 1;have hb20A:=hb9A.trans (hb20.mono hb9A.size)
   go_simp
   refine hK _ _ (λh=>?_) ?_
   . have nb:∀{y z:Nat} {u v:Value},y<β->((w20.setCell (Ad β 0) u).setCell (Ad β 1) v).cell? (Ad y z)=w20.cell? (Ad y z):=λhy=>(World.cell?_of_block ((Below.heap_setCell _ _ _ _ (by simp only;omega)).trans (Below.heap_setCell _ _ _ _ (by simp only;omega))))
     exact⟨(nb (by have:=HBW.out;omega)).trans h.1,(nb hbl1).trans h.2.1,(nb hbl1).trans h.2.2⟩
   clear hK K;refine Jcs (i:=16) (by kernel_rfl) ⟨_,rfl,?_⟩;intro w21 hb21 K hK
   go_simp
   refine hK _ _ (λh=>h) ?_;clear hK K;refine JiD (by kernel_rfl) ?_;intro w22 hb22;have hbs:=(hb20A.setCell (p:=(Ad β 0)) hbl (I6 X)).setCell (p:=(Ad β 1)) hbl (I6 Y);have hbt:=hb21.trans (hb22.mono hb21.size);have HB22:Hid (Bw w w22):=hbs.trans (hbt.mono hbs.size);have hlt:β<((w20.setCell (Ad β 0) (I6 X)).setCell (Ad β 1) (I6 Y)).heap.size:=by have:=(alt hk20);simpa using this
   have HD:Hid (∀wx,Bw w22 wx->wx.cell? (Ad β 0)=some (I6 X)/\wx.cell? (Ad β 1)=some (I6 Y)):=λwx hx=>by
    have hy:=hbt.trans (hx.mono hbt.size);exact⟨(zC hy β 0 hlt).trans (by simp[go_sem,c0]),(zC hy β 1 hlt).trans (by simp[go_sem,c1])⟩
   clear hbs hbt hlt hb21 hb22 hb20 hb20A c0 c1 f0 f1 hk20 hk9 hbl hbl1
   by_cases h0:E=0
   case neg =>
    go_wp2_with (go_at_call 52;refine(CM.out _ HB22.out).mono ?_;rintro e w23 ⟨rfl,h⟩;rw[if_neg h0];unfold JaA;have HB23:=hdz (HB22.out.trans (h.mono HB22.out.size));clear h)
    exact⟨rfl,rfl,HB23.out⟩
   go_wp2_with (first
    | (go_at_call 52;refine(CM.out _ HB22.out).mono ?_;rintro e w23 ⟨rfl,h⟩;rw[if_pos h0];have HB23:=hdz (HB22.out.trans (h.mono HB22.out.size));obtain⟨d0,d1⟩:=HD.out _ h;clear h)
    | (go_at_call 62;refine(CT.out hok _ HB23.out).mono ?_;rintro e w24 ⟨rfl,h⟩;have HB24:Hid (Bw w w24):=(HB23.out.alloc HB23.out.size _).trans (h.mono (by have:=HB23.out.size;omega));clear h))
   go_ret;exact⟨rfl,HB24.out⟩
theorem okSpot:Jdm 38 spotV 4:=λlo w q S k ws vw h hd hk hw hsz hl hn =>
 Jc8 h (JrX ws hsz hl hn vw _ w h.env.nums h.env.env.lay h.env.env.tabs hw.1)
end
section
attribute [local go_sem] Oper.semAt_some Jaj JcH
variable {lo q r mp : Nat}
def newE (t:List UInt8) (us:List Int):Int:=if (scan t).2=true then (if 6<us.length then 4 else if us.all Jl3=true then 0 else 1) else 3
def JsT (lo:Nat) (E:Int) (R:Rm) (e:Ending) (w':World):Prop :=
 ∃ rv ev,e=.returned (.tuple #[rv,ev])/\(∀wx,Bw w' wx->Cg 52 #[ev] wx λe w2=>e=(if E=0 then .returned (.tuple #[]) else JaA E)/\Bw wx w2) /\
  (E=0->∃r bx bmx bs,rv=Pd r 0/\isRoom lo w' r bx bmx bs R)
theorem new_any(t:List UInt8)(ht:t.length<=2000)(us:List Int)(v:Value)(lo:Nat)(w:World)(he:Env lo w)(hlo:lo<=w.heap.size)(hus:Je5 w v us) :
    Cg 13 #[Sx t,v] w λe w'=>JsT lo (newE t us) (Jdi t us) e w'/\Bw w w':=by
 unfold newE
 by_cases hok:(scan t).2=true
 . rw [if_pos hok]
   by_cases h6:6<us.length
   . rw[if_pos h6]
     refine(JqN t hok ht us h6 v lo w he hlo hus).mono ?_;rintro e w' ⟨rfl,hb⟩;exact⟨⟨_,errV 4,rfl,λwx hx=>Je3 4 wx (JaQ he.lay (hb.trans (hx.mono hb.size))),λh=>absurd h (by decide)⟩,hb⟩
   . rw [if_neg h6]
     have hV:V t:=JfR hok;refine(JmZ t hV ht us (by omega) v lo w he hlo hus).mono ?_;rintro e w' ⟨hb,⟨hu,r,bx,bmx,bs,rfl,hr,_⟩|⟨⟨u,hu1,hu2⟩,rfl⟩⟩
     . have ha:us.all Jl3=true:=List.all_eq_true.2 λu h=>by have:=hu u h;unfold JaH at this;unfold Jl3;exact decide_eq_true this
       rw[if_pos ha];exact⟨⟨_,errV 0,rfl,λwx hx=>Je3 0 wx (JaQ he.lay (hb.trans (hx.mono hb.size))),λ_=>⟨r,bx,bmx,bs,rfl,hr⟩⟩,hb⟩
     . have ha:¬us.all Jl3=true:=λh=>hu2 (by have:=List.all_eq_true.1 h u hu1;unfold Jl3 at this;show u=1\/u=2\/u=3;exact of_decide_eq_true this)
       rw[if_neg ha];exact⟨⟨_,errV 1,rfl,λwx hx=>Je3 1 wx (JaQ he.lay (hb.trans (hx.mono hb.size))),λh=>absurd h (by decide)⟩,hb⟩
 . rw[if_neg hok]
   refine(Js5 t (Bool.eq_false_iff.2 hok) ht v us w he.tabs hus).mono ?_;rintro e w' ⟨x,w1,rfl,⟨a,rfl,h1,h2,h3,h4⟩,hb1,hb⟩;refine⟨⟨_,_,rfl,λwx hx=>?_,λh=>absurd h (by decide)⟩,hb⟩;have hlt:=blt w1 _ h3;exact Ji3 _ _ 3 wx (JhP a 3 wx (JaQ he.lay (hb.trans (hx.mono hb.size))) ((zC hx a 0 (Nat.lt_of_lt_of_le hlt hb1.size)).trans ((zC hb1 a 0 hlt).trans h3)))
theorem JoS{w:World}{r' bx' bmx':Nat}{bs':List Nat}{t:List UInt8}{us:List Int}(he:EnvD lo w)(hl:lo<=q)(h1:w.heap[q]?=some (Oc #[Pd r 0,.map (some mp)] 47))(h4:JeK w mp q)
    (hr:isRoom lo w r' bx' bmx' bs' (Jdi t us)):isSes lo (w.setCell (Ad q 0) (Pd r' 0)) q (newS t us)/\sameBut w (w.setCell (Ad q 0) (Pd r' 0)) (Jbx lo w):=by
 have hne:bmx'≠mp:=λe=>by
  subst e;obtain⟨D,⟨es,clock,hb,_,hs,_⟩,_⟩:=hr.srv.2.2.2;unfold JeK at h4;rw[h4]at hb;injection hb with hb;injection hb with hb _;subst hb;simp[tabG,tabL,Jdi]at hs
 have hq:w.setCell (Ad q 0) (Pd r' 0)=w.setCell (Ad q 0) (Pd r' 0):=rfl
 have hs:sameBut w (w.setCell (Ad q 0) (Pd r' 0)) (λk=>k=q) :=
  ⟨by simp,λk _ hk=>Below.heap_setCell _ _ _ _ hk,rfl,rfl,rfl⟩
 have hlt:=(alt h1);have hX:∀k,k<w.heap.size->k=q->lo<=k/\Jdb w k/\k≠bmx'/\∀cs T fz,w.heap[k]?=some (.cells cs T fz)->¬Jfh T:=λk _ e=>by
  subst e;refine⟨hl,Ja8 h1 (by decide),λe=>Jb0 hr.srv.2.2.2 _ _ _ (e ▸ h1),λcs T fz hc=>?_⟩;have:=JaB h1 hc;subst this;unfold Jfh;decide
 have hmq:mp≠q:=λe=>by subst e;unfold JeK at h4;rw[h4]at h1;cases h1
 refine⟨⟨he.same hs λk e=>e ▸ hl,hl,r',bx',bmx',bs',mp,?_,Jgf hr hs hX,hne,(hs.block mp (alt h4) hmq).trans h4⟩,hs.mono λk _ e=>⟨e ▸ hl,.inl ⟨_,_,e ▸ h1,.inr rfl⟩⟩⟩;simp[World.setCell,Array.getElem?_modify,h1]
def Jld (t s0:List UInt8) (ns:Option (List Int)):Except Int (List UInt8):=match ns with
 | none=>.error 3
 | some us=>if newE t us=0 then .ok s0 else .error (newE t us)
def Jle (ws:List (List UInt8)):Except Int (List UInt8):=Jld (Ja2 (wd ws 1)) (wd ws 0) (Jdq (ws.drop 2))
theorem Jqz(ws:List (List UInt8))(hsz:∀s∈ws.drop 1,s.length<=1999)(hwl:ws.length<=1001)(hl:2<=ws.length)(v:Value)(w:World)(he:EnvD lo w)(hlo:lo<=w.heap.size)(hv:wordsAt w v ws)
    (h1:w.heap[q]?=some (Oc #[Pd r 0,.map (some mp)] 47)) :
    Cg 25 #[Pd q 0,v] w λe w'=>e=JgJ (Jle ws) /\
     ((Jle ws≠.ok (wd ws 0)/\Bw w w')\/∃us w1 r' bx' bmx' bs',Jdq (ws.drop 2)=some us/\newE (Ja2 (wd ws 1)) us=0/\Bw w w1/\isRoom lo w1 r' bx' bmx' bs' (Jdi (Ja2 (wd ws 1)) us)/\w'=w1.setCell (Ad q 0) (Pd r' 0)):=by
 obtain⟨b,o,c,rfl,hlt,hbw,hc1⟩:=JcR hv.1 (Jh2 (ws:=ws) (i:=1) (by omega));obtain⟨_,_,_,ev,_,_,hc0⟩:=JcR hv.1 (Jh2 (ws:=ws) (i:=0) (by omega));injection ev with ev _ e3;injection ev with ev;injection ev with e1 e2 _;subst e1 e2 e3;have hbq:b≠q:=λe=>by
  subst e;obtain⟨cs,fz,hcs⟩:=hv.2 b rfl;have:=JaB h1 hcs;revert this;decide
 have hcl:ws.length<=c:=by obtain⟨_,_,g1,g2,_⟩:=hv.1;injection g1 with _ _ g3;omega
 have hst:=JgM hv.1 (m:=2) (by omega);have hw1:=Jgs (i:=1) hsz;have ht:(Ja2 (wd ws 1)).length<=2000:=by unfold Ja2;split<;>simp<;>omega
 obtain⟨vt,hvt⟩:∃vt,(Value.slice (if c=2 then some ((Ad b o):Addr) else some (Ad b (o+2))) (ws.length - 2) (c - 2))=vt:=⟨_,rfl⟩;rw[hvt]at hst;have CT:Hid (∀wx,Bw w wx->Cg 50 #[Sx (wd ws 1)] wx (Rt wx (Sx (Ja2 (wd ws 1))))):=λwx hb=>JfX _ (by omega) wx (Go.Proofs.Utf8Tabs_below he.env.tabs hb);have CN:Hid (∀wx,Bw w wx->Cg 51 #[vt] wx λe w'=>JpN (Jdq (ws.drop 2)) (ws.drop 2).length e w'/\Bw wx w'):=λwx hb =>
  Jfn (ws.drop 2) (λs hs=>by have:=hsz s (by rw[←List.drop_drop (i:=1) (j:=1)]at hs;exact List.mem_of_mem_drop hs);omega) (by rw[List.length_drop];omega) _ wx (he.nums.below hb) (JhW hst hb)
 have CR:Hid (∀us v wx,Bw w wx->Je5 wx v us->Cg 13 #[Sx (Ja2 (wd ws 1)),v] wx λe w'=>JsT lo (newE (Ja2 (wd ws 1)) us) (Jdi (Ja2 (wd ws 1)) us) e w'/\Bw wx w'):=λus v wx hb hi =>
  new_any _ ht us v lo wx (he.env.below hb) (Nat.le_trans hlo hb.size) hi
 unfold Jle;have hi1:(1:Int)<(ws.length:Int):=by omega
 have hi2:(2:Int)<=(ws.length:Int):=by omega
 have hi3:(2:Int)<=(c:Int):=by omega
 have hi4:(ws.length:Int)<=(c:Int):=by omega
 have hqw:=(alt h1);have H1:=hdz h1;generalize Jdq (ws.drop 2)=ns at *;generalize (ws.drop 2).length=nl at *;generalize Ja2 (wd ws 1)=t at *;generalize wd ws 1=s1 at *;generalize wd ws 0=s0 at *;generalize ws.length=n at *;clear hst hv hsz he hlo hw1 ht hcl h1
 go_enter func25,ntmps25
 go_wp2;refine Jdf (λc wx=>c=[{ v:=erV 3,recovered:=false }]/\ns=none/\Bw w wx) (λwx=>wx.cell? (Ad b (o+1))=some (Sx s1)) 13 13 (by kernel_rfl) rfl ?_ ?_
 . rintro c a' x hd ⟨rfl,h0,hx⟩
   subst h0;exact⟨hd.trans rfl,rfl,.inl ⟨by simp[Jld],hx⟩⟩
 intro w1 hb1;have hz1:=(zC hb1 b (o+1) hbw).trans hc1;obtain⟨G,hG⟩:=Jb6 (Z:=λwx:World=>wx.cell? (Ad b (o+1))=some (Sx s1)) hz1 (λ{x y} h hb=>(hb.cell (blt x _ h)).trans h);have y0:∀x,(G x).cell? (Ad b (o+1))=some (Sx s1):=λx=>hG.but x
 (refine Jao hG hz1 (i:=0) rfl (by kernel_rfl) (by kernel_rfl) (by kernel_rfl) (λK hK=>?_);go_simp;refine hK _ ?_;clear hK K)
 (refine Jao hG hz1 (i:=1) rfl (by kernel_rfl) (by kernel_rfl) (by kernel_rfl) (λK hK=>?_);go_simp;refine hK _ ?_;clear hK K)
 (refine Jao hG hz1 (i:=2) rfl (by kernel_rfl) (by kernel_rfl) (by kernel_rfl) (λK hK=>?_);go_simp;refine hK _ ?_;clear hK K)
 (refine Jao hG hz1 (i:=4) rfl (by kernel_rfl) (by kernel_rfl) (by kernel_rfl) (λK hK=>?_);go_simp;refine hK _ ?_;clear hK K)
 (refine Jao hG hz1 (i:=5) rfl (by kernel_rfl) (by kernel_rfl) (by kernel_rfl) (λK hK=>?_);go_simp;refine hK _ ?_;clear hK K)
 clear y0;refine Jcs (i:=3) (by kernel_rfl) ⟨_,rfl,?_⟩;intro w2 hb2 K hK
 go_simp
 have hb2A:=hb1.trans (hb2.mono hb1.size);refine(CT.out w2 hb2A).mono ?_;rintro e w3 ⟨rfl,hb3⟩;have hb3A:=hb2A.trans (hb3.mono hb2A.size);refine .inl ⟨_,rfl,hK _ _ (λh=>(hb3.cell (blt _ _ h)).trans h) ?_⟩;clear hK K;refine Jcs (i:=6) (by kernel_rfl) ⟨_,rfl,?_⟩;intro w4 hb4 K hK
 go_simp
 have hb4A:=hb3A.trans (hb4.mono hb3A.size);refine(CN.out w4 hb4A).mono ?_;rintro e w5 ⟨hp,hb5⟩;have hb5A:=hb4A.trans (hb5.mono hb4A.size)
 cases hns:ns with
 | none =>
  rw[hns]at hp;exact .inr ⟨_,hp,rfl,rfl,hb5A⟩
 | some us =>
 rw[hns]at hp;obtain⟨v5,rfl,hi5,_⟩:=hp;refine .inl ⟨_,rfl,hK _ _ (λh=>(hb5.cell (blt _ _ h)).trans h) ?_⟩;clear hK K;refine Jcs (i:=7) (by kernel_rfl) ⟨_,rfl,?_⟩;intro w6 hb6 K hK
 go_simp
 have hb6A:=hb5A.trans (hb6.mono hb5A.size);refine(CR.out us v5 w6 hb6A (Jnv hi5 hb6)).mono ?_;rintro e w7 ⟨⟨rv,ev,rfl,hm,hr⟩,hb7⟩;have hb7A:=hb6A.trans (hb7.mono hb6A.size);refine⟨_,rfl,hK _ _ (λh=>(hb7.cell (blt _ _ h)).trans h) ?_⟩;clear hK K;have hz7:=(zC hb7A b (o+1) hbw).trans hc1
 (refine Jao hG hz7 (i:=8) rfl (by kernel_rfl) (by kernel_rfl) (by kernel_rfl) (λK hK=>?_);go_simp;refine hK _ ?_;clear hK K)
 (refine Jao hG hz7 (i:=9) rfl (by kernel_rfl) (by kernel_rfl) (by kernel_rfl) (λK hK=>?_);go_simp;refine hK _ ?_;clear hK K)
 (refine Jao hG hz7 (i:=10) rfl (by kernel_rfl) (by kernel_rfl) (by kernel_rfl) (λK hK=>?_);go_simp;refine hK _ ?_;clear hK K)
 (refine Jao hG hz7 (i:=11) rfl (by kernel_rfl) (by kernel_rfl) (by kernel_rfl) (λK hK=>?_);go_simp;refine hK _ ?_;clear hK K)
 (refine Jao hG hz7 (i:=12) rfl (by kernel_rfl) (by kernel_rfl) (by kernel_rfl) (λK hK=>?_);go_simp;refine hK _ ?_;clear hK K)
 refine JiD (by kernel_rfl) ?_;intro w8 hb8;have HB8:Hid (Bw w w8):=hb7A.trans (hb8.mono hb7A.size);have CM:Hid (Cg 52 #[ev] w8 λe w2=>e=(if newE t us=0 then .returned (.tuple #[]) else JaA (newE t us))/\Bw w8 w2):=hm w8 hb8
 by_cases h0:newE t us=0
 case neg =>
  clear hb1 hb2 hb3 hb4 hb5 hb6 hb7 hb8 hb2A hb3A hb4A hb5A hb6A hb7A hz1 hz7 hG G hm hr CT CN CR hi5
  go_wp2_with (go_at_call 52;refine Calls.mono CM.out ?_;rintro e w9 ⟨rfl,h⟩;rw[if_neg h0];unfold JaA;have HB9:=hdz (HB8.out.trans (h.mono HB8.out.size));clear h)
  subst hns;exact⟨rfl,by unfold Jld;simp only[if_neg h0];rfl,.inl ⟨by unfold Jld;simp[h0],HB9.out⟩⟩
 obtain⟨r',bx',bmx',bs',rfl,hr'⟩:=hr h0;have HR8:Hid (isRoom lo w8 r' bx' bmx' bs' (Jdi t us)):=Jal hr' hb8;have HC0:Hid (w.cell? (Ad b (o+0))=some (Sx s0)):=hc0;have HBW:Hid (b<w.heap.size):=hbw;have HBQ:Hid (b≠q):=hbq;have HQW:Hid (q<w.heap.size):=hqw;clear hb1 hb2 hb3 hb4 hb5 hb6 hb7 hb8 hb2A hb3A hb4A hb5A hb6A hb7A hz1 hz7 hG G hm hr CT CN CR hi5 hr' hc0 hbq hbw hqw
 go_wp2_with (go_at_call 52;refine Calls.mono CM.out ?_;rintro e w9 ⟨rfl,h⟩;rw[if_pos h0];have HB9:=hdz (HB8.out.trans (h.mono HB8.out.size));have HR9:Hid _:=Jal HR8.out h;have hq9:=(HB9.out.block q HQW.out).trans H1.out;have g0:=chp hq9 0;have f0:=Lib.frozen_of_heap hq9 0;have hx:(w9.setCell (Ad q 0) (Pd r' 0)).cell? (Ad b o)=some (Sx s0):=(World.cell?_of_block (Below.heap_setCell _ _ _ _ HBQ.out)).trans ((zC HB9.out b o HBW.out).trans HC0.out);clear h hq9)
 go_ret;subst hns;exact⟨by unfold Jld;simp only[if_pos h0];rfl,.inr ⟨us,w9,r',bx',bmx',bs',rfl,h0,HB9.out,HR9.out,rfl⟩⟩
theorem okBegin:Jdm 25 Jf2 2:=λlo w q S k ws vw h hd hk hw hsz hl hn=>by
 have h':=h;have hlw:=h.lt;obtain⟨he,hq,r,bx,bmx,bs,mp,h1,h2,h3,h4⟩:=h;refine(Jqz ws hsz hl hn vw w he (by omega) hw h1).mono ?_;rintro e w' ⟨rfl,hx⟩
 have key : (Jf2 S ws).2=Jle ws/\((Jle ws≠.ok (wd ws 0))->(Jf2 S ws).1=S)/\(∀us,Jdq (ws.drop 2)=some us->newE (Ja2 (wd ws 1)) us=0->(Jf2 S ws).1=newS (Ja2 (wd ws 1)) us):=by
  unfold Jf2 Jle Jld newE
  cases hns:Jdq (ws.drop 2) with
  | none=>exact⟨rfl,λ_=>rfl,λ_ h=>by cases h⟩
  | some us =>
   simp only
   by_cases a1:(scan (Ja2 (wd ws 1))).2=true
   . by_cases a2:6<us.length
     . simp only[if_pos a1,if_pos a2]
       exact⟨rfl,λ_=>trivial,λ_ h e=>by injection h with h;subst h;rw[if_pos a2]at e;cases e⟩
     . by_cases a3:us.all Jl3=true
       . simp only[if_pos a1,if_neg a2,if_pos a3]
         exact⟨rfl,λh=>absurd rfl h,λ_ h _=>by injection h with h;subst h;rfl⟩
       . simp only[if_pos a1,if_neg a2,if_neg a3]
         exact⟨rfl,λ_=>trivial,λ_ h e=>by injection h with h;subst h;rw[if_neg a2,if_neg a3]at e;cases e⟩
   . simp only[if_neg a1]
     exact⟨rfl,λ_=>trivial,λ_ h e=>by cases e⟩
 obtain⟨k1,k2,k3⟩:=key;refine⟨by rw[k1],?_⟩
 rcases hx with ⟨hne,hb⟩|⟨us,w1,r',bx',bmx',bs',hns,h0,hb,hr,rfl⟩
 . rw[k2 hne]
   exact⟨h'.below hb,Jbe hb⟩
 . rw[k3 us hns h0]
   have g1:=(hb.block q (alt h1)).trans h1;have g4:JeK w1 mp q:=(hb.block mp (alt h4)).trans h4;obtain⟨i1,i2⟩:=JoS (he.below hb) hq g1 g4 hr;exact⟨i1,Jd1 hb i2⟩
end
def Ju7 (o:Option Pt) (e:Ending):Prop :=
 match o with
 | some p=>e=.returned (JaX p)
 | none=>e=JaA 3
theorem Jta(s:List UInt8):∃(R K:Nat),Lib.decodeGo ⟨s.toArray⟩=(R,K)/\K<=s.length /\
    ((R=107/\s.take 1=[107]/\K=1)\/(R=100/\s.take 1=[100]/\K=1)\/(R=112/\s.take 1=[112]/\K=1)\/(R≠107/\R≠100/\R≠112/\Jdg s=none)):=by
 cases s with
 | nil=>exact⟨65533,0,rfl,nlr _,.inr (.inr (.inr ⟨by decide,by decide,by decide,rfl⟩))⟩
 | cons c r =>
  have hdec:Lib.decodeGo ⟨(c :: r).toArray⟩=dec (c :: r):=by
   have:=JeS ⟨(c :: r).toArray⟩ 0;unfold Lib.decodeGo;rw[if_neg (by simp[ByteArray.size])];have e0:(ByteArray.mk (c :: r).toArray).extract 0 (ByteArray.mk (c :: r).toArray).size=⟨(c :: r).toArray⟩:=by rw[Jho];congr 2;exact List.take_of_length_le (by simp[ByteArray.size])
   rw[e0]at this;exact this
  rcases Nat.lt_or_ge c.toNat 128 with h|h
  . refine ⟨c.toNat,1,by rw[hdec,Jt9 c r h],by simp,?_⟩
    by_cases h1:c=107
    . subst h1;exact .inl ⟨rfl,rfl,rfl⟩
    . by_cases h2:c=100
      . subst h2;exact .inr (.inl ⟨rfl,rfl,rfl⟩)
      . by_cases h3:c=112
        . subst h3;exact .inr (.inr (.inl ⟨rfl,rfl,rfl⟩))
        . refine .inr (.inr (.inr ⟨λe=>h1 (UInt8.toNat_inj.1 e),λe=>h2 (UInt8.toNat_inj.1 e),λe=>h3 (UInt8.toNat_inj.1 e),?_⟩))
          simp[Jdg,h1,h2,h3]
  . obtain⟨a,_⟩:=Jqd c r h
    have hle:=JnD (l:=c :: r) (by simp);refine⟨(dec (c :: r)).1,(dec (c :: r)).2,hdec,hle,.inr (.inr (.inr ⟨by omega,by omega,by omega,?_⟩))⟩;have h1:c≠107:=λe=>by subst e;revert h;decide
    have h2:c≠100:=λe=>by subst e;revert h;decide
    have h3:c≠112:=λe=>by subst e;revert h;decide
    simp[Jdg,h1,h2,h3]
theorem partW_k(r:List UInt8):Jdg (107 :: r)=(numW r).map λn=>(⟨n,0,[]⟩:Pt):=by simp[Jdg]
theorem partW_d(r:List UInt8):Jdg (100 :: r)=(numW r).map λn=>(⟨0,n,[]⟩:Pt):=by simp[Jdg]
theorem partW_p(r:List UInt8):Jdg (112 :: r)=if r≠[] then some ⟨0,0,Ja2 r⟩ else none:=by
 by_cases h:r=[]<;>simp[Jdg,h]
theorem Jl8{s:List UInt8}{c:UInt8}(h:s.take 1=[c]):s=c :: s.drop 1:=by
 cases s with
 | nil=>simp at h
 | cons x r=>simp at h;subst h;rfl
theorem JqX(s:List UInt8)(hs:s.length<=1000000)(w:World)(he:EnvK w)(hU:Lib.Utf8Tabs 3 4 w) :
    Cg 53 #[Sx s] w λe w'=>Ju7 (Jdg s) e/\Below w.heap.size w w':=by
 obtain⟨β,hβ⟩:∃β,w.heap.size=β:=⟨_,rfl⟩;have HW0:Hid (Below β w (w.alloc (Oc #[I6 0,I6 0,.string ⟨#[]⟩] 96))):=hβ ▸ (brf _ w).alloc (nlr _) _;have HBX:Hid ((w.alloc (Oc #[I6 0,I6 0,.string ⟨#[]⟩] 96)).heap[β]?=some (Oc #[I6 0,I6 0,.string ⟨#[]⟩] 96)):=hβ ▸ heap_alloc_new _ _;have TR:Hid (∀a b:World,Below β w a->Below a.heap.size a b->Below β w b):=λa b h1 h2=>h1.trans (h2.mono (by have:=h1.size;omega));obtain⟨R,K,hdec,hK,hcase⟩:=Jta s;have CD:Hid (∀wx,Below β w wx->Cg 94 #[Sx s] wx λe w'=>e=.returned (.tuple #[.int .i32 (R:Int),I6 (K:Int)])/\Below wx.heap.size wx w'):=λwx hb=>by
  have:=utf8_DecodeRuneInString ⟨s.toArray⟩ wx (Go.Proofs.Utf8Tabs_below hU (by rw[hβ];exact hb));rw[hdec]at this;exact this
 have e2:=Jhn s K;have hKi:(K:Int)<=(s.length:Int):=by omega
 have CN:Hid (∀wx,Below β w wx->Cg 57 #[Sx (s.drop K)] wx λe w'=>e=(match numW (s.drop K) with | some n=>.returned (I6 n) | none=>JaA 3)/\Below wx.heap.size wx w'):=λwx hb =>
  Jda _ (by rw[List.length_drop];omega) wx (he.below (by rw[hβ];exact hb))
 have CT:Hid (∀wx,Below β w wx->Cg 50 #[Sx (s.drop K)] wx λe w'=>e=.returned (Sx (Ja2 (s.drop K)))/\Below wx.heap.size wx w'):=λwx hb =>
  JfX _ (by rw[List.length_drop];omega) wx (Go.Proofs.Utf8Tabs_below hU (by rw[hβ];exact hb))
 rw[hβ]
 rcases hcase with ⟨rfl,a2,rfl⟩|⟨rfl,a2,rfl⟩|⟨rfl,a2,rfl⟩|⟨r1,r2,r3,hp⟩
 . have hs1:=Jl8 a2
   have HP:Hid (Jdg s=(numW (s.drop 1)).map λn=>(⟨n,0,[]⟩:Pt)):=(congrArg Jdg hs1).trans (partW_k _)
   cases hm:numW (s.drop 1) with
   | none =>
    have CN2:Hid (∀wx,Below β w wx->Cg 57 #[Sx (s.drop 1)] wx λe w'=>e=JaA 3/\Below wx.heap.size wx w'):=λwx hb=>by have:=CN.out wx hb;rw[hm]at this;exact this
    have HP2:Hid (Jdg s=none):=by show _=_;rw[HP.out,hm];rfl
    clear hdec hs1 hm he hU CN CT HP a2;generalize s.drop 1=r at *
    go_enter func53,ntmps53
    go_wp2_with (first
     | (go_at_call 94;refine(CD.out _ HW0.out).mono ?_;rintro e w1 ⟨rfl,h⟩;have HB1:Hid (Below β w w1):=TR.out _ _ HW0.out h;clear h)
     | (go_at_call 57;refine(CN2.out _ HB1.out).mono ?_;rintro e w2 ⟨rfl,h⟩;unfold JaA;have HB2:Hid (Below β w w2):=TR.out _ _ HB1.out h;clear h))
    exact⟨rfl,by rw[HP2.out];rfl,HB2.out⟩
   | some n =>
    have CN2:Hid (∀wx,Below β w wx->Cg 57 #[Sx (s.drop 1)] wx λe w'=>e=.returned (I6 n)/\Below wx.heap.size wx w'):=λwx hb=>by have:=CN.out wx hb;rw[hm]at this;exact this
    have HP2:Hid (Jdg s=some ((⟨n,0,[]⟩:Pt))):=by show _=_;rw[HP.out,hm];rfl
    clear hdec hs1 hm he hU CN CT HP a2;generalize s.drop 1=r at *
    go_enter func53,ntmps53
    go_wp2_with (first
     | (go_at_call 94;refine(CD.out _ HW0.out).mono ?_;rintro e w1 ⟨rfl,h⟩;have HB1:Hid (Below β w w1):=TR.out _ _ HW0.out h;have HK1:=hdz h;clear h)
     | (go_at_call 57;refine(CN2.out _ HB1.out).mono ?_;rintro e w2 ⟨rfl,h⟩;have HB2:Hid (Below β w w2):=TR.out _ _ HB1.out h;have hbk:=(h.block β (by have:=HK1.out.size;simp at this;omega)).trans ((HK1.out.block β (by simp;omega)).trans HBX.out);have q0:=chp hbk 0;have q1:=chp hbk 1;have q2:=chp hbk 2;have f0:=Lib.frozen_of_heap hbk 0;have f1:=Lib.frozen_of_heap hbk 1;have f2:=Lib.frozen_of_heap hbk 2;clear h hbk))
    refine bodyPost_ret (v:=.agg #[I6 n,I6 0,.string ⟨#[]⟩]) (by simp[results,results53,go_sem,q0,q1,q2]) rfl ⟨by rw[HP2.out];rfl,((HB2.out.setCell (p:=(Ad β 0)) (nlr _) _).setCell (p:=(Ad β 1)) (nlr _) _).setCell (p:=(Ad β 2)) (nlr _) _⟩
 . have hs1:=Jl8 a2
   have HP:Hid (Jdg s=(numW (s.drop 1)).map λn=>(⟨0,n,[]⟩:Pt)):=(congrArg Jdg hs1).trans (partW_d _)
   cases hm:numW (s.drop 1) with
   | none =>
    have CN2:Hid (∀wx,Below β w wx->Cg 57 #[Sx (s.drop 1)] wx λe w'=>e=JaA 3/\Below wx.heap.size wx w'):=λwx hb=>by have:=CN.out wx hb;rw[hm]at this;exact this
    have HP2:Hid (Jdg s=none):=by show _=_;rw[HP.out,hm];rfl
    clear hdec hs1 hm he hU CN CT HP a2;generalize s.drop 1=r at *
    go_enter func53,ntmps53
    go_wp2_with (first
     | (go_at_call 94;refine(CD.out _ HW0.out).mono ?_;rintro e w1 ⟨rfl,h⟩;have HB1:Hid (Below β w w1):=TR.out _ _ HW0.out h;clear h)
     | (go_at_call 57;refine(CN2.out _ HB1.out).mono ?_;rintro e w2 ⟨rfl,h⟩;unfold JaA;have HB2:Hid (Below β w w2):=TR.out _ _ HB1.out h;clear h))
    exact⟨rfl,by rw[HP2.out];rfl,HB2.out⟩
   | some n =>
    have CN2:Hid (∀wx,Below β w wx->Cg 57 #[Sx (s.drop 1)] wx λe w'=>e=.returned (I6 n)/\Below wx.heap.size wx w'):=λwx hb=>by have:=CN.out wx hb;rw[hm]at this;exact this
    have HP2:Hid (Jdg s=some ((⟨0,n,[]⟩:Pt))):=by show _=_;rw[HP.out,hm];rfl
    clear hdec hs1 hm he hU CN CT HP a2;generalize s.drop 1=r at *
    go_enter func53,ntmps53
    go_wp2_with (first
     | (go_at_call 94;refine(CD.out _ HW0.out).mono ?_;rintro e w1 ⟨rfl,h⟩;have HB1:Hid (Below β w w1):=TR.out _ _ HW0.out h;have HK1:=hdz h;clear h)
     | (go_at_call 57;refine(CN2.out _ HB1.out).mono ?_;rintro e w2 ⟨rfl,h⟩;have HB2:Hid (Below β w w2):=TR.out _ _ HB1.out h;have hbk:=(h.block β (by have:=HK1.out.size;simp at this;omega)).trans ((HK1.out.block β (by simp;omega)).trans HBX.out);have q0:=chp hbk 0;have q1:=chp hbk 1;have q2:=chp hbk 2;have f0:=Lib.frozen_of_heap hbk 0;have f1:=Lib.frozen_of_heap hbk 1;have f2:=Lib.frozen_of_heap hbk 2;clear h hbk))
    refine bodyPost_ret (v:=.agg #[I6 0,I6 n,.string ⟨#[]⟩]) (by simp[results,results53,go_sem,q0,q1,q2]) rfl ⟨by rw[HP2.out];rfl,((HB2.out.setCell (p:=(Ad β 0)) (nlr _) _).setCell (p:=(Ad β 1)) (nlr _) _).setCell (p:=(Ad β 2)) (nlr _) _⟩
 . have hs1:=Jl8 a2
   have HP:Hid (Jdg s=if s.drop 1≠[] then some ⟨0,0,Ja2 (s.drop 1)⟩ else none):=(congrArg Jdg hs1).trans (partW_p _)
   by_cases hr:s.drop 1=[]
   . have HP2:Hid (Jdg s=none):=by show _=_;rw[HP.out,if_neg (not_not_intro hr)]
     have hn:(s.drop 1 == [])=true:=by rw[hr];rfl
     clear hdec hs1 hr he hU CN CT HP a2;generalize s.drop 1=r at *
     go_enter func53,ntmps53
     go_wp2_with (go_at_call 94;refine(CD.out _ HW0.out).mono ?_;rintro e w1 ⟨rfl,h⟩;have HB1:Hid (Below β w w1):=TR.out _ _ HW0.out h;clear h)
     exact⟨rfl,by rw[HP2.out];rfl,HB1.out⟩
   . have HP2:Hid (Jdg s=some ⟨0,0,Ja2 (s.drop 1)⟩):=by show _=_;rw[HP.out,if_pos hr]
     have hn:(s.drop 1 == [])=false:=beq_eq_false_iff_ne.2 hr;clear hdec hs1 hr he hU CN HP a2;generalize s.drop 1=r at *
     go_enter func53,ntmps53
     go_wp2_with (first
      | (go_at_call 94;refine(CD.out _ HW0.out).mono ?_;rintro e w1 ⟨rfl,h⟩;have HB1:Hid (Below β w w1):=TR.out _ _ HW0.out h;have HK1:=hdz h;clear h)
      | (go_at_call 50;refine(CT.out _ HB1.out).mono ?_;rintro e w2 ⟨rfl,h⟩;have HB2:Hid (Below β w w2):=TR.out _ _ HB1.out h;have hbk:=(h.block β (by have:=HK1.out.size;simp at this;omega)).trans ((HK1.out.block β (by simp;omega)).trans HBX.out);have q0:=chp hbk 0;have q1:=chp hbk 1;have q2:=chp hbk 2;have f0:=Lib.frozen_of_heap hbk 0;have f1:=Lib.frozen_of_heap hbk 1;have f2:=Lib.frozen_of_heap hbk 2;clear h hbk))
     refine bodyPost_ret (v:=.agg #[I6 0,I6 0,Sx (Ja2 r)]) (by simp[results,results53,go_sem,q0,q1,q2]) rfl ⟨by rw[HP2.out];rfl,((HB2.out.setCell (p:=(Ad β 0)) (nlr _) _).setCell (p:=(Ad β 1)) (nlr _) _).setCell (p:=(Ad β 2)) (nlr _) _⟩
 . have HP:Hid (Jdg s=none):=hp
   have b1:((R:Int)==107)=false:=beq_eq_false_iff_ne.2 (by omega);have b2:((R:Int)==100)=false:=beq_eq_false_iff_ne.2 (by omega);have b3:((R:Int)==112)=false:=beq_eq_false_iff_ne.2 (by omega);clear hdec hp r1 r2 r3 he hU CN CT
   go_enter func53,ntmps53
   go_wp2_with (go_at_call 94;refine(CD.out _ HW0.out).mono ?_;rintro e w1 ⟨rfl,h⟩;have HB1:Hid (Below β w w1):=TR.out _ _ HW0.out h;clear h)
   exact⟨rfl,by rw[HP.out];rfl,HB1.out⟩
section
variable {s : List UInt8}
theorem Jji(s:List UInt8)(ws:List (List UInt8)):Jd7 (s :: ws)=(match Jdg s with | some p=>(Jd7 ws).map (p :: ·) | none=>none):=rfl
theorem Jk9{n:Int}(h:numW s=some n): -9223372036854775808<=n/\n<=9223372036854775807:=by
 unfold numW at h
 split at h
 . rename_i m hm
   split at h
   . injection h with h;subst h;exact JkI hm
   . cases h
 . cases h
theorem Ju6{p:Pt}(h:Jdg s=some p)(hs:s.length<=1000000):wfP p:=by
 unfold Jdg at h
 cases s with
 | nil=>cases h
 | cons c r =>
  simp only at h;have hr:r.length<=1000000:=by simp at hs;omega
  split at h
  . obtain⟨n,hn,rfl⟩:=Option.map_eq_some_iff.1 h
    have:=Jk9 hn;unfold wfP;simp;omega
  . split at h
    . obtain⟨n,hn,rfl⟩:=Option.map_eq_some_iff.1 h
      have:=Jk9 hn;unfold wfP;simp;omega
    . split at h
      . injection h with h
        subst h;have:(Ja2 r).length<=1000000:=by unfold Ja2;split<;>simp<;>omega
        unfold wfP;simp;omega
      . cases h
theorem Jk4:∀{ws:List (List UInt8)}{ps:List Pt},Jd7 ws=some ps->(∀s∈ws,s.length<=1000000)->ps.length=ws.length/\∀p∈ps,wfP p
 | [],ps,h,_=>by unfold Jd7 at h;injection h with h;subst h;exact⟨rfl,λp hp=>by cases hp⟩
 | s :: ws,ps,h,hs=>by
  rw[Jji]at h
  cases hn:Jdg s with
  | none=>rw[hn]at h;cases h
  | some n =>
   rw[hn]at h;obtain⟨l,hl,rfl⟩:=Option.map_eq_some_iff.1 h;obtain⟨h1,h2⟩:=Jk4 hl λx hx=>hs x (by simp[hx]);exact ⟨by simp[h1],λp hp=>by
    rcases List.mem_cons.1 hp with rfl|hp
    . exact Ju6 hn (hs s (by simp))
    . exact h2 p hp⟩
def Jhk (lo:Nat) (w:World) (r bx bmx:Nat) (bs:List Nat) (R:Rm) (s s0:List UInt8) (o:Option (List Pt)) (e:Ending) (w':World):Prop :=
 match o with
 | none=>e=JaA 3/\Bw w w'
 | some ps=>match cliD bs.length s with
  | .error n=>e=JaA n/\Bw w w'
  | .ok k=>e=(if edE (clK R k).1 (clK R k).2 ps=0 then .returned (Sx s0) else JaA (edE (clK R k).1 (clK R k).2 ps))/\isRoom lo w' r bx bmx bs (Jmk R k ps)/\sameBut w w' (JaE lo w bmx)
theorem Jsb{lo:Nat}{r bx bmx:Nat}{bs:List Nat}{R:Rm}{l0 nn:Int}{D:List (List UInt8)}(ws:List (List UInt8))(hsz:∀s∈ws.drop 1,s.length<=1999)(hwl:ws.length<=1001)(hl:2<=ws.length)(v:Value)(q:Nat)(w:World)(he:EnvD lo w)
    (hq:w.cell? (Ad q 0)=some (Pd r 0)) (h:isRoom lo w r bx bmx bs R) (hi:Inv l0 nn D R) (hnn:nn<=100000) (hbl:bs.length<=6) (hv:JcE w v ws) (hnt:∀b,v.ownBlock=some b->¬JaE lo w bmx b) :
    Cg 26 #[Pd q 0,v] w λe w'=>Jhk lo w r bx bmx bs R (wd ws 1) (wd ws 0) (Jd7 (ws.drop 2)) e w':=by
 obtain⟨b,o,c,rfl,hlt,hbw,hc1⟩:=JcR hv (Jh2 (ws:=ws) (i:=1) (by omega));obtain⟨_,_,_,ev,_,_,hc0⟩:=JcR hv (Jh2 (ws:=ws) (i:=0) (by omega));injection ev with ev _ e3;injection ev with ev;injection ev with e1 e2 _;subst e1 e2 e3;have hcl:ws.length<=c:=by obtain⟨_,_,g1,g2,_⟩:=hv;injection g1 with _ _ g3;omega
 have hst:=JgM hv (m:=2) (by omega);have hlen2:(ws.drop 2).length=ws.length - 2:=List.length_drop;have hs2:∀s∈ws.drop 2,s.length<=1999:=λs hs=>hsz s (by rw[←List.drop_drop (i:=1) (j:=1)]at hs;exact List.mem_of_mem_drop hs);have hw1:=Jgs (i:=1) hsz;have hnb:=hnt b rfl;obtain⟨po,hpo⟩:∃po,(if c=2 then some ((Ad b o):Addr) else some (Ad b (o+2)))=po:=⟨_,rfl⟩;rw[hpo]at hst;obtain⟨p',c',ev',q1,q2,q3⟩:=hst;injection ev' with e1' _ _;subst e1';have HQ:=hdz q3;have HN:Hid ((ws.drop 2).length=ws.length - 2):=hlen2;have HS:Hid (∀s∈ws.drop 2,s.length<=1999):=hs2;have HE:=hdz he;have CC:Hid (∀wx,Bw w wx->Cg 54 #[Pd q 0,Sx (wd ws 1)] wx λe w'=>JeT bs (numW (wd ws 1)) e/\Bw wx w'):=λwx hb =>
  Jgj (wd ws 1) (by omega) q wx (he.nums.below hb) (JaQ he.env.lay hb) ((zC hb q 0 (blt w _ hq)).trans hq) (Jal h hb) (by omega)
 have CE:Hid (∀(j x:Nat) (vx:Value) (ps:List Pt) (wx:World),Bw w wx->bs[j]?=some x->opAt wx vx ps->(∀p∈ps,wfP p)->ps.length<=1000->Cg 55 #[Pd x 0,vx] wx λe w'=>e=.returned (errV (edE (clK R j).1 (clK R j).2 ps))/\isRoom lo w' r bx bmx bs (Jmk R j ps)/\sameBut w w' (JaE lo w bmx)):=λj x vx ps wx hb hj hx hwf hpl=>by
  have hr:=Jal h hb;obtain⟨g1,g2⟩:=JlM hr hi hj;have e4:=g2.id;refine(Jpm g1 g2.ok g2.unit vx ps hx hwf hpl (by have:=g2.small hi.lk;omega) ⟨e4.1,by split at e4<;>omega⟩ he.env.g2 (Go.Proofs.Utf8Tabs_below he.env.tabs hb)).mono ?_;rintro e w' ⟨rfl,a,c⟩;obtain⟨m1,m2⟩:=Jft hr hj a c;exact⟨rfl,m1,JbC hb m2⟩
 have CM:Hid (∀E wx,(Bw w wx\/∃wy,sameBut w wy (JaE lo w bmx)/\Bw wy wx)->Cg 52 #[errV E] wx λe w'=>e=(if E=0 then .returned (.tuple #[]) else JaA E)/\Bw wx w'):=λE wx hx=>by
  refine Je3 E wx ?_
  rcases hx with hb|⟨wy,hs,hb⟩
  . exact JaQ he.env.lay hb
  . exact JaQ (he.env.room hs).lay hb
 have HW0:Hid (∀wx,sameBut w wx (JaE lo w bmx)->wx.cell? (Ad b (o+0))=some (Sx (wd ws 0))):=λwx hs=>(World.cell?_of_block (hs.block b hbw hnb)).trans hc0;have HR:Hid (∀(j:Nat) (ps:List Pt) (wx wy:World),isRoom lo wx r bx bmx bs (Jmk R j ps)->sameBut w wx (JaE lo w bmx)->Bw wx wy->isRoom lo wy r bx bmx bs (Jmk R j ps)/\sameBut w wy (JaE lo w bmx)):=λj ps wx wy a c hb=>⟨Jal a hb,Jc0 c hb⟩;have hi1:(1:Int)<(ws.length:Int):=by omega
 have hi0:0<ws.length:=by omega
 have hi2:(2:Int)<=(ws.length:Int):=by omega
 have hi3:(2:Int)<=(c:Int):=by omega
 have hi4:(ws.length:Int)<=(c:Int):=by omega
 have HBW:Hid (b<w.heap.size):=hbw;have HC1:Hid (w.cell? (Ad b (o+1))=some (Sx (wd ws 1))):=hc1;obtain⟨i0,hif,hz0,hz1,hz2⟩:=info_parts Jcm;obtain⟨m,hm⟩:∃m,ws.length - 2=m:=⟨_,rfl⟩;have HM:Hid (m<=999):=by show _<=_;omega
 rw[hm]at HN;generalize ws.drop 2=tl at *;generalize wd ws 1=s1 at *;generalize wd ws 0=s0 at *;generalize ws.length=n at *;clear he h hi hv hnt hq hsz hwl hl hcl hlen2 hs2 hw1 hnb q1 q2 q3 hbl hnn hc0 hc1 hlt hbw
 go_enter func26,ntmps26
 go_wp2;clear hpo hm;have hmi:(m:Int)<=1000:=by have:=HM.out;omega
 go_loopw [5,11] (λv5 i wr=>∃(k:Nat) (ps:List Pt),i=.int .i64 k/\k<=m/\ps.length=k/\Jd7 tl=(Jd7 (tl.drop k)).map (ps ++ ·)/\wr.ownsRow w.heap.size 96 3 v5 k (JaM ps)/\Bw w wr) (λ_ i _=>m - (intOf i).toNat)
 case atStart=>exact⟨0,[],rfl,Nat.zero_le _,rfl,by simp,World.ownsRow_nil _ _ _ _,brf _ _⟩
 case round =>
  obtain⟨k,ps,rfl,hk,hps,heq,hown,hb⟩:=hrel;obtain⟨pv,cv,rfl⟩:=Jak hown
  by_cases hlt:k<m
  . have hki:(k:Int)<(m:Int):=by omega
    have hkl:k<tl.length:=by rw[HN.out];exact hlt
    obtain⟨b',o',rfl,hbw',hcc⟩:=HQ.out (λe=>by rw[e]at hkl;exact absurd hkl (Nat.not_lt_zero _));have g0:=(zC hb b' (o'+k) hbw').trans (hcc k _ (lgg hkl));have CP:=JqX tl[k] (by have:=HS.out _ (List.getElem_mem hkl);omega) wr (HE.out.nums.below hb) (Go.Proofs.Utf8Tabs_below HE.out.env.tabs hb);rw[List.drop_eq_getElem_cons hkl,Jji]at heq;generalize tl[k]=s at *
    cases hm:Jdg s with
    | none =>
     have CP2:Hid (Cg 53 #[Sx s] wr λe w'=>e=JaA 3/\Bw wr w'):=by have:=CP;rw[hm]at this;exact this
     have HEQ:Hid (Jd7 tl=none):=by show _=_;rw[heq,hm];rfl
     have HB:=hdz hb;clear heq hown hb hcc hm hps HQ CP CC CE CM HR HW0 HE hif hz0 hz1 hz2
     go_wp2_with (go_at_call 53;refine Calls.mono CP2.out ?_;rintro e w1 ⟨rfl,h⟩;unfold JaA;have HB1:=hdz (HB.out.trans (h.mono HB.out.size));clear h)
     exact⟨rfl,by rw[HEQ.out];exact⟨rfl,HB1.out⟩⟩
    | some p =>
     have CP2:Hid (Cg 53 #[Sx s] wr (Rt wr (JaX p))):=by have:=CP;rw[hm]at this;exact this
     have HEQ:Hid (Jd7 tl=(Jd7 (tl.drop (k+1))).map ((ps++[p]) ++ ·)):=by
      show _=_;rw[heq,hm]
      cases Jd7 (tl.drop (k+1))<;>simp
     have HB:=hdz hb;have HOW:=hdz hown;have HNS:=hdz hps;unfold JaX at CP2;obtain⟨PK,PD,PU⟩:=p;clear heq hown hb hcc hm hps HQ CP CC CE CM HR HW0 HE
     go_wp2_with (first
      | (go_at_call 53;refine Calls.mono CP2.out ?_;rintro e w1 ⟨rfl,h⟩;have HO:Hid (w1.ownsRow w.heap.size 96 3 (.slice pv k cv) k (JaM ps)):=Jbl HOW.out h;have HB1:=hdz (HB.out.trans (h.mono HB.out.size));have hs1:w.heap.size<=w1.heap.size:=HB1.out.size;clear h)
      | (at_builtin;refine wpList_append_own _ rfl _ _ 94 rfl w.heap.size 96 i0 (.agg #[I6 0,I6 0,.string ⟨#[]⟩]) 3 32 underlying94 hif hz0 hz1 hz2 rfl (by decide) _ _ _ rfl (HO.out.alloc _) (Ad w1.heap.size 0) 1 1 (JaL ⟨PK,PD,PU⟩) rfl rfl (JkZ _ _ (by first | rfl | simp) _ _) (Jb2 _) (by unfold maxLen;omega) (by omega) (by first | omega | (simp;omega)) ?_))
     intro v' w' hown' hg' _;obtain⟨p',c',rfl⟩:=Jak hown';have HB9:Hid (Bw w w'):=(HB1.out.alloc HB1.out.size _).grown hg' (by simp;omega) λj hj=>(HO.out.lt j hj).1;have HO9:Hid (w'.ownsRow w.heap.size 96 3 (.slice p' (k+1) c') (k+1) (JaM ps++JaL ⟨PK,PD,PU⟩)):=hown';clear hown' hg';go_wp2
     go_roundw
     case rel=>exact⟨k+1,ps++[⟨PK,PD,PU⟩],by go_num,by omega,by rw[List.length_append,HNS.out];rfl,HEQ.out,by rw[JcZ];exact HO9.out,HB9.out⟩
     case measure=>simp[intOf];omega
  . obtain rfl:k=m:=by omega
    have hki:¬((k:Int)<(k:Int)):=by omega
    have HEQ:Hid (Jd7 tl=some ps):=by show _=_;rw[heq,List.drop_of_length_le (Nat.le_of_eq HN.out)];simp[Jd7]
    have hop:opAt wr (.slice pv k cv) ps:=JpL (by rw[hps];exact hown);obtain⟨hpl,hwf⟩:=Jk4 HEQ.out λs hs=>by have:=HS.out s hs;omega
    have hpl2:ps.length<=1000:=by have:=HM.out;omega
    have HB:=hdz hb;have hc1:=(zC hb b (o+1) HBW.out).trans HC1.out;have hcx:=CC.out wr hb
    rcases hx:cliD bs.length s1 with n1|j
    . have CC2:Hid (Cg 54 #[Pd q 0,Sx s1] wr λe w'=>e=JaA n1/\Bw wr w'):=hcx.mono λe w' ⟨a,b⟩=>by
        rcases JbE a with ⟨m',e1,e2⟩|⟨k',b',e1,_⟩
        . rw[hx]at e1;injection e1 with e1;subst e1;exact⟨e2,b⟩
        . rw[hx]at e1;cases e1
      have HX:Hid (cliD bs.length s1=.error n1):=hx;clear heq hown hb hps HQ CC CE CM HR HW0 HE hcx hop hpl hwf hpl2 hx hif hz0 hz1 hz2
      go_wp2_with (go_at_call 54;refine Calls.mono CC2.out ?_;rintro e w1 ⟨rfl,h⟩;unfold JaA;have HB1:=hdz (HB.out.trans (h.mono HB.out.size));clear h)
      exact⟨rfl,by rw[HEQ.out];unfold Jhk;simp only[HX.out];exact⟨rfl,HB1.out⟩⟩
    . have HX:Hid (cliD bs.length s1=.ok j):=hx
      have CC2:Hid (Cg 54 #[Pd q 0,Sx s1] wr λe w'=>∃x,bs[j]?=some x/\e=.returned (Pd x 0)/\Bw wr w'):=hcx.mono λe w' ⟨a,b⟩=>by
       rcases JbE a with ⟨m',e1,e2⟩|⟨k',b',e1,e2,e3⟩
       . rw[hx]at e1;cases e1
       . rw[hx]at e1;injection e1 with e1;subst e1;exact⟨b',e2,e3,b⟩
      have CE2:Hid (∀(x:Nat) (wx:World),Bw wr wx->bs[j]?=some x->Cg 55 #[Pd x 0,.slice pv k cv] wx λe w'=>e=.returned (errV (edE (clK R j).1 (clK R j).2 ps))/\isRoom lo w' r bx bmx bs (Jmk R j ps)/\sameBut w w' (JaE lo w bmx)):=λx wx hbx hj =>
       CE.out j x _ ps wx (HB.out.trans (hbx.mono HB.out.size)) hj (JaJ hop hbx (nlr _)) hwf hpl2
      obtain⟨E,hE⟩:∃E,edE (clK R j).1 (clK R j).2 ps=E:=⟨_,rfl⟩;have HEE:Hid (edE (clK R j).1 (clK R j).2 ps=E):=hE;rw[hE]at CE2;have CM2:=CM.out E;obtain⟨ve,hve⟩:∃ve,errV E=ve:=⟨_,rfl⟩;rw[hve]at CE2 CM2;have CM3:Hid (∀wx wy,sameBut w wy (JaE lo w bmx)->Bw wy wx->Cg 52 #[ve] wx λe w'=>e=(if E=0 then .returned (.tuple #[]) else JaA E)/\Bw wx w'):=λwx wy h1 h2=>CM2 wx (.inr ⟨wy,h1,h2⟩);clear heq hown hb hps HQ CC CE CM CM2 HE hcx hop hpl hwf hpl2 hx hE hve hif hz0 hz1 hz2
      by_cases h0:E=0
      case neg =>
       go_wp2_with (first
        | (go_at_call 54;refine Calls.mono CC2.out ?_;rintro e w1 ⟨x,hj,rfl,h⟩;have HB1:=hdz h;have HJ:Hid (bs[j]?=some x):=hj;clear h hj)
        | (go_at_call 55;refine(CE2.out _ _ HB1.out HJ.out).mono ?_;rintro e w2 ⟨rfl,h1,h2⟩;have HR2:=hdz h1;have HS2:=hdz h2;clear h1 h2)
        | (go_at_call 52;refine(CM3.out _ _ HS2.out (brf _ _)).mono ?_;rintro e w3 ⟨rfl,h⟩;rw[if_neg h0];unfold JaA;have HR3:Hid _:=HR.out j ps _ _ HR2.out HS2.out h;clear h))
       exact⟨rfl,by rw[HEQ.out];unfold Jhk;simp only[HX.out,HEE.out,if_neg h0];exact⟨rfl,HR3.out⟩⟩
      go_wp2_with (first
       | (go_at_call 54;refine Calls.mono CC2.out ?_;rintro e w1 ⟨x,hj,rfl,h⟩;have HB1:=hdz h;have HJ:Hid (bs[j]?=some x):=hj;clear h hj)
       | (go_at_call 55;refine(CE2.out _ _ HB1.out HJ.out).mono ?_;rintro e w2 ⟨rfl,h1,h2⟩;have HR2:=hdz h1;have HS2:=hdz h2;clear h1 h2)
       | (go_at_call 52;refine(CM3.out _ _ HS2.out (brf _ _)).mono ?_;rintro e w3 ⟨rfl,h⟩;rw[if_pos h0];have HR3:Hid _:=HR.out j ps _ _ HR2.out HS2.out h;have hcw:=HW0.out _ HR3.out.2;rw[Nat.add_zero]at hcw;clear h))
      go_ret;exact by rw[HEQ.out];unfold Jhk;simp only[HX.out,HEE.out,if_pos h0];exact⟨rfl,HR3.out⟩
theorem okEdit:Jdm 26 Jmj 2:=λlo w q S k ws vw h hd hk hw hsz hl hn=>by
 have h':=h;obtain⟨he,hq,r,bx,bmx,bs,mp,h1,h2,h3,h4⟩:=h;obtain⟨n,D,a,b,c,d⟩:=hd;have hbs:=h2.cls.len;refine(Jsb ws hsz hl hn vw q w he (chp h1 0) h2 b (by omega) (by omega) hw.1 λx hx e=>?_).mono ?_
 . refine hw.notK hx (lo:=lo) ⟨e.1,?_⟩
   rcases e.2 with rfl|⟨cs,T,hc,hT⟩
   . obtain⟨D,⟨es,clock,hb,_⟩,_⟩:=h2.srv.2.2.2
     exact .inr ⟨es,clock,hb⟩
   . exact .inl ⟨cs,T,hc,.inl hT⟩
 . intro e w' hp
   unfold Jhk at hp;unfold Jmj
   cases hps:Jd7 (ws.drop 2) with
   | none =>
    rw[hps]at hp;exact⟨hp.1,h'.below hp.2,Jbe hp.2⟩
   | some ps =>
    rw[hps]at hp;simp only at hp ⊢;rw[hbs]at hp
    rcases hx:cliD S.R.cl.length (wd ws 1) with n1|j
    . rw[hx]at hp
      exact⟨hp.1,h'.below hp.2,Jbe hp.2⟩
    . rw[hx]at hp
      obtain⟨e1,e2,e3⟩:=hp;obtain⟨i1,i2,_⟩:=Jh9 he hq h1 h2 h3 h4 e2 e3;refine⟨?_,i1,i2⟩;rw[e1];show _=JgJ (if _ then _ else _)
      split<;>rfl
end
end Go.Proofs.YtbkeomcicobohaaGreatDoor
