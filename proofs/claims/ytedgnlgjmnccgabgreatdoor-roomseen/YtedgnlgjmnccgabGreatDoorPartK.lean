/-
  A part of the texts that the proof uses.
-/
import Derived.Test.YtedgnlgjmnccgabGreatDoorPartJ
import Derived.Test.YtedgnlgjmnccgabGreatDoorPartH
import Derived.Test.YtedgnlgjmnccgabGreatDoorPartI
import Derived.Test.YtedgnlgjmnccgabGreatDoorPartG
import Derived.Test.YtedgnlgjmnccgabGreatDoorPartC
import Derived.Test.YtedgnlgjmnccgabGreatDoorPartE
import Derived.Lib.SmallJoins
set_option maxRecDepth 100000
set_option maxHeartbeats 40000000
set_option linter.unusedVariables false
namespace Go.Proofs.YtedgnlgjmnccgabGreatDoor
section
open Go.RowKit Go.Maps
attribute [local go_sem] Oper.semAt_some Ja2 JaV
variable {s : List UInt8}{lo r bx bmx k : Nat}{w w' : World}{bs : List Nat}{us : List Int}{vc : Value}
def Jfe (w:World) (v:Value) (us:List Int):Prop:=∃p c,v=.slice p us.length c/\us.length<=c/\c<=maxLen/\(us≠[]->∃b o,p=some ⟨b,o,none⟩/\b<w.heap.size/\∀(i:Nat) (u:Int),us[i]?=some u->w.cell? ⟨b,o+i,none⟩=some (.int .i64 u))
def Jew (s:List UInt8) (us:List Int):Rm:=⟨s,[],fun _=>none,0,us.map fun u=>(u,JcS s),[],0⟩
theorem JiG(hV:V s)(hs:s.length<=2000){us:List Int}(hu:∀u∈us,Ja3 u):Inv (s.length:Int) 0 [s] (Jew s us)/\Inv2 (Jew s us)/\potR (Jew s us)=0:=by
 have hcl:∀(k:Nat) (q:Int×Cl),(Jew s us).cl[k]?=some q->q.2=JcS s/\Ja3 q.1:=fun k q hq=>by
  have hq:(us.map fun u=>(u,JcS s))[k]?=some q:=hq;rw[List.getElem?_map]at hq
  cases h:us[k]? with
  | none=>rw[h]at hq;cases hq
  | some u =>
   rw[h]at hq;obtain rfl:=osi hq;exact⟨rfl,hu u (List.mem_of_getElem? h)⟩
 refine⟨⟨⟨hV,hs,by omega,by omega,trivial,rfl⟩,⟨rfl,fun k hk=>?_,rfl⟩,⟨rfl,fun i x d hx=>?_,fun d hd=>?_⟩,Nat.zero_le _,fun k q hq=>?_,fun p hp=>?_,Nat.zero_le _⟩,⟨fun k q hq=>?_,fun p hp=>?_⟩,rfl⟩
 . obtain rfl:k=0:=Nat.le_zero.1 hk
   exact⟨s,rfl,rfl⟩
 . simp[Jew]at hx
 . rw[List.mem_singleton.1 hd];exact⟨hV,hs⟩
 . obtain⟨e,h1⟩:=hcl k q hq
   obtain⟨u,S⟩:=q;obtain rfl:S=JcS s:=e;exact⟨h1,Jpk hV,Int.le_refl _,rfl,⟨Int.le_refl _,by simp[JcS]⟩,⟨Int.le_refl _,by simp[JcS]⟩⟩
 . simp[Jew]at hp
 . obtain⟨e,h1⟩:=hcl k q hq
   rw[e];refine⟨Int.le_refl _,fun _=>rfl,fun j x _ hx=>?_,fun hm=>absurd rfl hm,by show(0:Int)≠8;decide⟩;simp[Jew]at hx
 . simp[Jew]at hp
theorem JnF{cl:List (Int×Cl)}(h:isCls lo w bs cl)(hb:Below w.heap.size w w'){b:Nat}{u:Int}{S:Cl}(hc:isCl lo w' b (bs.length:Int) u S)(hn:w.heap.size<=b)(own1:∀x,ownC w' b x->x=b):isCls lo w' (bs++[b]) (cl++[(u,S)]):=by
 have h':=Jfp h hb;have old:∀(j c x:Nat),bs[j]?=some c->ownC w' c x->x<w.heap.size:=fun j c x hc hx=>by
  have hj:j<cl.length:=by rw[←h.len];exact(llt hc)
  have hcl:=h.each j c cl[j] hc (lgg hj);have:=Je6 (X:=fun _=>False) (Jaf hb _) (JbP hcl) id hx;exact(Jem hcl this).2.1
 have at_:∀(j c:Nat),(bs++[b])[j]?=some c->bs[j]?=some c\/j=bs.length/\c=b:=fun j c hc=>by
  rcases Nat.lt_or_ge j bs.length with hj|hj
  . rw[List.getElem?_append_left hj]at hc;exact .inl hc
  . have:j<(bs++[b]).length:=(llt hc)
    have hje:j=bs.length:=by simp at this;omega
    subst hje;rw[List.getElem?_append_right (nlr _),Nat.sub_self]at hc;exact .inr ⟨rfl,(osi hc).symm⟩
 refine⟨by simp[h.len],fun k c q hk hq=>?_,fun j k c c' hj hk hne x hx hx'=>?_⟩
 . rcases at_ k c hk with hk | ⟨rfl,rfl⟩
   . have hkl:k<cl.length:=by rw[←h.len];exact(llt hk)
     rw[List.getElem?_append_left hkl]at hq;exact h'.each k c q hk hq
   . rw[h.len,List.getElem?_append_right (nlr _),Nat.sub_self]at hq
     obtain rfl:(u,S)=q:=by simpa using hq
     exact hc
 . rcases at_ j c hj with hj1 | ⟨ej,ec⟩
   . rcases at_ k c' hk with hk1 | ⟨ek,ec'⟩
     . exact h'.apart j k c c' hj1 hk1 hne x hx hx'
     . have h1:=old j c x hj1 hx
       rw[ec']at hx';have h2:=own1 x hx';omega
   . rcases at_ k c' hk with hk1 | ⟨ek,ec'⟩
     . have h1:=old k c' x hk1 hx'
       rw[ec]at hx;have h2:=own1 x hx;omega
     . exact hne (ej.trans ek.symm)
theorem JqV:(Tryz.prog.info? 93).map (fun i=>(i.zero,i.size,i.bytes))=some (some (.pointer none),1,8):=by kernel_rfl
theorem JlR(w:World)(v:Value)(T:TypeId)(j:Nat)(u:Value)(hj: [v][j]?=some u):(w.alloc (.cells #[v] T)).cell? ((⟨w.heap.size,0,none⟩:Addr).add j)=some u:=by
 have hj0:j=0:=by have:=(llt hj);simp at this;exact this
 subst hj0;rw[Addr.add_lit];have:=chp (heap_alloc_new w (.cells #[v] T)) 0;obtain rfl:v=u:=by simpa using hj
 exact this
structure NewI (lo:Nat) (s:List UInt8) (us:List Int) (r bx bmx:Nat) (vc:Value) (bs:List Nat) (k:Nat) (w:World):Prop where
 low:lo<=r
 len:bs.length=k
 blk:w.heap[r]?=some (.cells #[.pointer (some ⟨bx,0,none⟩),vc,.slice none 0 0,.int .i64 0] 215 (0,0))
 row:w.ownsRow lo 93 1 vc bs.length (ptrs bs)
 cls:isCls lo w bs ((us.take k).map fun u=>(u,JcS s))
 srv:Jcc lo 0 w bx bmx s [] (fun _=>none)
theorem NewI.below(h:NewI lo s us r bx bmx vc bs k w)(hb:Below w.heap.size w w'):NewI lo s us r bx bmx vc bs k w' :=
 ⟨h.low,h.len,(hb.block r (alt h.blk)).trans h.blk,Jaj h.row hb,Jfp h.cls hb,JbO h.srv hb⟩
theorem NewI.push{w1:World}(h:NewI lo s us r bx bmx vc bs k w)(hb:Below w.heap.size w w1){b:Nat}{u:Int}(hu:us[k]?=some u)(hc:isCl lo w1 b (k:Int) u (JcS s))(hn:w.heap.size<=b)(own1:∀x,ownC w1 b x->x=b)(w2:World)(hb2:Below w1.heap.size w1 w2) :
    w2.ownsRow lo 93 1 vc bs.length (ptrs bs)/\∀w6 v2,w6.ownsRow lo 93 1 v2 (bs.length+1) (ptrs bs++[.pointer (some ⟨b,0,none⟩)])->w2.grownBy w6 vc.ownBlock ->
     w6.cell? ⟨r,1,none⟩=some vc/\w6.frozen? ⟨r,1,none⟩=false/\NewI lo s us r bx bmx v2 (bs++[b]) (k+1) (w6.setCell ⟨r,1,none⟩ v2):=by
 have hbb:Below w.heap.size w w2:=hb.trans (hb2.mono hb.size);have h2:=h.below hbb;have hcl2:=Jfp (JnF h.cls hb (b:=b) (u:=u) (S:=JcS s) (by rw[h.len];exact hc) hn own1) hb2;have hown:=fun k=>JcF (k:=k) h2.row
 refine⟨h2.row,fun w6 v2 hnew hg=>?_⟩;have hnb:some r≠vc.ownBlock:=fun e=>by
  obtain⟨_,_,cs,hc⟩:=hown r e.symm;have:=JaG h2.blk hc;revert this;decide
 have hb6:=(hg.block r (alt h2.blk) hnb).trans h2.blk;have hfin:=heap_setCell_same w6 r 1 _ _ v2 hb6;have hS:sameBut w2 (w6.setCell ⟨r,1,none⟩ v2) (fun k=>k=r\/vc.ownBlock=some k):=(JaP (S:=fun k=>k=r\/vc.ownBlock=some k) hg fun k e=>.inr e).comp (Jau (S:=fun k=>k=r\/vc.ownBlock=some k) (.inl rfl)) fun k _ h=>h
 have hX:∀k,k<w2.heap.size->(k=r\/vc.ownBlock=some k)->lo<=k/\∃cs T,w2.heap[k]?=some (.cells cs T (0,0))/\(T=215\/T=93):=fun k hk e=>by
  rcases e with rfl|e
  . exact⟨h.low,_,_,h2.blk,.inl rfl⟩
  . obtain⟨a,_,cs,hc⟩:=hown k e
    exact⟨a,cs,_,hc,.inr rfl⟩
 have hpl:ptrs (bs++[b])=ptrs bs++[.pointer (some ⟨b,0,none⟩)]:=by simp[ptrs]
 have hul:k<us.length:=(llt hu);have htk:us.take (k+1)=us.take k++[u]:=by rw[List.take_add_one,hu];rfl
 refine⟨chp hb6 1,Jak hb6,h.low,by simp[h.len],hfin,?_,?_,Jeq h2.srv hS fun x hx e=>?_⟩
 . rw[hpl,List.length_append]
   refine Jc4 (S:=fun k=>k=r) hnew (Jau rfl) fun k hk e=>?_
   subst e;obtain⟨_,_,cs,hc⟩:=JcF hnew hk;have:=JaG hb6 hc;revert this;decide
 . rw [htk,List.map_append]
   refine Je9 hcl2 hS (fun x hx e=>?_) fun c hc x e hx=>?_
   . obtain⟨a,cs,T,hc,hT⟩:=hX x hx e
     exact⟨a,JaA hc (by rcases hT with rfl|rfl<;>decide)⟩
   . obtain⟨_,hlt,cs,T,hc',hT⟩:=JhH hcl2 hc hx
     obtain⟨_,cs2,T2,hc2,hT2⟩:=hX x hlt e;have:=JaG hc' hc2;subst this
     rcases hT with rfl|rfl<;>rcases hT2 with e|e<;>revert e<;>decide
 . obtain⟨a,cs,T,hc,hT⟩:=hX x hx e
   exact⟨a,cs,T,_,hc,by rcases hT with rfl|rfl<;>decide,by rcases hT with rfl|rfl<;>decide,by rcases hT with rfl|rfl<;>decide⟩
theorem Ji4(s:List UInt8)(hV:V s)(hs:s.length<=2000)(us:List Int)(hu:∀u∈us,Ja3 u)(hul:us.length<=6)(v:Value)(lo:Nat)(w:World)(he:Env lo w)(hlo:lo<=w.heap.size)(hus:Jfe w v us) :
    Calls Tryz.prog 60 #[.string ⟨s.toArray⟩,v] w fun e w'=>∃r bx bmx bs,e=.returned (.tuple #[.pointer (some ⟨r,0,none⟩),.nilIface])/\isRoom lo w' r bx bmx bs (Jew s us)/\Below w.heap.size w w'/\w.heap.size<=r:=by
 have hsc:=Jjc hV;have CN:Hid _:=Jlw lo s hs hsc w hlo he.tabs
 have CC:Hid (∀wx (k:Int) (u:Int),Below w.heap.size w wx->Ja3 u->Calls Tryz.prog 46 #[.int .i64 k,.int .i64 u,.string ⟨s.toArray⟩] wx fun e w'=>∃b,e=.returned (.tuple #[.pointer (some ⟨b,0,none⟩),.nilIface])/\isCl lo w' b k u (JcS s)/\wx.heap.size<=b/\Below wx.heap.size wx w'/\∀x,ownC w' b x->x=b):=fun wx k u hb hu=>by
  obtain⟨rs,hR,rfl⟩:=hV;obtain ⟨m,hm,hmu⟩:∃m:Nat,u=(m:Int)/\Joq m:=by
   rcases hu with rfl|rfl|rfl
   . exact⟨1,rfl,.inl rfl⟩
   . exact⟨2,rfl,.inr (.inl rfl)⟩
   . exact⟨3,rfl,.inr (.inr rfl)⟩
  rw[hm];have hc1:(encs rs).length=C1 rs:=(JbU rs).symm;exact JnQ k lo m hmu rs hR (by omega) wx (Nat.le_trans hlo hb.size) (Go.Proofs.Utf8Tabs_below he.tabs hb)
 obtain⟨p,c,rfl,q1,q2,q3⟩:=hus;have HUS:=hdz q3;have HU:Hid (∀u∈us,Ja3 u):=hu;have HLO:Hid (lo<=w.heap.size):=hlo;obtain⟨N,hN⟩:∃N,us.length=N:=⟨_,rfl⟩;have HN:Hid (us.length=N):=hN;rw[hN]at q1 hul ⊢;unfold maxLen at q2;have hNi:(N:Int)<=6:=by omega
 have hNj:¬(6:Int)<(N:Int):=by omega
 obtain⟨i0,hi0,hq0,hq1,hq2⟩:=info_parts JqV;clear he hlo hV hs hsc hu q3 hN
 go_enter Tryz.func60,Tryz.ntmps60
 go_wp2_with (first
  | (go_at_call 36;refine Calls.mono CN.out ?_;rintro e w1 ⟨bx,bmx,rfl,h1,hm1,hb1⟩;have H1:=hdz h1;have HB1:=hdz hb1;clear h1 hb1 hm1)
  | fail)
 have hb2:Below w1.heap.size w1 (w1.alloc (.cells #[.pointer (some ⟨bx,0,none⟩),.slice none 0 0,.slice none 0 0,.int .i64 0] 215)):=(brf _ _).alloc (nlr _) _
 have HI:Hid (NewI lo s us w1.heap.size bx bmx (.slice none 0 0) [] 0 (w1.alloc (.cells #[.pointer (some ⟨bx,0,none⟩),.slice none 0 0,.slice none 0 0,.int .i64 0] 215))) :=
  ⟨Nat.le_trans HLO.out HB1.out.size,rfl,heap_alloc_new _ _,World.ownsRow_nil _ _ _ _,⟨rfl,fun k b q hk=>by simp at hk,fun j k b b' hj=>by simp at hj⟩,JbO H1.out hb2⟩
 have HB2:Hid (Below w.heap.size w (w1.alloc (.cells #[.pointer (some ⟨bx,0,none⟩),.slice none 0 0,.slice none 0 0,.int .i64 0] 215))):=HB1.out.trans (hb2.mono HB1.out.size);obtain⟨r,hr⟩:∃r,w1.heap.size=r:=⟨_,rfl⟩;rw[hr]at HI ⊢;have HRW:Hid (w.heap.size<=r):=hr ▸ HB1.out.size;clear hb2 hr
 go_loopw [30] (fun i wr=>∃k:Nat,i=.int .i64 k/\k<=N/\∃vc bs,NewI lo s us r bx bmx vc bs k wr/\Below w.heap.size w wr/\∀j,vc.ownBlock=some j->w.heap.size<=j) (fun i _=>N - (intOf i).toNat)
 case atStart=>exact⟨0,rfl,Nat.zero_le _,_,[],HI.out,HB2.out,fun j hj=>by cases hj⟩
 case round =>
  obtain⟨k,rfl,hk,vc,bs,h1,h2,h3⟩:=hrel;have HI1:=hdz h1;have HW1:=hdz h2;have hki:(k:Int)<=6:=by omega
  clear HI HB2
  by_cases hlt:k<N
  . have hki2:(k:Int)<(N:Int):=by omega
    have hkul:k<us.length:=by rw[HN.out];exact hlt
    have hku:us[k]?=some us[k]:=lgg hkul;have hne:us≠[]:=fun e=>by have:=HN.out;rw[e]at this;simp at this;omega
    obtain⟨b0,o,rfl,hb0,hat⟩:=HUS.out hne;have g0:=(h2.cell (p:=⟨b0,o+k,none⟩) hb0).trans (hat k _ hku);have hou:=HU.out _ (List.getElem_mem hkul);have HKU:Hid (us[k]?=some us[k]):=hku;generalize us[k]=u at *;have CCK:Hid _:=CC.out wr (k:Int) u h2 hou;obtain⟨pc,cc,evc⟩:=Jad h1.row;subst evc;have hrow:=h1.row;have hlen:=h1.len;have hcm:bs.length<=6:=by omega
    have HOWN:Hid (∀j,(Value.slice pc bs.length cc).ownBlock=some j->w.heap.size<=j):=h3;clear h1 h2 h3 hat hku hne hou hrow hlen
    go_wp2_with (first
     | (go_at_call 46;refine Calls.mono CCK.out ?_
        rintro e w3 ⟨b,rfl,hc3,hn3,hb3,ho3⟩;have hpush:=fun w2 hb2=>NewI.push HI1.out hb3 HKU.out hc3 hn3 ho3 w2 hb2
        have HP:=hdz hpush;have HB3:Hid (Below w.heap.size w w3):=HW1.out.trans (hb3.mono HW1.out.size);have x1:w3.cell? ⟨r,1,none⟩=some (.slice pc bs.length cc):=(hb3.cell (p:=⟨r,1,none⟩) (alt HI1.out.blk)).trans (chp HI1.out.blk 1);have hr3:r<w3.heap.size:=Nat.lt_of_lt_of_le (alt HI1.out.blk) hb3.size
        clear hpush hc3 hn3 hb3 ho3)
     | (at_builtin;obtain⟨hrow2,hfin2⟩:=HP.out _ ((brf _ _).alloc (nlr _) (.cells #[.pointer (some ⟨b,0,none⟩)] 93));have HF:=hdz hfin2;have HBA:Hid (Below w.heap.size w (w3.alloc (.cells #[.pointer (some ⟨b,0,none⟩)] 93))):=HB3.out.alloc HB3.out.size _;refine Jcq _ rfl _ _ 212 rfl lo 93 i0 (.pointer none) 1 8 Tryz.underlying212 hi0 hq0 hq1 hq2 rfl (by decide) _ _ _ rfl hrow2 ⟨w3.heap.size,0,none⟩ 1 1 [.pointer (some ⟨b,0,none⟩)] rfl rfl (JlR _ _ _) (fun u hu=>by rw[List.mem_singleton.1 hu];rfl) (by unfold maxLen;omega) (by omega) (by have h1:=HLO.out;have h2:=HBA.out.size;omega) (by omega) ?_
        clear hfin2 hrow2)
     | fail)
    intro v2 w6 hown' hg' hvn;obtain⟨y1,y2,y3⟩:=HF.out w6 v2 hown' hg';have Y3:=hdz y3;have HB6:Hid (Below w.heap.size w (w6.setCell ⟨r,1,none⟩ v2)):=(HBA.out.grown hg' HBA.out.size fun j hj=>HOWN.out j hj).setCell (p:=⟨r,1,none⟩) HRW.out v2;have HVN:Hid (∀j,v2.ownBlock=some j->w.heap.size<=j):=fun j hj=>(hvn j hj).elim (HOWN.out j) fun h=>by have h1:=HBA.out.size;rw[wsa]at h1;have h:w3.heap.size+1<=j:=h;omega
    obtain⟨p6,c6,rfl⟩:=Jad hown';clear hown' hg' y3 hvn;go_wp2
    go_roundw
    case rel=>exact⟨k+1,by go_num,by omega,_,_,Y3.out,HB6.out,HVN.out⟩
    case measure=>simp[intOf];omega
  . obtain rfl:k=N:=by omega
    have hki2:¬((k:Int)<(k:Int)):=by omega
    go_wp2
    go_ret2
    refine⟨r,rfl,⟨bx,bmx,bs,?_⟩,HW1.out,HRW.out⟩;have h:=HI1.out;have hc:=h.cls;rw[List.take_of_length_le (Nat.le_of_eq HN.out)]at hc;exact⟨h.low,⟨_,_,h.blk,h.row,Jpu _ _ _⟩,hc,h.srv⟩
end
section
open Go.RowKit Go.Maps
attribute [local go_sem] Oper.semAt_some Ja2 JaV
variable {lo bmx r bx : Nat}{w0 w w' : World}{bs : List Nat}{R : Rm}
def mq0:List Pt:=[⟨0,0,[120]⟩,⟨1,0,[]⟩]
def mq1:List Pt:=[⟨1,0,[]⟩,⟨0,0,[121]⟩]
def mt0:Rm:=Jew [45] [1,2]
def mt1:Rm:=JkF mt0 0 mq0
def mt2:Rm:=JkF mt1 1 mq1
def mt3:Rm:=Jc7 1 (Jc7 1 mt2)
theorem mt_e0:edE 1 (clK mt0 0).2 mq0=0:=by decide +kernel
theorem mt_e1:edE 2 (clK mt1 1).2 mq1=0:=by decide +kernel
theorem mt_t:mt3.t=[120,45,121]:=by decide +kernel
theorem mt_d0:(clK mt3 0).2.doc=[120,45,121]:=by decide +kernel
theorem mt_d1:(clK mt3 1).2.doc=[120,45,121]:=by decide +kernel
theorem mt_pot:potR mt2=0/\potR (Jc7 1 mt2)<=1000:=by decide +kernel
theorem mt_V:V [45]:=⟨[45],fun r h=>by rw[List.mem_singleton.1 h];unfold Jaw;decide,by decide +kernel⟩
theorem JrE:∀u∈[(1:Int),2],Ja3 u:=fun u hu=>by
 simp at hu
 rcases hu with rfl|rfl
 . exact .inl rfl
 . exact .inr (.inl rfl)
theorem mt_inv:Inv 1 0 [[45]] mt0:=(JiG mt_V (by decide) (us:=[1,2]) JrE).1
theorem Je7(hb:Below lo w0 w)(hlo:lo<=w.heap.size)(hs:sameBut w w' (Jbg lo w bmx)):Below lo w0 w' :=
 hb.trans ⟨hs.os,hs.tape,hs.output,hs.size,fun k hlt=>hs.block k (Nat.lt_of_lt_of_le hlt hlo) fun e=>absurd e.1 (Nat.not_le.2 hlt)⟩
theorem JmI(w:World)(a b:Pt):opAt (w.alloc (.cells #[.int .i64 a.keep,.int .i64 a.drop,.string ⟨a.put.toArray⟩,.int .i64 b.keep,.int .i64 b.drop,.string ⟨b.put.toArray⟩] 50)) (.slice (some ⟨w.heap.size,0,none⟩) 2 2) [a,b]:=by
 have hb:=heap_alloc_new w (.cells #[.int .i64 a.keep,.int .i64 a.drop,.string ⟨a.put.toArray⟩,.int .i64 b.keep,.int .i64 b.drop,.string ⟨b.put.toArray⟩] 50);refine⟨_,2,rfl,nlr _,by decide,fun _=>⟨w.heap.size,0,rfl,by rw[wsa];omega,fun i q hq=>?_⟩⟩
 match i,hq with
 | 0,hq=>obtain rfl:=osi hq;exact⟨chp hb 0,chp hb 1,chp hb 2⟩
 | 1,hq=>obtain rfl:=osi hq;exact⟨chp hb 3,chp hb 4,chp hb 5⟩
 | i+2,hq=>simp at hq
theorem JqS(w:World)(a b:Int):Jfe (w.alloc (.cells #[.int .i64 a,.int .i64 b] 3)) (.slice (some ⟨w.heap.size,0,none⟩) 2 2) [a,b]:=by
 have hb:=heap_alloc_new w (.cells #[.int .i64 a,.int .i64 b] 3);refine⟨_,2,rfl,nlr _,by decide,fun _=>⟨w.heap.size,0,rfl,by rw[wsa];omega,fun i q hq=>?_⟩⟩
 match i,hq with
 | 0,hq=>obtain rfl:=osi hq;exact chp hb 0
 | 1,hq=>obtain rfl:=osi hq;exact chp hb 1
 | i+2,hq=>simp at hq
structure Mt (lo:Nat) (w0:World) (r bx bmx:Nat) (bs:List Nat) (R:Rm) (w:World):Prop where
 room:isRoom lo w r bx bmx bs R
 low:Below lo w0 w
 env:Env lo w
 le:lo<=w.heap.size
theorem Mt.grow(h:Mt lo w0 r bx bmx bs R w)(hb:Below w.heap.size w w'):Mt lo w0 r bx bmx bs R w':=⟨Jap h.room hb,h.low.trans (hb.mono h.le),h.env.below hb,Nat.le_trans h.le hb.size⟩
theorem Mt.edit(h:Mt lo w0 r bx bmx bs R w){l0 n:Int}{D:List (List UInt8)}(hi:Inv l0 n D R)(hn:n<=1000){k b:Nat}(hk:k<R.cl.length)(hb:bs[k]?=some b)(v:Value)(q:List Pt)(hq:opAt w v q)(hqs:∀p∈q,wfP p/\p.put.length<=300)(hl:q.length<=100)(he:edE (clK R k).1 (clK R k).2 q=0) :
    Calls Tryz.prog 47 #[.pointer (some ⟨b,0,none⟩),v] w fun e w'=>e=.returned .nilIface/\Mt lo w0 r bx bmx bs (JkF R k q) w':=by
 obtain⟨b',hb',hcl⟩:=Jcy h.room hk;obtain rfl:b=b':=by rw[hb]at hb';exact osi hb'
 obtain⟨_,hck⟩:=hi.clk hk;have hsm:=hck.small hi.lk;refine(JiP hcl hck.ok hck.unit v q hq (fun p hp=>(hqs p hp).1) (fun p hp=>(hqs p hp).2) hl (by omega) ⟨hck.id.1,by have:=hck.id.2;split at this<;>omega⟩ h.env.g2 h.env.tabs).mono ?_
 rintro e w' ⟨rfl,a,c⟩;obtain⟨m1,m2⟩:=Jdi h.room hb a c;refine⟨by rw[he];rfl,m1,Je7 h.low h.le m2,h.env.room m2,Nat.le_trans h.le m2.size⟩
theorem Mt.quiet(h:Mt lo w0 r bx bmx bs R w){l0 n:Int}{D:List (List UInt8)}(hi:Inv l0 n D R)(hn:n<=1000)(hl:bs.length<=6)(hp:potR R<=10000) :
    Calls Tryz.prog 71 #[.pointer (some ⟨r,0,none⟩)] w fun e w'=>e=.returned (.tuple #[])/\Mt lo w0 r bx bmx bs (Jc7 l0 R) w':=by
 refine(Jei h.env h.room hi (by omega) (by omega) (by omega)).mono ?_
 rintro e w' ⟨rfl,a,c⟩;exact⟨rfl,a,Je7 h.low h.le c,h.env.room c,Nat.le_trans h.le c.size⟩
theorem Jpp(w:World)(he:Env w.heap.size w):Calls Tryz.prog 77 #[] w fun e w'=>e=.returned (.bool true)/\Below w.heap.size w w':=by
 have I0:=mt_inv;have I1:Inv 1 1 [[45]] mt1:=I0.edit (k:=0) (by decide) mq0;have I2:Inv 1 2 [[45]] mt2:=I1.edit (k:=1) (by decide +kernel) mq1;obtain⟨D3,I3,_,l3,_,_⟩:=I2.quiet;obtain⟨D4,I4,_,l4,_,_⟩:=I3.quiet;obtain⟨p2,p3⟩:=mt_pot;have L1:mt1.cl.length=2:=by decide +kernel
 have L2:mt2.cl.length=2:=by decide +kernel
 have L4:mt3.cl.length=2:=by rw[show mt3=Jc7 1 (Jc7 1 mt2) from rfl,l4,l3,L2]
 have HB0:Hid (∀o,Below w.heap.size w (w.alloc o)):=fun o=>(brf _ _).alloc (nlr _) _
 have CN:Hid (∀wx v,Below w.heap.size w wx->Jfe wx v [1,2]->Calls Tryz.prog 60 #[.string ⟨[45].toArray⟩,v] wx fun e w'=>∃r bx bmx a b,e=.returned (.tuple #[.pointer (some ⟨r,0,none⟩),.nilIface])/\Mt w.heap.size w r bx bmx [a,b] mt0 w'):=fun wx v hb hv =>
  (Ji4 [45] mt_V (by decide) [1,2] JrE (by decide) v w.heap.size wx (he.below hb) hb.size hv).mono fun e w' ⟨r,bx,bmx,bs,h1,h2,h3,h4⟩=>by
    have hlen:=h2.cls.len
    match bs,hlen,h2 with
    | [a,b],_,h2=>exact⟨r,bx,bmx,a,b,h1,h2,hb.trans (h3.mono hb.size),(he.below hb).below h3,Nat.le_trans hb.size h3.size⟩
 have CC0:Hid (∀{r bx bmx a b:Nat} {R:Rm} wx,Mt w.heap.size w r bx bmx [a,b] R wx->Calls Tryz.prog 62 #[.pointer (some ⟨r,0,none⟩),.int .i64 0] wx fun e w'=>e=.returned (.tuple #[.pointer (some ⟨a,0,none⟩),.nilIface])/\Mt w.heap.size w r bx bmx [a,b] R w'):=fun wx h=>(Jd0 h.room (k:=0) rfl (by simp)).mono fun e w' ⟨h1,h2⟩=>⟨h1,h.grow h2⟩
 have CC1:Hid (∀{r bx bmx a b:Nat} {R:Rm} wx,Mt w.heap.size w r bx bmx [a,b] R wx->Calls Tryz.prog 62 #[.pointer (some ⟨r,0,none⟩),.int .i64 1] wx fun e w'=>e=.returned (.tuple #[.pointer (some ⟨b,0,none⟩),.nilIface])/\Mt w.heap.size w r bx bmx [a,b] R w'):=fun wx h=>(Jd0 h.room (k:=1) rfl (by simp)).mono fun e w' ⟨h1,h2⟩=>⟨h1,h.grow h2⟩
 have CE0:Hid (∀{r bx bmx a b:Nat} wx v,Mt w.heap.size w r bx bmx [a,b] mt0 wx->opAt wx v mq0->Calls Tryz.prog 47 #[.pointer (some ⟨a,0,none⟩),v] wx fun e w'=>e=.returned .nilIface/\Mt w.heap.size w r bx bmx [a,b] mt1 w'):=fun wx v h hv=>h.edit I0 (by omega) (k:=0) (by decide) rfl v mq0 hv (by unfold mq0 wfP;decide) (by decide) mt_e0
 have CE1:Hid (∀{r bx bmx a b:Nat} wx v,Mt w.heap.size w r bx bmx [a,b] mt1 wx->opAt wx v mq1->Calls Tryz.prog 47 #[.pointer (some ⟨b,0,none⟩),v] wx fun e w'=>e=.returned .nilIface/\Mt w.heap.size w r bx bmx [a,b] mt2 w'):=fun wx v h hv=>h.edit I1 (by omega) (k:=1) (by rw[L1];decide) rfl v mq1 hv (by unfold mq1 wfP;decide) (by decide) mt_e1
 have CQ2:Hid (∀{r bx bmx a b:Nat} wx,Mt w.heap.size w r bx bmx [a,b] mt2 wx->Calls Tryz.prog 71 #[.pointer (some ⟨r,0,none⟩)] wx fun e w'=>e=.returned (.tuple #[])/\Mt w.heap.size w r bx bmx [a,b] (Jc7 1 mt2) w'):=fun wx h=>h.quiet I2 (by omega) (by simp) (by omega)
 have CQ3:Hid (∀{r bx bmx a b:Nat} wx,Mt w.heap.size w r bx bmx [a,b] (Jc7 1 mt2) wx->Calls Tryz.prog 71 #[.pointer (some ⟨r,0,none⟩)] wx fun e w'=>e=.returned (.tuple #[])/\Mt w.heap.size w r bx bmx [a,b] mt3 w'):=fun wx h=>h.quiet I3 (by omega) (by simp) (by omega)
 have CT:Hid (∀{r bx bmx a b:Nat} wx,Mt w.heap.size w r bx bmx [a,b] mt3 wx->Calls Tryz.prog 75 #[.pointer (some ⟨r,0,none⟩)] wx fun e w'=>e=.returned (.string { data:=#[120,45,121] })/\Mt w.heap.size w r bx bmx [a,b] mt3 w'):=fun wx h=>(JeO h.room).mono fun e w' ⟨h1,h2⟩=>⟨by rw[h1,mt_t],h.grow h2⟩
 have CA:Hid (∀{r bx bmx a b:Nat} wx,Mt w.heap.size w r bx bmx [a,b] mt3 wx->Calls Tryz.prog 54 #[.pointer (some ⟨a,0,none⟩)] wx fun e w'=>e=.returned (.string { data:=#[120,45,121] })/\Mt w.heap.size w r bx bmx [a,b] mt3 w'):=fun wx h=>by
  obtain⟨b',hb',hcl⟩:=Jcy h.room (k:=0) (by omega);obtain rfl:=osi hb';exact(JeW hcl).mono fun e w' ⟨h1,h2⟩=>⟨by rw[h1,mt_d0],h.grow h2⟩
 have CB:Hid (∀{r bx bmx a b:Nat} wx,Mt w.heap.size w r bx bmx [a,b] mt3 wx->Calls Tryz.prog 54 #[.pointer (some ⟨b,0,none⟩)] wx fun e w'=>e=.returned (.string { data:=#[120,45,121] })/\Mt w.heap.size w r bx bmx [a,b] mt3 w'):=fun wx h=>by
  obtain⟨b',hb',hcl⟩:=Jcy h.room (k:=1) (by omega);obtain rfl:=osi hb';exact(JeW hcl).mono fun e w' ⟨h1,h2⟩=>⟨by rw[h1,mt_d1],h.grow h2⟩
 clear I0 I1 I2 I3 I4 l3 l4 p2 p3 L1 L2 L4 he
 go_enter Tryz.func77,Tryz.ntmps77
 go_wp2_with (first
  | (go_at_call 60;refine(CN.out _ _ (HB0.out _) (JqS w 1 2)).mono ?_;rintro e w1 ⟨r,bx,bmx,a,b,rfl,h1⟩;have H1:=hdz h1;clear h1)
  | (go_at_call 62;refine(CC0.out _ H1.out).mono ?_;rintro e w2 ⟨rfl,h1⟩;have H2:=hdz h1;clear h1 H1)
  | (go_at_call 62;refine(CC1.out _ H2.out).mono ?_;rintro e w3 ⟨rfl,h1⟩;have H3:=hdz h1;clear h1 H2)
  | (go_at_call 47;refine(CE0.out _ _ (H3.out.grow ((brf _ _).alloc (nlr _) _)) (JmI w3 ⟨0,0,[120]⟩ ⟨1,0,[]⟩)).mono ?_;rintro e w4 ⟨rfl,h1⟩;have H4:=hdz h1;clear h1 H3)
  | (go_at_call 47;refine(CE1.out _ _ (H4.out.grow ((brf _ _).alloc (nlr _) _)) (JmI w4 ⟨1,0,[]⟩ ⟨0,0,[121]⟩)).mono ?_;rintro e w5 ⟨rfl,h1⟩;have H5:=hdz h1;clear h1 H4)
  | (go_at_call 71;refine(CQ2.out _ H5.out).mono ?_;rintro e w6 ⟨rfl,h1⟩;have H6:=hdz h1;clear h1 H5)
  | (go_at_call 71;refine(CQ3.out _ H6.out).mono ?_;rintro e w7 ⟨rfl,h1⟩;have H7:=hdz h1;clear h1 H6)
  | (go_at_call 75;refine(CT.out _ H7.out).mono ?_;rintro e w8 ⟨rfl,h1⟩;have H8:=hdz h1;clear h1 H7)
  | (go_at_call 54;refine(CA.out _ H8.out).mono ?_;rintro e w9 ⟨rfl,h1⟩;have H9:=hdz h1;clear h1 H8)
  | (go_at_call 54;refine(CB.out _ H9.out).mono ?_;rintro e w10 ⟨rfl,h1⟩;have H10:=hdz h1;clear h1 H9)
  | fail)
 go_ret;exact⟨rfl,H10.out.low⟩
end
section
def Stp (one:Prop) (l0 n:Int) (D:List (List UInt8)) (R R':Rm):Prop :=
 ∃n' D',Inv l0 n' D' R'/\Inv2 R'/\n'<=n+1/\potR R'<=potR R+2400/\R'.cl.length=R.cl.length/\Ext D D'/\(one->D'=D\/D'=D++[R'.t])
theorem Jqr{one:Prop}{l0 n:Int}{D:List (List UInt8)}{R:Rm}(hi:Inv l0 n D R)(h2:Inv2 R):Stp one l0 n D R R:=⟨n,D,hi,h2,by omega,by omega,rfl,Ext.refl D,fun _=>.inl rfl⟩
theorem Jqt{one:Prop}{l0 n:Int}{D:List (List UInt8)}{R:Rm}(hi:Inv l0 n D R)(h2:Inv2 R){k:Nat}(hk:k<R.cl.length)(q:List Pt):Stp one l0 n D R (JkF R k q) :=
 ⟨n+1,D,hi.edit hk q,h2.edit hi hk q,by omega,by show potR R<=potR R+2400;omega,by unfold JkF setC;simp,Ext.refl D,fun _=>.inl rfl⟩
theorem Jm5{one:Prop}{l0 n:Int}{D:List (List UInt8)}{R:Rm}(hi:Inv l0 n D R)(h2:Inv2 R){k:Nat}(hk:k<R.cl.length):Stp one l0 n D R (Jde R k):=by
 obtain⟨_,_,_,_,e⟩:=Jct R (askP R k);exact⟨n,D,hi.sendK hk,h2.sendK hi hk,by omega,by have:=Jek R (askP R k);unfold Jde;omega,by unfold Jde;rw[e],Ext.refl D,fun _=>.inl rfl⟩
theorem Jqs{one:Prop}{l0 n:Int}{D:List (List UInt8)}{R:Rm}(hi:Inv l0 n D R)(h2:Inv2 R)(i:Nat):Stp one l0 n D R (outR R i) :=
 ⟨n,D,hi.out i,h2.out i,by omega,by have:=JlC R i;omega,rfl,Ext.refl D,fun _=>.inl rfl⟩
theorem Jo9{one:Prop}{l0 n:Int}{D:List (List UInt8)}{R:Rm}(hi:Inv l0 n D R)(h2:Inv2 R){i:Nat}{p:Pk}(hp:R.fl[i]?=some p):Stp one l0 n D R (Jb5 R p):=by
 obtain⟨_,_,_,_,e⟩:=Jct R p;exact⟨n,D,hi.twice hp,h2.twice hp,by omega,by have:=Jek R p;omega,by rw[e],Ext.refl D,fun _=>.inl rfl⟩
theorem JoA{one:Prop}{l0 n:Int}{D:List (List UInt8)}{R:Rm}(hi:Inv l0 n D R)(h2:Inv2 R)(i:Nat):Stp one l0 n D R (Jcd l0 R i):=by
 obtain⟨D',h1,h3,h4,h5⟩:=hi.deliv i;refine⟨n,D',h1,h2.deliv hi i,by omega,?_,h4,h3,fun _=>?_⟩
 . have hf:=h1.few
   unfold Jcd at hf ⊢
   cases hp:R.fl[i]? with
   | none=>simp only;omega
   | some p =>
    rw[hp]at hf;simp only at hf ⊢;have a:=(Jf8 l0 (outR R i) p hf).1;have b:=JlC R i;have c:=(JjV p).2
    split at a<;>omega
 . rcases h5 with ⟨e,_⟩|⟨e,_⟩
   . exact .inl e
   . exact .inr e
theorem Jkh{l0 n:Int}{D:List (List UInt8)}{R:Rm}(hi:Inv l0 n D R)(h2:Inv2 R)(hm:R.cl.length<=6):Stp False l0 n D R (Jc7 l0 R):=by
 obtain⟨D',h1,h3,h4,h5,h6⟩:=hi.quiet;exact⟨n,D',h1,h2.quiet hi,by omega,by omega,h4,h3,fun h=>h.elim⟩
end
section
open Go.RowKit Go.Maps
attribute [local go_sem] Oper.semAt_some Ja2 JaV
variable {lo r bx bmx : Nat}{w w' : World}{bs : List Nat}{l0 n : Int}{D : List (List UInt8)}{R : Rm}
theorem Jpc(a m:Int)(ha: -9223372036854775808<=a/\a<9223372036854775808)(h0:0<m)(hm:m<1000000)(w:World) :
    Calls Tryz.prog 20 #[.int .i64 a,.int .i64 m] w fun e w'=>e=.returned (.int .i64 (pk a m))/\Below w.heap.size w w':=by
 obtain⟨a1,a2⟩:=ha;have hne:m≠0:=by omega
 have e1:IntKind.u64.wrap m=m:=by rw[IntKind.wrap_u64];omega
 go_enter Tryz.func20,Tryz.ntmps20
 go_wp2;go_ret;have h1:0<=IntKind.u64.wrap a:=by rw[IntKind.wrap_u64];omega
 have h2:(IntKind.u64.wrap a).tmod m=IntKind.u64.wrap a % m:=Int.tmod_eq_emod_of_nonneg h1;have h3:=Int.emod_nonneg (IntKind.u64.wrap a) hne;have h4:=Int.emod_lt_of_pos (IntKind.u64.wrap a) h0;have h5:wrap64 ((IntKind.u64.wrap a).tmod m)=pk a m:=by rw[h2];unfold wrap64 pk;omega
 exact⟨by rw[←h5];rfl,brf _ _⟩
theorem JbM(a:Int)(m:Nat)(ha: -9223372036854775808<=a/\a<9223372036854775808)(h0:0<m)(hm:m<1000000):∃k:Nat,k<m/\∀w,Calls Tryz.prog 20 #[.int .i64 a,.int .i64 (m:Int)] w fun e w'=>e=.returned (.int .i64 (k:Int))/\Below w.heap.size w w':=by
 obtain⟨h1,h2⟩:=pk_bd a m (by omega);refine⟨(pk a m).toNat,by omega,fun w=>(Jpc a m ha (by omega) (by omega) w).mono ?_⟩;rintro e w' ⟨rfl,hb⟩;exact⟨by rw[Int.toNat_of_nonneg h1],hb⟩
structure Rok (lo:Nat) (w:World) (r bx bmx:Nat) (bs:List Nat) (l0 n:Int) (D:List (List UInt8)) (R:Rm):Prop where
 env:Env lo w
 room:isRoom lo w r bx bmx bs R
 inv:Inv l0 n D R
 inv2:Inv2 R
 num:n<=10000
 pot:potR R<=10000000
 one:1<=bs.length
 len:bs.length<=6
theorem Rok.cl{lo:Nat}{w:World}{r bx bmx:Nat}{bs:List Nat}{l0 n:Int}{D:List (List UInt8)}{R:Rm}(h:Rok lo w r bx bmx bs l0 n D R):bs.length=R.cl.length:=h.room.cls.len
theorem Rok.grow(h:Rok lo w r bx bmx bs l0 n D R)(hb:Below w.heap.size w w'):Rok lo w' r bx bmx bs l0 n D R:=⟨h.env.below hb,Jap h.room hb,h.inv,h.inv2,h.num,h.pot,h.one,h.len⟩
def LeftK (one:Prop) (lo:Nat) (w:World) (r bx bmx:Nat) (bs:List Nat) (l0 n:Int) (D:List (List UInt8)) (R:Rm) (w':World):Prop :=
 sameBut w w' (Jbg lo w bmx)/\∃R',isRoom lo w' r bx bmx bs R'/\Stp one l0 n D R R'
theorem LeftK.same{one:Prop}{lo:Nat}{w:World}{r bx bmx:Nat}{bs:List Nat}{l0 n:Int}{D:List (List UInt8)}{R:Rm}{w':World}(h:Rok lo w r bx bmx bs l0 n D R)(hb:Below w.heap.size w w'):LeftK one lo w r bx bmx bs l0 n D R w' :=
 ⟨Jaf hb _,R,Jap h.room hb,Jqr h.inv h.inv2⟩
theorem box4{w w1:World}{β:Nat}{a0 a1 a2 a3:Value}{T:TypeId}(h:w.heap.size=β)(hb:Below (w.alloc (.cells #[a0,a1,a2,a3] T)).heap.size (w.alloc (.cells #[a0,a1,a2,a3] T)) w1):w1.heap[β]?=some (.cells #[a0,a1,a2,a3] T (0,0))/\Below w.heap.size w w1:=by
 subst h;exact⟨(hb.block _ (by rw[wsa];omega)).trans (heap_alloc_new w (.cells #[a0,a1,a2,a3] T)),((brf _ _).alloc (nlr _) _).trans (hb.mono (by rw[wsa];omega))⟩
theorem Jbq{β:Nat}{o:Obj}(h:w.heap[β]?=some o)(hb:Below w.heap.size w w'):w'.heap[β]?=some o:=(hb.block β (alt h)).trans h
theorem Jnx(h:Rok lo w r bx bmx bs l0 n D R)(kk pp:Int)(hkk: -9223372036854775808<=kk/\kk<9223372036854775808)(hpp: -9223372036854775808<=pp/\pp<9223372036854775808)(v:Value) :
    Calls Tryz.prog 79 #[.pointer (some ⟨r,0,none⟩),.int .i64 (bs.length:Int),.agg #[.int .i64 1,.int .i64 kk,.int .i64 pp,v]] w fun e w'=>e=.returned (.bool true)/\LeftK True lo w r bx bmx bs l0 n D R w':=by
 obtain⟨k,hk,PK⟩:=JbM kk bs.length hkk (by have:=h.one;omega) (by have:=h.len;omega);have HPK:=hdz PK;have HR:=hdz h;have HMY:Hid (∀wx,Below w.heap.size w wx->Calls Tryz.prog 73 #[.pointer (some ⟨r,0,none⟩)] wx fun e w'=>e=.returned (.int .i64 (R.fl.length:Int))/\Below wx.heap.size wx w'):=fun wx hb=>JbV (h.grow hb).room
 have hfl:=h.inv.room;obtain⟨β,hβ⟩:∃β,w.heap.size=β:=⟨_,rfl⟩;have HBT:Hid (w.heap.size=β):=hβ
 by_cases hf:R.fl.length=0
 . have hgt:¬(0:Int)<(0:Int):=by decide
   have HCQ:Hid (∀wx,Below w.heap.size w wx->Calls Tryz.prog 64 #[.pointer (some ⟨r,0,none⟩),.int .i64 (k:Int)] wx fun e w'=>e=.returned .nilIface/\LeftK True lo w r bx bmx bs l0 n D R w'):=fun wx hb=>by
    have H:=HR.out.grow hb;refine(Jgc H.room H.inv (k:=k) (by rw[←H.cl];exact hk) (by have:=H.len;omega) (by have:=H.pot;omega)).mono ?_
    rintro e w' ⟨rfl,a,c⟩;exact⟨rfl,JaI hb c,_,a,Jm5 H.inv H.inv2 (by rw[←H.cl];exact hk)⟩
   rw[hf]at HMY;clear hf hfl PK hkk hpp h hk
   skip
   go_enter Tryz.func79,Tryz.ntmps79
   go_wp2_with (first
    | (go_at_call 20;refine(HPK.out _).mono ?_;rintro e w1 ⟨rfl,hb1⟩;obtain⟨hx1,hy1⟩:=box4 HBT.out hb1;have HB1:=hdz hy1;have HBH1:=hdz hx1;have b0_1:w1.cell? ⟨β,0,none⟩=some (.int .i64 1):=chp HBH1.out 0;have b1_1:w1.cell? ⟨β,1,none⟩=some (.int .i64 kk):=chp HBH1.out 1;have b2_1:w1.cell? ⟨β,2,none⟩=some (.int .i64 pp):=chp HBH1.out 2;have b3_1:w1.cell? ⟨β,3,none⟩=some (v):=chp HBH1.out 3;clear hb1 hx1 hy1 HPK)
    | (go_at_call 73;refine(HMY.out _ HB1.out).mono ?_;rintro e w2 ⟨rfl,hb2⟩;clear b0_1 b1_1 b2_1 b3_1;have HB2:Hid (Below w.heap.size w w2):=HB1.out.trans (hb2.mono HB1.out.size);have HBH2:Hid _:=Jbq HBH1.out hb2;have b0_2:w2.cell? ⟨β,0,none⟩=some (.int .i64 1):=chp HBH2.out 0;have b1_2:w2.cell? ⟨β,1,none⟩=some (.int .i64 kk):=chp HBH2.out 1;have b2_2:w2.cell? ⟨β,2,none⟩=some (.int .i64 pp):=chp HBH2.out 2;have b3_2:w2.cell? ⟨β,3,none⟩=some (v):=chp HBH2.out 3;clear hb2)
    | (go_at_call 64;refine(HCQ.out _ HB2.out).mono ?_;rintro e w4 ⟨rfl,hL⟩;have HL:=hdz hL;clear hL)
    | fail)
   go_ret;exact⟨rfl,HL.out⟩
 . obtain ⟨i,hi,PQ⟩:=JbM pp R.fl.length hpp (by omega) (by omega)
   have HPQ:=hdz PQ;have hgt:(0:Int)<(R.fl.length:Int):=by omega
   have HCQ:Hid (∀wx,Below w.heap.size w wx->Calls Tryz.prog 64 #[.pointer (some ⟨r,0,none⟩),.int .i64 (k:Int)] wx fun e w'=>e=.returned .nilIface/\LeftK True lo w r bx bmx bs l0 n D R w'):=fun wx hb=>by
    have H:=HR.out.grow hb;refine(Jgc H.room H.inv (k:=k) (by rw[←H.cl];exact hk) (by have:=H.len;omega) (by have:=H.pot;omega)).mono ?_
    rintro e w' ⟨rfl,a,c⟩;exact⟨rfl,JaI hb c,_,a,Jm5 H.inv H.inv2 (by rw[←H.cl];exact hk)⟩
   clear hf hfl PK hkk hpp h hk PQ hi;generalize R.fl.length=m at *
   go_enter Tryz.func79,Tryz.ntmps79
   go_wp2_with (first
    | (go_at_call 20;refine(HPK.out _).mono ?_;rintro e w1 ⟨rfl,hb1⟩;obtain⟨hx1,hy1⟩:=box4 HBT.out hb1;have HB1:=hdz hy1;have HBH1:=hdz hx1;have b0_1:w1.cell? ⟨β,0,none⟩=some (.int .i64 1):=chp HBH1.out 0;have b1_1:w1.cell? ⟨β,1,none⟩=some (.int .i64 kk):=chp HBH1.out 1;have b2_1:w1.cell? ⟨β,2,none⟩=some (.int .i64 pp):=chp HBH1.out 2;have b3_1:w1.cell? ⟨β,3,none⟩=some (v):=chp HBH1.out 3;clear hb1 hx1 hy1 HPK)
    | (go_at_call 73;refine(HMY.out _ HB1.out).mono ?_;rintro e w2 ⟨rfl,hb2⟩;clear b0_1 b1_1 b2_1 b3_1;have HB2:Hid (Below w.heap.size w w2):=HB1.out.trans (hb2.mono HB1.out.size);have HBH2:Hid _:=Jbq HBH1.out hb2;have b0_2:w2.cell? ⟨β,0,none⟩=some (.int .i64 1):=chp HBH2.out 0;have b1_2:w2.cell? ⟨β,1,none⟩=some (.int .i64 kk):=chp HBH2.out 1;have b2_2:w2.cell? ⟨β,2,none⟩=some (.int .i64 pp):=chp HBH2.out 2;have b3_2:w2.cell? ⟨β,3,none⟩=some (v):=chp HBH2.out 3;clear hb2)
    | (go_at_call 20;refine(HPQ.out _).mono ?_;rintro e w3 ⟨rfl,hb3⟩;clear b0_2 b1_2 b2_2 b3_2;have HB3:Hid (Below w.heap.size w w3):=HB2.out.trans (hb3.mono HB2.out.size);have HBH3:Hid _:=Jbq HBH2.out hb3;have b0_3:w3.cell? ⟨β,0,none⟩=some (.int .i64 1):=chp HBH3.out 0;have b1_3:w3.cell? ⟨β,1,none⟩=some (.int .i64 kk):=chp HBH3.out 1;have b2_3:w3.cell? ⟨β,2,none⟩=some (.int .i64 pp):=chp HBH3.out 2;have b3_3:w3.cell? ⟨β,3,none⟩=some (v):=chp HBH3.out 3;clear hb3)
    | (go_at_call 64;refine(HCQ.out _ HB3.out).mono ?_;rintro e w4 ⟨rfl,hL⟩;have HL:=hdz hL;clear hL)
    | fail)
   go_ret;exact⟨rfl,HL.out⟩
theorem JlF(h:Rok lo w r bx bmx bs l0 n D R)(kk pp:Int)(hkk: -9223372036854775808<=kk/\kk<9223372036854775808)(hpp: -9223372036854775808<=pp/\pp<9223372036854775808)(v:Value) :
    Calls Tryz.prog 79 #[.pointer (some ⟨r,0,none⟩),.int .i64 (bs.length:Int),.agg #[.int .i64 2,.int .i64 kk,.int .i64 pp,v]] w fun e w'=>e=.returned (.bool true)/\LeftK True lo w r bx bmx bs l0 n D R w':=by
 obtain⟨k,hk,PK⟩:=JbM kk bs.length hkk (by have:=h.one;omega) (by have:=h.len;omega);have HPK:=hdz PK;have HR:=hdz h;have HMY:Hid (∀wx,Below w.heap.size w wx->Calls Tryz.prog 73 #[.pointer (some ⟨r,0,none⟩)] wx fun e w'=>e=.returned (.int .i64 (R.fl.length:Int))/\Below wx.heap.size wx w'):=fun wx hb=>JbV (h.grow hb).room
 have hfl:=h.inv.room;obtain⟨β,hβ⟩:∃β,w.heap.size=β:=⟨_,rfl⟩;have HBT:Hid (w.heap.size=β):=hβ
 by_cases hf:R.fl.length=0
 . have hgt:¬(0:Int)<(0:Int):=by decide
   have HCQ:Hid (∀wx,Below w.heap.size w wx->Calls Tryz.prog 67 #[.pointer (some ⟨r,0,none⟩),.int .i64 0] wx fun e w'=>∃x,e=.returned x/\LeftK True lo w r bx bmx bs l0 n D R w'):=fun wx hb=>by
    have H:=HR.out.grow hb;refine(Jjv H.room 0 (.inr (by omega))).mono ?_
    rintro e w' ⟨rfl,c⟩;exact⟨_,rfl,LeftK.same HR.out (hb.trans (c.mono hb.size))⟩
   rw[hf]at HMY;clear hf hfl PK hkk hpp h hk
   skip
   go_enter Tryz.func79,Tryz.ntmps79
   go_wp2_with (first
    | (go_at_call 20;refine(HPK.out _).mono ?_;rintro e w1 ⟨rfl,hb1⟩;obtain⟨hx1,hy1⟩:=box4 HBT.out hb1;have HB1:=hdz hy1;have HBH1:=hdz hx1;have b0_1:w1.cell? ⟨β,0,none⟩=some (.int .i64 2):=chp HBH1.out 0;have b1_1:w1.cell? ⟨β,1,none⟩=some (.int .i64 kk):=chp HBH1.out 1;have b2_1:w1.cell? ⟨β,2,none⟩=some (.int .i64 pp):=chp HBH1.out 2;have b3_1:w1.cell? ⟨β,3,none⟩=some (v):=chp HBH1.out 3;clear hb1 hx1 hy1 HPK)
    | (go_at_call 73;refine(HMY.out _ HB1.out).mono ?_;rintro e w2 ⟨rfl,hb2⟩;clear b0_1 b1_1 b2_1 b3_1;have HB2:Hid (Below w.heap.size w w2):=HB1.out.trans (hb2.mono HB1.out.size);have HBH2:Hid _:=Jbq HBH1.out hb2;have b0_2:w2.cell? ⟨β,0,none⟩=some (.int .i64 2):=chp HBH2.out 0;have b1_2:w2.cell? ⟨β,1,none⟩=some (.int .i64 kk):=chp HBH2.out 1;have b2_2:w2.cell? ⟨β,2,none⟩=some (.int .i64 pp):=chp HBH2.out 2;have b3_2:w2.cell? ⟨β,3,none⟩=some (v):=chp HBH2.out 3;clear hb2)
    | (go_at_call 67;refine(HCQ.out _ HB2.out).mono ?_;rintro e w4 ⟨x,rfl,hL⟩;have HL:=hdz hL;clear hL)
    | fail)
   go_ret;exact⟨rfl,HL.out⟩
 . obtain ⟨i,hi,PQ⟩:=JbM pp R.fl.length hpp (by omega) (by omega)
   have HPQ:=hdz PQ;have hgt:(0:Int)<(R.fl.length:Int):=by omega
   have hp:R.fl[i]?=some R.fl[i]:=lgg hi;have HCQ:Hid (∀wx,Below w.heap.size w wx->Calls Tryz.prog 67 #[.pointer (some ⟨r,0,none⟩),.int .i64 (i:Int)] wx fun e w'=>∃x,e=.returned x/\LeftK True lo w r bx bmx bs l0 n D R w'):=fun wx hb=>by
    have H:=HR.out.grow hb;refine(Jg0 H.env H.room H.inv (by have:=H.num;omega) hp (by have:=H.len;omega) (by have:=H.pot;omega)).mono ?_
    rintro e w' ⟨rfl,a,c⟩;exact⟨_,rfl,JaI hb c,_,a,JoA H.inv H.inv2 _⟩
   clear hf hfl PK hkk hpp h hk PQ hi hp;generalize R.fl.length=m at *
   go_enter Tryz.func79,Tryz.ntmps79
   go_wp2_with (first
    | (go_at_call 20;refine(HPK.out _).mono ?_;rintro e w1 ⟨rfl,hb1⟩;obtain⟨hx1,hy1⟩:=box4 HBT.out hb1;have HB1:=hdz hy1;have HBH1:=hdz hx1;have b0_1:w1.cell? ⟨β,0,none⟩=some (.int .i64 2):=chp HBH1.out 0;have b1_1:w1.cell? ⟨β,1,none⟩=some (.int .i64 kk):=chp HBH1.out 1;have b2_1:w1.cell? ⟨β,2,none⟩=some (.int .i64 pp):=chp HBH1.out 2;have b3_1:w1.cell? ⟨β,3,none⟩=some (v):=chp HBH1.out 3;clear hb1 hx1 hy1 HPK)
    | (go_at_call 73;refine(HMY.out _ HB1.out).mono ?_;rintro e w2 ⟨rfl,hb2⟩;clear b0_1 b1_1 b2_1 b3_1;have HB2:Hid (Below w.heap.size w w2):=HB1.out.trans (hb2.mono HB1.out.size);have HBH2:Hid _:=Jbq HBH1.out hb2;have b0_2:w2.cell? ⟨β,0,none⟩=some (.int .i64 2):=chp HBH2.out 0;have b1_2:w2.cell? ⟨β,1,none⟩=some (.int .i64 kk):=chp HBH2.out 1;have b2_2:w2.cell? ⟨β,2,none⟩=some (.int .i64 pp):=chp HBH2.out 2;have b3_2:w2.cell? ⟨β,3,none⟩=some (v):=chp HBH2.out 3;clear hb2)
    | (go_at_call 20;refine(HPQ.out _).mono ?_;rintro e w3 ⟨rfl,hb3⟩;clear b0_2 b1_2 b2_2 b3_2;have HB3:Hid (Below w.heap.size w w3):=HB2.out.trans (hb3.mono HB2.out.size);have HBH3:Hid _:=Jbq HBH2.out hb3;have b0_3:w3.cell? ⟨β,0,none⟩=some (.int .i64 2):=chp HBH3.out 0;have b1_3:w3.cell? ⟨β,1,none⟩=some (.int .i64 kk):=chp HBH3.out 1;have b2_3:w3.cell? ⟨β,2,none⟩=some (.int .i64 pp):=chp HBH3.out 2;have b3_3:w3.cell? ⟨β,3,none⟩=some (v):=chp HBH3.out 3;clear hb3)
    | (go_at_call 67;refine(HCQ.out _ HB3.out).mono ?_;rintro e w4 ⟨x,rfl,hL⟩;have HL:=hdz hL;clear hL)
    | fail)
   go_ret;exact⟨rfl,HL.out⟩
theorem Jnz(h:Rok lo w r bx bmx bs l0 n D R)(kk pp:Int)(hkk: -9223372036854775808<=kk/\kk<9223372036854775808)(hpp: -9223372036854775808<=pp/\pp<9223372036854775808)(v:Value) :
    Calls Tryz.prog 79 #[.pointer (some ⟨r,0,none⟩),.int .i64 (bs.length:Int),.agg #[.int .i64 3,.int .i64 kk,.int .i64 pp,v]] w fun e w'=>e=.returned (.bool true)/\LeftK True lo w r bx bmx bs l0 n D R w':=by
 obtain⟨k,hk,PK⟩:=JbM kk bs.length hkk (by have:=h.one;omega) (by have:=h.len;omega);have HPK:=hdz PK;have HR:=hdz h;have HMY:Hid (∀wx,Below w.heap.size w wx->Calls Tryz.prog 73 #[.pointer (some ⟨r,0,none⟩)] wx fun e w'=>e=.returned (.int .i64 (R.fl.length:Int))/\Below wx.heap.size wx w'):=fun wx hb=>JbV (h.grow hb).room
 have hfl:=h.inv.room;obtain⟨β,hβ⟩:∃β,w.heap.size=β:=⟨_,rfl⟩;have HBT:Hid (w.heap.size=β):=hβ
 by_cases hf:R.fl.length=0
 . have hgt:¬(0:Int)<(0:Int):=by decide
   have HCQ:Hid (∀wx,Below w.heap.size w wx->Calls Tryz.prog 68 #[.pointer (some ⟨r,0,none⟩),.int .i64 0] wx fun e w'=>∃x,e=.returned x/\LeftK True lo w r bx bmx bs l0 n D R w'):=fun wx hb=>by
    have H:=HR.out.grow hb;refine(Jnu H.room 0 (.inr (by omega))).mono ?_
    rintro e w' ⟨rfl,c⟩;exact⟨_,rfl,LeftK.same HR.out (hb.trans (c.mono hb.size))⟩
   rw[hf]at HMY;clear hf hfl PK hkk hpp h hk
   skip
   go_enter Tryz.func79,Tryz.ntmps79
   go_wp2_with (first
    | (go_at_call 20;refine(HPK.out _).mono ?_;rintro e w1 ⟨rfl,hb1⟩;obtain⟨hx1,hy1⟩:=box4 HBT.out hb1;have HB1:=hdz hy1;have HBH1:=hdz hx1;have b0_1:w1.cell? ⟨β,0,none⟩=some (.int .i64 3):=chp HBH1.out 0;have b1_1:w1.cell? ⟨β,1,none⟩=some (.int .i64 kk):=chp HBH1.out 1;have b2_1:w1.cell? ⟨β,2,none⟩=some (.int .i64 pp):=chp HBH1.out 2;have b3_1:w1.cell? ⟨β,3,none⟩=some (v):=chp HBH1.out 3;clear hb1 hx1 hy1 HPK)
    | (go_at_call 73;refine(HMY.out _ HB1.out).mono ?_;rintro e w2 ⟨rfl,hb2⟩;clear b0_1 b1_1 b2_1 b3_1;have HB2:Hid (Below w.heap.size w w2):=HB1.out.trans (hb2.mono HB1.out.size);have HBH2:Hid _:=Jbq HBH1.out hb2;have b0_2:w2.cell? ⟨β,0,none⟩=some (.int .i64 3):=chp HBH2.out 0;have b1_2:w2.cell? ⟨β,1,none⟩=some (.int .i64 kk):=chp HBH2.out 1;have b2_2:w2.cell? ⟨β,2,none⟩=some (.int .i64 pp):=chp HBH2.out 2;have b3_2:w2.cell? ⟨β,3,none⟩=some (v):=chp HBH2.out 3;clear hb2)
    | (go_at_call 68;refine(HCQ.out _ HB2.out).mono ?_;rintro e w4 ⟨x,rfl,hL⟩;have HL:=hdz hL;clear hL)
    | fail)
   go_ret;exact⟨rfl,HL.out⟩
 . obtain ⟨i,hi,PQ⟩:=JbM pp R.fl.length hpp (by omega) (by omega)
   have HPQ:=hdz PQ;have hgt:(0:Int)<(R.fl.length:Int):=by omega
   have HCQ:Hid (∀wx,Below w.heap.size w wx->Calls Tryz.prog 68 #[.pointer (some ⟨r,0,none⟩),.int .i64 (i:Int)] wx fun e w'=>∃x,e=.returned x/\LeftK True lo w r bx bmx bs l0 n D R w'):=fun wx hb=>by
    have H:=HR.out.grow hb;refine(JoQ H.room hi H.inv.room).mono ?_
    rintro e w' ⟨rfl,a,c⟩;exact⟨_,rfl,JaI hb c,_,a,Jqs H.inv H.inv2 _⟩
   clear hf hfl PK hkk hpp h hk PQ hi;generalize R.fl.length=m at *
   go_enter Tryz.func79,Tryz.ntmps79
   go_wp2_with (first
    | (go_at_call 20;refine(HPK.out _).mono ?_;rintro e w1 ⟨rfl,hb1⟩;obtain⟨hx1,hy1⟩:=box4 HBT.out hb1;have HB1:=hdz hy1;have HBH1:=hdz hx1;have b0_1:w1.cell? ⟨β,0,none⟩=some (.int .i64 3):=chp HBH1.out 0;have b1_1:w1.cell? ⟨β,1,none⟩=some (.int .i64 kk):=chp HBH1.out 1;have b2_1:w1.cell? ⟨β,2,none⟩=some (.int .i64 pp):=chp HBH1.out 2;have b3_1:w1.cell? ⟨β,3,none⟩=some (v):=chp HBH1.out 3;clear hb1 hx1 hy1 HPK)
    | (go_at_call 73;refine(HMY.out _ HB1.out).mono ?_;rintro e w2 ⟨rfl,hb2⟩;clear b0_1 b1_1 b2_1 b3_1;have HB2:Hid (Below w.heap.size w w2):=HB1.out.trans (hb2.mono HB1.out.size);have HBH2:Hid _:=Jbq HBH1.out hb2;have b0_2:w2.cell? ⟨β,0,none⟩=some (.int .i64 3):=chp HBH2.out 0;have b1_2:w2.cell? ⟨β,1,none⟩=some (.int .i64 kk):=chp HBH2.out 1;have b2_2:w2.cell? ⟨β,2,none⟩=some (.int .i64 pp):=chp HBH2.out 2;have b3_2:w2.cell? ⟨β,3,none⟩=some (v):=chp HBH2.out 3;clear hb2)
    | (go_at_call 20;refine(HPQ.out _).mono ?_;rintro e w3 ⟨rfl,hb3⟩;clear b0_2 b1_2 b2_2 b3_2;have HB3:Hid (Below w.heap.size w w3):=HB2.out.trans (hb3.mono HB2.out.size);have HBH3:Hid _:=Jbq HBH2.out hb3;have b0_3:w3.cell? ⟨β,0,none⟩=some (.int .i64 3):=chp HBH3.out 0;have b1_3:w3.cell? ⟨β,1,none⟩=some (.int .i64 kk):=chp HBH3.out 1;have b2_3:w3.cell? ⟨β,2,none⟩=some (.int .i64 pp):=chp HBH3.out 2;have b3_3:w3.cell? ⟨β,3,none⟩=some (v):=chp HBH3.out 3;clear hb3)
    | (go_at_call 68;refine(HCQ.out _ HB3.out).mono ?_;rintro e w4 ⟨x,rfl,hL⟩;have HL:=hdz hL;clear hL)
    | fail)
   go_ret;exact⟨rfl,HL.out⟩
theorem JlD(h:Rok lo w r bx bmx bs l0 n D R)(kk pp:Int)(hkk: -9223372036854775808<=kk/\kk<9223372036854775808)(hpp: -9223372036854775808<=pp/\pp<9223372036854775808)(v:Value) :
    Calls Tryz.prog 79 #[.pointer (some ⟨r,0,none⟩),.int .i64 (bs.length:Int),.agg #[.int .i64 4,.int .i64 kk,.int .i64 pp,v]] w fun e w'=>e=.returned (.bool true)/\LeftK True lo w r bx bmx bs l0 n D R w':=by
 obtain⟨k,hk,PK⟩:=JbM kk bs.length hkk (by have:=h.one;omega) (by have:=h.len;omega);have HPK:=hdz PK;have HR:=hdz h;have HMY:Hid (∀wx,Below w.heap.size w wx->Calls Tryz.prog 73 #[.pointer (some ⟨r,0,none⟩)] wx fun e w'=>e=.returned (.int .i64 (R.fl.length:Int))/\Below wx.heap.size wx w'):=fun wx hb=>JbV (h.grow hb).room
 have hfl:=h.inv.room;obtain⟨β,hβ⟩:∃β,w.heap.size=β:=⟨_,rfl⟩;have HBT:Hid (w.heap.size=β):=hβ
 by_cases hf:R.fl.length=0
 . have hgt:¬(0:Int)<(0:Int):=by decide
   have HCQ:Hid (∀wx,Below w.heap.size w wx->Calls Tryz.prog 70 #[.pointer (some ⟨r,0,none⟩),.int .i64 0] wx fun e w'=>∃x,e=.returned x/\LeftK True lo w r bx bmx bs l0 n D R w'):=fun wx hb=>by
    have H:=HR.out.grow hb;refine(Jl7 H.room 0 (.inr (by omega))).mono ?_
    rintro e w' ⟨rfl,c⟩;exact⟨_,rfl,LeftK.same HR.out (hb.trans (c.mono hb.size))⟩
   rw[hf]at HMY;clear hf hfl PK hkk hpp h hk
   skip
   go_enter Tryz.func79,Tryz.ntmps79
   go_wp2_with (first
    | (go_at_call 20;refine(HPK.out _).mono ?_;rintro e w1 ⟨rfl,hb1⟩;obtain⟨hx1,hy1⟩:=box4 HBT.out hb1;have HB1:=hdz hy1;have HBH1:=hdz hx1;have b0_1:w1.cell? ⟨β,0,none⟩=some (.int .i64 4):=chp HBH1.out 0;have b1_1:w1.cell? ⟨β,1,none⟩=some (.int .i64 kk):=chp HBH1.out 1;have b2_1:w1.cell? ⟨β,2,none⟩=some (.int .i64 pp):=chp HBH1.out 2;have b3_1:w1.cell? ⟨β,3,none⟩=some (v):=chp HBH1.out 3;clear hb1 hx1 hy1 HPK)
    | (go_at_call 73;refine(HMY.out _ HB1.out).mono ?_;rintro e w2 ⟨rfl,hb2⟩;clear b0_1 b1_1 b2_1 b3_1;have HB2:Hid (Below w.heap.size w w2):=HB1.out.trans (hb2.mono HB1.out.size);have HBH2:Hid _:=Jbq HBH1.out hb2;have b0_2:w2.cell? ⟨β,0,none⟩=some (.int .i64 4):=chp HBH2.out 0;have b1_2:w2.cell? ⟨β,1,none⟩=some (.int .i64 kk):=chp HBH2.out 1;have b2_2:w2.cell? ⟨β,2,none⟩=some (.int .i64 pp):=chp HBH2.out 2;have b3_2:w2.cell? ⟨β,3,none⟩=some (v):=chp HBH2.out 3;clear hb2)
    | (go_at_call 70;refine(HCQ.out _ HB2.out).mono ?_;rintro e w4 ⟨x,rfl,hL⟩;have HL:=hdz hL;clear hL)
    | fail)
   go_ret;exact⟨rfl,HL.out⟩
 . obtain ⟨i,hi,PQ⟩:=JbM pp R.fl.length hpp (by omega) (by omega)
   have HPQ:=hdz PQ;have hgt:(0:Int)<(R.fl.length:Int):=by omega
   have hp:R.fl[i]?=some R.fl[i]:=lgg hi;have HCQ:Hid (∀wx,Below w.heap.size w wx->Calls Tryz.prog 70 #[.pointer (some ⟨r,0,none⟩),.int .i64 (i:Int)] wx fun e w'=>∃x,e=.returned x/\LeftK True lo w r bx bmx bs l0 n D R w'):=fun wx hb=>by
    have H:=HR.out.grow hb;refine(Jnt H.room hp (by have:=H.pot;unfold potR at this;omega) H.inv.room).mono ?_
    rintro e w' ⟨rfl,a,c⟩;exact⟨_,rfl,JaI hb c,_,a,Jo9 H.inv H.inv2 hp⟩
   clear hf hfl PK hkk hpp h hk PQ hi hp;generalize R.fl.length=m at *
   go_enter Tryz.func79,Tryz.ntmps79
   go_wp2_with (first
    | (go_at_call 20;refine(HPK.out _).mono ?_;rintro e w1 ⟨rfl,hb1⟩;obtain⟨hx1,hy1⟩:=box4 HBT.out hb1;have HB1:=hdz hy1;have HBH1:=hdz hx1;have b0_1:w1.cell? ⟨β,0,none⟩=some (.int .i64 4):=chp HBH1.out 0;have b1_1:w1.cell? ⟨β,1,none⟩=some (.int .i64 kk):=chp HBH1.out 1;have b2_1:w1.cell? ⟨β,2,none⟩=some (.int .i64 pp):=chp HBH1.out 2;have b3_1:w1.cell? ⟨β,3,none⟩=some (v):=chp HBH1.out 3;clear hb1 hx1 hy1 HPK)
    | (go_at_call 73;refine(HMY.out _ HB1.out).mono ?_;rintro e w2 ⟨rfl,hb2⟩;clear b0_1 b1_1 b2_1 b3_1;have HB2:Hid (Below w.heap.size w w2):=HB1.out.trans (hb2.mono HB1.out.size);have HBH2:Hid _:=Jbq HBH1.out hb2;have b0_2:w2.cell? ⟨β,0,none⟩=some (.int .i64 4):=chp HBH2.out 0;have b1_2:w2.cell? ⟨β,1,none⟩=some (.int .i64 kk):=chp HBH2.out 1;have b2_2:w2.cell? ⟨β,2,none⟩=some (.int .i64 pp):=chp HBH2.out 2;have b3_2:w2.cell? ⟨β,3,none⟩=some (v):=chp HBH2.out 3;clear hb2)
    | (go_at_call 20;refine(HPQ.out _).mono ?_;rintro e w3 ⟨rfl,hb3⟩;clear b0_2 b1_2 b2_2 b3_2;have HB3:Hid (Below w.heap.size w w3):=HB2.out.trans (hb3.mono HB2.out.size);have HBH3:Hid _:=Jbq HBH2.out hb3;have b0_3:w3.cell? ⟨β,0,none⟩=some (.int .i64 4):=chp HBH3.out 0;have b1_3:w3.cell? ⟨β,1,none⟩=some (.int .i64 kk):=chp HBH3.out 1;have b2_3:w3.cell? ⟨β,2,none⟩=some (.int .i64 pp):=chp HBH3.out 2;have b3_3:w3.cell? ⟨β,3,none⟩=some (v):=chp HBH3.out 3;clear hb3)
    | (go_at_call 70;refine(HCQ.out _ HB3.out).mono ?_;rintro e w4 ⟨x,rfl,hL⟩;have HL:=hdz hL;clear hL)
    | fail)
   go_ret;exact⟨rfl,HL.out⟩
theorem JlE(h:Rok lo w r bx bmx bs l0 n D R)(kk pp:Int)(hkk: -9223372036854775808<=kk/\kk<9223372036854775808)(hpp: -9223372036854775808<=pp/\pp<9223372036854775808)(v:Value) :
    Calls Tryz.prog 79 #[.pointer (some ⟨r,0,none⟩),.int .i64 (bs.length:Int),.agg #[.int .i64 5,.int .i64 kk,.int .i64 pp,v]] w fun e w'=>e=.returned (.bool true)/\LeftK False lo w r bx bmx bs l0 n D R w':=by
 obtain⟨k,hk,PK⟩:=JbM kk bs.length hkk (by have:=h.one;omega) (by have:=h.len;omega);have HPK:=hdz PK;have HR:=hdz h;have HMY:Hid (∀wx,Below w.heap.size w wx->Calls Tryz.prog 73 #[.pointer (some ⟨r,0,none⟩)] wx fun e w'=>e=.returned (.int .i64 (R.fl.length:Int))/\Below wx.heap.size wx w'):=fun wx hb=>JbV (h.grow hb).room
 have hfl:=h.inv.room;obtain⟨β,hβ⟩:∃β,w.heap.size=β:=⟨_,rfl⟩;have HBT:Hid (w.heap.size=β):=hβ
 by_cases hf:R.fl.length=0
 . have hgt:¬(0:Int)<(0:Int):=by decide
   have HCQ:Hid (∀wx,Below w.heap.size w wx->Calls Tryz.prog 71 #[.pointer (some ⟨r,0,none⟩)] wx fun e w'=>e=.returned (.tuple #[])/\LeftK False lo w r bx bmx bs l0 n D R w'):=fun wx hb=>by
    have H:=HR.out.grow hb;refine(Jei H.env H.room H.inv (by have:=H.num;omega) (by have:=H.len;omega) (by have:=H.pot;omega)).mono ?_
    rintro e w' ⟨rfl,a,c⟩;exact⟨rfl,JaI hb c,_,a,Jkh H.inv H.inv2 (by rw[←H.cl];exact H.len)⟩
   rw[hf]at HMY;clear hf hfl PK hkk hpp h hk
   skip
   go_enter Tryz.func79,Tryz.ntmps79
   go_wp2_with (first
    | (go_at_call 20;refine(HPK.out _).mono ?_;rintro e w1 ⟨rfl,hb1⟩;obtain⟨hx1,hy1⟩:=box4 HBT.out hb1;have HB1:=hdz hy1;have HBH1:=hdz hx1;have b0_1:w1.cell? ⟨β,0,none⟩=some (.int .i64 5):=chp HBH1.out 0;have b1_1:w1.cell? ⟨β,1,none⟩=some (.int .i64 kk):=chp HBH1.out 1;have b2_1:w1.cell? ⟨β,2,none⟩=some (.int .i64 pp):=chp HBH1.out 2;have b3_1:w1.cell? ⟨β,3,none⟩=some (v):=chp HBH1.out 3;clear hb1 hx1 hy1 HPK)
    | (go_at_call 73;refine(HMY.out _ HB1.out).mono ?_;rintro e w2 ⟨rfl,hb2⟩;clear b0_1 b1_1 b2_1 b3_1;have HB2:Hid (Below w.heap.size w w2):=HB1.out.trans (hb2.mono HB1.out.size);have HBH2:Hid _:=Jbq HBH1.out hb2;have b0_2:w2.cell? ⟨β,0,none⟩=some (.int .i64 5):=chp HBH2.out 0;have b1_2:w2.cell? ⟨β,1,none⟩=some (.int .i64 kk):=chp HBH2.out 1;have b2_2:w2.cell? ⟨β,2,none⟩=some (.int .i64 pp):=chp HBH2.out 2;have b3_2:w2.cell? ⟨β,3,none⟩=some (v):=chp HBH2.out 3;clear hb2)
    | (go_at_call 71;refine(HCQ.out _ HB2.out).mono ?_;rintro e w4 ⟨rfl,hL⟩;have HL:=hdz hL;clear hL)
    | fail)
   go_ret;exact⟨rfl,HL.out⟩
 . obtain ⟨i,hi,PQ⟩:=JbM pp R.fl.length hpp (by omega) (by omega)
   have HPQ:=hdz PQ;have hgt:(0:Int)<(R.fl.length:Int):=by omega
   have HCQ:Hid (∀wx,Below w.heap.size w wx->Calls Tryz.prog 71 #[.pointer (some ⟨r,0,none⟩)] wx fun e w'=>e=.returned (.tuple #[])/\LeftK False lo w r bx bmx bs l0 n D R w'):=fun wx hb=>by
    have H:=HR.out.grow hb;refine(Jei H.env H.room H.inv (by have:=H.num;omega) (by have:=H.len;omega) (by have:=H.pot;omega)).mono ?_
    rintro e w' ⟨rfl,a,c⟩;exact⟨rfl,JaI hb c,_,a,Jkh H.inv H.inv2 (by rw[←H.cl];exact H.len)⟩
   clear hf hfl PK hkk hpp h hk PQ hi;generalize R.fl.length=m at *
   go_enter Tryz.func79,Tryz.ntmps79
   go_wp2_with (first
    | (go_at_call 20;refine(HPK.out _).mono ?_;rintro e w1 ⟨rfl,hb1⟩;obtain⟨hx1,hy1⟩:=box4 HBT.out hb1;have HB1:=hdz hy1;have HBH1:=hdz hx1;have b0_1:w1.cell? ⟨β,0,none⟩=some (.int .i64 5):=chp HBH1.out 0;have b1_1:w1.cell? ⟨β,1,none⟩=some (.int .i64 kk):=chp HBH1.out 1;have b2_1:w1.cell? ⟨β,2,none⟩=some (.int .i64 pp):=chp HBH1.out 2;have b3_1:w1.cell? ⟨β,3,none⟩=some (v):=chp HBH1.out 3;clear hb1 hx1 hy1 HPK)
    | (go_at_call 73;refine(HMY.out _ HB1.out).mono ?_;rintro e w2 ⟨rfl,hb2⟩;clear b0_1 b1_1 b2_1 b3_1;have HB2:Hid (Below w.heap.size w w2):=HB1.out.trans (hb2.mono HB1.out.size);have HBH2:Hid _:=Jbq HBH1.out hb2;have b0_2:w2.cell? ⟨β,0,none⟩=some (.int .i64 5):=chp HBH2.out 0;have b1_2:w2.cell? ⟨β,1,none⟩=some (.int .i64 kk):=chp HBH2.out 1;have b2_2:w2.cell? ⟨β,2,none⟩=some (.int .i64 pp):=chp HBH2.out 2;have b3_2:w2.cell? ⟨β,3,none⟩=some (v):=chp HBH2.out 3;clear hb2)
    | (go_at_call 20;refine(HPQ.out _).mono ?_;rintro e w3 ⟨rfl,hb3⟩;clear b0_2 b1_2 b2_2 b3_2;have HB3:Hid (Below w.heap.size w w3):=HB2.out.trans (hb3.mono HB2.out.size);have HBH3:Hid _:=Jbq HBH2.out hb3;have b0_3:w3.cell? ⟨β,0,none⟩=some (.int .i64 5):=chp HBH3.out 0;have b1_3:w3.cell? ⟨β,1,none⟩=some (.int .i64 kk):=chp HBH3.out 1;have b2_3:w3.cell? ⟨β,2,none⟩=some (.int .i64 pp):=chp HBH3.out 2;have b3_3:w3.cell? ⟨β,3,none⟩=some (v):=chp HBH3.out 3;clear hb3)
    | (go_at_call 71;refine(HCQ.out _ HB3.out).mono ?_;rintro e w4 ⟨rfl,hL⟩;have HL:=hdz hL;clear hL)
    | fail)
   go_ret;exact⟨rfl,HL.out⟩
theorem Jny(h:Rok lo w r bx bmx bs l0 n D R)(what:Int)(n0:what≠0)(n1:what≠1)(n2:what≠2)(n3:what≠3)(n4:what≠4)(n5:what≠5)(kk pp:Int)(hkk: -9223372036854775808<=kk/\kk<9223372036854775808)(hpp: -9223372036854775808<=pp/\pp<9223372036854775808)(v:Value) :
    Calls Tryz.prog 79 #[.pointer (some ⟨r,0,none⟩),.int .i64 (bs.length:Int),.agg #[.int .i64 what,.int .i64 kk,.int .i64 pp,v]] w fun e w'=>e=.returned (.bool true)/\LeftK True lo w r bx bmx bs l0 n D R w':=by
 obtain⟨k,hk,PK⟩:=JbM kk bs.length hkk (by have:=h.one;omega) (by have:=h.len;omega);have HPK:=hdz PK;have HR:=hdz h;have HMY:Hid (∀wx,Below w.heap.size w wx->Calls Tryz.prog 73 #[.pointer (some ⟨r,0,none⟩)] wx fun e w'=>e=.returned (.int .i64 (R.fl.length:Int))/\Below wx.heap.size wx w'):=fun wx hb=>JbV (h.grow hb).room
 have hfl:=h.inv.room;obtain⟨β,hβ⟩:∃β,w.heap.size=β:=⟨_,rfl⟩;have HBT:Hid (w.heap.size=β):=hβ;have e0:(what==0)=false:=beq_eq_false_iff_ne.2 n0;have e1:(what==1)=false:=beq_eq_false_iff_ne.2 n1;have e2:(what==2)=false:=beq_eq_false_iff_ne.2 n2;have e3:(what==3)=false:=beq_eq_false_iff_ne.2 n3;have e4:(what==4)=false:=beq_eq_false_iff_ne.2 n4;have e5:(what==5)=false:=beq_eq_false_iff_ne.2 n5;clear n0 n1 n2 n3 n4 n5
 by_cases hf:R.fl.length=0
 . have hgt:¬(0:Int)<(0:Int):=by decide
   rw[hf]at HMY;clear hf hfl PK hkk hpp h hk
   skip
   go_enter Tryz.func79,Tryz.ntmps79
   go_wp2_with (first
    | (go_at_call 20;refine(HPK.out _).mono ?_;rintro e w1 ⟨rfl,hb1⟩;obtain⟨hx1,hy1⟩:=box4 HBT.out hb1;have HB1:=hdz hy1;have HBH1:=hdz hx1;have b0_1:w1.cell? ⟨β,0,none⟩=some (.int .i64 what):=chp HBH1.out 0;have b1_1:w1.cell? ⟨β,1,none⟩=some (.int .i64 kk):=chp HBH1.out 1;have b2_1:w1.cell? ⟨β,2,none⟩=some (.int .i64 pp):=chp HBH1.out 2;have b3_1:w1.cell? ⟨β,3,none⟩=some (v):=chp HBH1.out 3;clear hb1 hx1 hy1 HPK)
    | (go_at_call 73;refine(HMY.out _ HB1.out).mono ?_;rintro e w2 ⟨rfl,hb2⟩;clear b0_1 b1_1 b2_1 b3_1;have HB2:Hid (Below w.heap.size w w2):=HB1.out.trans (hb2.mono HB1.out.size);have HBH2:Hid _:=Jbq HBH1.out hb2;have b0_2:w2.cell? ⟨β,0,none⟩=some (.int .i64 what):=chp HBH2.out 0;have b1_2:w2.cell? ⟨β,1,none⟩=some (.int .i64 kk):=chp HBH2.out 1;have b2_2:w2.cell? ⟨β,2,none⟩=some (.int .i64 pp):=chp HBH2.out 2;have b3_2:w2.cell? ⟨β,3,none⟩=some (v):=chp HBH2.out 3;clear hb2)
    | fail)
   go_ret;exact⟨rfl,LeftK.same HR.out HB2.out⟩
 . obtain ⟨i,hi,PQ⟩:=JbM pp R.fl.length hpp (by omega) (by omega)
   have HPQ:=hdz PQ;have hgt:(0:Int)<(R.fl.length:Int):=by omega
   clear hf hfl PK hkk hpp h hk PQ hi;generalize R.fl.length=m at *
   go_enter Tryz.func79,Tryz.ntmps79
   go_wp2_with (first
    | (go_at_call 20;refine(HPK.out _).mono ?_;rintro e w1 ⟨rfl,hb1⟩;obtain⟨hx1,hy1⟩:=box4 HBT.out hb1;have HB1:=hdz hy1;have HBH1:=hdz hx1;have b0_1:w1.cell? ⟨β,0,none⟩=some (.int .i64 what):=chp HBH1.out 0;have b1_1:w1.cell? ⟨β,1,none⟩=some (.int .i64 kk):=chp HBH1.out 1;have b2_1:w1.cell? ⟨β,2,none⟩=some (.int .i64 pp):=chp HBH1.out 2;have b3_1:w1.cell? ⟨β,3,none⟩=some (v):=chp HBH1.out 3;clear hb1 hx1 hy1 HPK)
    | (go_at_call 73;refine(HMY.out _ HB1.out).mono ?_;rintro e w2 ⟨rfl,hb2⟩;clear b0_1 b1_1 b2_1 b3_1;have HB2:Hid (Below w.heap.size w w2):=HB1.out.trans (hb2.mono HB1.out.size);have HBH2:Hid _:=Jbq HBH1.out hb2;have b0_2:w2.cell? ⟨β,0,none⟩=some (.int .i64 what):=chp HBH2.out 0;have b1_2:w2.cell? ⟨β,1,none⟩=some (.int .i64 kk):=chp HBH2.out 1;have b2_2:w2.cell? ⟨β,2,none⟩=some (.int .i64 pp):=chp HBH2.out 2;have b3_2:w2.cell? ⟨β,3,none⟩=some (v):=chp HBH2.out 3;clear hb2)
    | (go_at_call 20;refine(HPQ.out _).mono ?_;rintro e w3 ⟨rfl,hb3⟩;clear b0_2 b1_2 b2_2 b3_2;have HB3:Hid (Below w.heap.size w w3):=HB2.out.trans (hb3.mono HB2.out.size);have HBH3:Hid _:=Jbq HBH2.out hb3;have b0_3:w3.cell? ⟨β,0,none⟩=some (.int .i64 what):=chp HBH3.out 0;have b1_3:w3.cell? ⟨β,1,none⟩=some (.int .i64 kk):=chp HBH3.out 1;have b2_3:w3.cell? ⟨β,2,none⟩=some (.int .i64 pp):=chp HBH3.out 2;have b3_3:w3.cell? ⟨β,3,none⟩=some (v):=chp HBH3.out 3;clear hb3)
    | fail)
   go_ret;exact⟨rfl,LeftK.same HR.out HB3.out⟩
end
section
open Go.RowKit Go.Maps
attribute [local go_sem] Oper.semAt_some Ja2 JaV
variable {lo r bx bmx : Nat}{w : World}{bs : List Nat}{l0 n : Int}{D : List (List UInt8)}{R : Rm}
theorem JpR{wx w':World}{lo b:Nat}{who u:Int}{S:Cl}{β:Nat}{cs:Array Value}{T:TypeId}(h:isCl lo wx b who u S)(hk:keptC wx w' b)(hb:wx.heap[β]?=some (.cells cs T (0,0)))(t1:T≠203)(t2:T≠23):w'.heap[β]?=some (.cells cs T (0,0)) :=
 (hk.1.2 β (alt hb) fun e=>by
   obtain⟨_,_,cs',T',hc,hT⟩:=Jem h e;have:=JaG hb hc;subst this
   rcases hT with e|e
   . exact t1 e
   . exact t2 e).trans hb
theorem Jn0(h:Rok lo w r bx bmx bs l0 n D R)(kk pp:Int)(hkk: -9223372036854775808<=kk/\kk<9223372036854775808)(hpp: -9223372036854775808<=pp/\pp<9223372036854775808)(v:Value)(ps:List Pt)(hv:opAt w v ps)(hwf:∀p∈ps,p.put.length<=150->wfP p) :
    Calls Tryz.prog 79 #[.pointer (some ⟨r,0,none⟩),.int .i64 (bs.length:Int),.agg #[.int .i64 0,.int .i64 kk,.int .i64 pp,v]] w fun e w'=>e=.returned (.bool true)/\LeftK True lo w r bx bmx bs l0 n D R w':=by
 obtain⟨k,hk,PK⟩:=JbM kk bs.length hkk (by have:=h.one;omega) (by have:=h.len;omega);have HPK:=hdz PK;have HR:=hdz h;have hkc:k<R.cl.length:=by rw[←h.cl];exact hk
 obtain⟨b,hb,hcl⟩:=Jcy h.room hkc;obtain⟨_,hck⟩:=h.inv.clk hkc;have hsm:=hck.small h.inv.lk;have hdl:=hck.ok.len;obtain⟨rs,hRr,hd⟩:=hck.ok.V;obtain ⟨mu,hmu,hmn⟩:∃m:Nat,(clK R k).1=(m:Int)/\Joq m:=by
  rcases hck.unit with e|e|e
  . exact⟨1,e,.inl rfl⟩
  . exact⟨2,e,.inr (.inl rfl)⟩
  . exact⟨3,e,.inr (.inr rfl)⟩
 have hC1:C1 rs<=6000:=by
  have:(encs rs).length=C1 rs:=(JbU rs).symm;rw[←this,←hd];omega
 have hN0:=Jea (mu:Int) rs;have hN1:=JhI (u:=(mu:Int)) (by rw[←hmu];exact hck.unit) rs;have HV:Hid (opAt w v ps):=hv;obtain⟨pv,cv,rfl,_,_,_⟩:=hv;obtain⟨β,hβ⟩:∃β,w.heap.size=β:=⟨_,rfl⟩;have HBT:Hid (w.heap.size=β):=hβ;have HMY:Hid (∀wx,Below w.heap.size w wx->Calls Tryz.prog 73 #[.pointer (some ⟨r,0,none⟩)] wx fun e w'=>e=.returned (.int .i64 (R.fl.length:Int))/\Below wx.heap.size wx w'):=fun wx hb=>JbV (h.grow hb).room
 have CC:Hid (∀wx,Below w.heap.size w wx->Calls Tryz.prog 62 #[.pointer (some ⟨r,0,none⟩),.int .i64 (k:Int)] wx fun e w'=>e=.returned (.tuple #[.pointer (some ⟨b,0,none⟩),.nilIface])/\Below wx.heap.size wx w'):=fun wx hbx=>Jd0 (h.grow hbx).room hb (by have:=h.len;omega)
 have CU:Hid (∀wx,Below w.heap.size w wx->Calls Tryz.prog 57 #[.pointer (some ⟨b,0,none⟩)] wx fun e w'=>e=.returned (.int .i64 (mu:Int))/\Below wx.heap.size wx w'):=fun wx hbx=>by rw[←hmu];exact JbY (JaZ hcl hbx)
 have CT:Hid (∀wx,Below w.heap.size w wx->Calls Tryz.prog 54 #[.pointer (some ⟨b,0,none⟩)] wx fun e w'=>e=.returned (.string (Jao rs))/\Below wx.heap.size wx w'):=fun wx hbx=>by
  have:=JeW (JaZ hcl hbx);rw[hd]at this;exact this
 have CN:Hid (∀wx,Below w.heap.size w wx->Calls Tryz.prog 25 #[.int .i64 (mu:Int),.string (Jao rs)] wx fun e w'=>∃s,e=.returned (.tuple #[.pointer (some ⟨s,0,none⟩),.nilIface])/\JaW w' s mu rs/\Below wx.heap.size wx w'):=fun wx hbx=>(Jiw mu hmn rs hRr (by omega) wx (h.env.below hbx).tabs).mono fun e w' ⟨s,h1,h2,_,h3⟩=>⟨s,h1,h2,h3⟩
 have CL:∀s wx,JaW wx s mu rs->Calls Tryz.prog 33 #[.pointer (some ⟨s,0,none⟩)] wx fun e w'=>e=.returned (.int .i64 (by_ (mu:Int) rs))/\Below wx.heap.size wx w':=fun s wx hs=>(JoI s mu hmn rs wx hs).mono fun e w' ⟨h1,h2⟩=>⟨h1,by rw[h2];exact brf _ _⟩
 have CF:Hid (∀wx,Below w.heap.size w wx->Calls Tryz.prog 22 #[.slice pv ps.length cv,.int .i64 (by_ (mu:Int) rs)] wx fun e w'=>∃v' qs,e=.returned v'/\opAt w' v' qs/\qs.length<=61/\(∀q∈qs,Jf1 (by_ (mu:Int) rs) q)/\Below wx.heap.size wx w'):=fun wx hbx=>(fit_any _ ps _ wx (h.env.below hbx).tabs (Ja6 HV.out hbx (nlr _)) hwf hN0 (by omega)).mono fun e w' ⟨v',qs,h1,h2,h3,h4,h5⟩=>⟨v',qs,h1,(JlO (lo:=0) h2).1,h3,h4,h5⟩
 have CE:Hid (∀wx v' qs,Below w.heap.size w wx->opAt wx v' qs->qs.length<=61->(∀q∈qs,Jf1 (by_ (mu:Int) rs) q)->Calls Tryz.prog 47 #[.pointer (some ⟨b,0,none⟩),v'] wx fun e w'=>∃x,e=.returned x/\LeftK True lo w r bx bmx bs l0 n D R w'/\∀cs,wx.heap[β]?=some (.cells cs 136 (0,0))->w'.heap[β]?=some (.cells cs 136 (0,0))):=fun wx v' qs hbx ho hl hs=>by
  have H:=HR.out.grow hbx;refine(JiP (JaZ hcl hbx) hck.ok hck.unit v' qs ho (fun q hq=>by have:=hs q hq;unfold Jf1 at this;unfold wfP;omega) (fun q hq=>by have:=(hs q hq).2.2.2.2;omega) (by omega) (by omega) ⟨hck.id.1,by have:=hck.id.2;have:=h.num;split at *<;>omega⟩ H.env.g2 H.env.tabs).mono ?_
  rintro e w' ⟨rfl,a,c⟩;obtain⟨m1,m2⟩:=Jdi H.room hb a c;exact⟨_,rfl,⟨JaI hbx m2,_,m1,Jqt H.inv H.inv2 hkc qs⟩,fun cs hcs=>JpR (JaZ hcl hbx) c hcs (by decide) (by decide)⟩
 have hfl:=h.inv.room;generalize by_ (mu:Int) rs=N at *;generalize Jao rs=txt at *
 by_cases hf:R.fl.length=0
 . have hgt:¬(0:Int)<(0:Int):=by decide
   rw[hf]at HMY;clear hf hfl PK hkk hpp h hk hkc hb hcl hck hsm hdl hRr hd hmu hmn hC1 hN0 hN1 hwf
   skip
   go_enter Tryz.func79,Tryz.ntmps79
   go_wp2_with (first
    | (go_at_call 20;refine(HPK.out _).mono ?_;rintro e w1 ⟨rfl,hb1⟩;obtain⟨hx1,hy1⟩:=box4 HBT.out hb1;have HB1:=hdz hy1;have HBH1:=hdz hx1;have b0_1:w1.cell? ⟨β,0,none⟩=some (.int .i64 0):=chp HBH1.out 0;have b1_1:w1.cell? ⟨β,1,none⟩=some (.int .i64 kk):=chp HBH1.out 1;have b2_1:w1.cell? ⟨β,2,none⟩=some (.int .i64 pp):=chp HBH1.out 2;have b3_1:w1.cell? ⟨β,3,none⟩=some (.slice pv ps.length cv):=chp HBH1.out 3;clear hb1 hx1 hy1 HPK)
    | (go_at_call 73;refine(HMY.out _ HB1.out).mono ?_;rintro e w2 ⟨rfl,hb2⟩;clear b0_1 b1_1 b2_1 b3_1;have HB2:Hid (Below w.heap.size w w2):=HB1.out.trans (hb2.mono HB1.out.size);have HBH2:Hid _:=Jbq HBH1.out hb2;have b0_2:w2.cell? ⟨β,0,none⟩=some (.int .i64 0):=chp HBH2.out 0;have b1_2:w2.cell? ⟨β,1,none⟩=some (.int .i64 kk):=chp HBH2.out 1;have b2_2:w2.cell? ⟨β,2,none⟩=some (.int .i64 pp):=chp HBH2.out 2;have b3_2:w2.cell? ⟨β,3,none⟩=some (.slice pv ps.length cv):=chp HBH2.out 3;clear hb2)
    | (go_at_call 62;refine(CC.out _ HB2.out).mono ?_;rintro e w4 ⟨rfl,hb4⟩;clear b0_2 b1_2 b2_2 b3_2;have HB4:Hid (Below w.heap.size w w4):=HB2.out.trans (hb4.mono HB2.out.size);have HBH4:Hid _:=Jbq HBH2.out hb4;have b0_4:w4.cell? ⟨β,0,none⟩=some (.int .i64 0):=chp HBH4.out 0;have b1_4:w4.cell? ⟨β,1,none⟩=some (.int .i64 kk):=chp HBH4.out 1;have b2_4:w4.cell? ⟨β,2,none⟩=some (.int .i64 pp):=chp HBH4.out 2;have b3_4:w4.cell? ⟨β,3,none⟩=some (.slice pv ps.length cv):=chp HBH4.out 3;clear hb4)
    | (go_at_call 57;refine(CU.out _ HB4.out).mono ?_;rintro e w5 ⟨rfl,hb5⟩;clear b0_4 b1_4 b2_4 b3_4;have HB5:Hid (Below w.heap.size w w5):=HB4.out.trans (hb5.mono HB4.out.size);have HBH5:Hid _:=Jbq HBH4.out hb5;have b0_5:w5.cell? ⟨β,0,none⟩=some (.int .i64 0):=chp HBH5.out 0;have b1_5:w5.cell? ⟨β,1,none⟩=some (.int .i64 kk):=chp HBH5.out 1;have b2_5:w5.cell? ⟨β,2,none⟩=some (.int .i64 pp):=chp HBH5.out 2;have b3_5:w5.cell? ⟨β,3,none⟩=some (.slice pv ps.length cv):=chp HBH5.out 3;clear hb5)
    | (go_at_call 54;refine(CT.out _ HB5.out).mono ?_;rintro e w6 ⟨rfl,hb6⟩;clear b0_5 b1_5 b2_5 b3_5;have HB6:Hid (Below w.heap.size w w6):=HB5.out.trans (hb6.mono HB5.out.size);have HBH6:Hid _:=Jbq HBH5.out hb6;have b0_6:w6.cell? ⟨β,0,none⟩=some (.int .i64 0):=chp HBH6.out 0;have b1_6:w6.cell? ⟨β,1,none⟩=some (.int .i64 kk):=chp HBH6.out 1;have b2_6:w6.cell? ⟨β,2,none⟩=some (.int .i64 pp):=chp HBH6.out 2;have b3_6:w6.cell? ⟨β,3,none⟩=some (.slice pv ps.length cv):=chp HBH6.out 3;clear hb6)
    | (go_at_call 25;refine(CN.out _ HB6.out).mono ?_;rintro e w7 ⟨sb,rfl,hsh,hb7⟩;have HSH:=hdz hsh;clear b0_6 b1_6 b2_6 b3_6;have HB7:Hid (Below w.heap.size w w7):=HB6.out.trans (hb7.mono HB6.out.size);have HBH7:Hid _:=Jbq HBH6.out hb7;have b0_7:w7.cell? ⟨β,0,none⟩=some (.int .i64 0):=chp HBH7.out 0;have b1_7:w7.cell? ⟨β,1,none⟩=some (.int .i64 kk):=chp HBH7.out 1;have b2_7:w7.cell? ⟨β,2,none⟩=some (.int .i64 pp):=chp HBH7.out 2;have b3_7:w7.cell? ⟨β,3,none⟩=some (.slice pv ps.length cv):=chp HBH7.out 3;clear hb7;clear hsh)
    | fail)
   clear b0_7 b1_7 b2_7 b3_7;refine Jaq (fun wx:World=>wx.heap[β]?=some (.cells #[.int .i64 0,.int .i64 kk,.int .i64 pp,.slice pv ps.length cv] 136 (0,0))) 7 7 (by kernel_rfl) rfl ?_
   intro w30 hb30;have hz0:w30.heap[β]?=some (.cells #[.int .i64 0,.int .i64 kk,.int .i64 pp,.slice pv ps.length cv] 136 (0,0)):=Jbq HBH7.out hb30;have HZ30:=hdz hz0;have HSH30:Hid (JaW w30 sb mu rs):=JaB HSH.out hb30;obtain⟨G,hG⟩:=Jax (Z:=(fun wx:World=>wx.heap[β]?=some (.cells #[.int .i64 0,.int .i64 kk,.int .i64 pp,.slice pv ps.length cv] 136 (0,0)))) hz0 (fun {w w'} h hb=>Jbq h hb);have e3:∀x,(G x).cell? ⟨β,3,none⟩=some (.slice pv ps.length cv):=fun x=>chp (hG.but x) 3
   have HB30:Hid (Below w.heap.size w w30):=HB7.out.trans (hb30.mono HB7.out.size);clear hb30;refine az hG hz0 0 fun _ k=>?_;go_simp;refine k _ ?_;clear k
   refine az hG hz0 1 fun _ k=>?_;go_simp;refine k _ ?_;clear k
   refine az hG hz0 2 fun _ k=>?_;go_simp;refine k _ ?_;clear k
   refine az hG hz0 3 fun _ k=>?_;go_simp;refine k _ ?_;clear k
   clear e3 hG hz0;refine JaF (i:=4) (by kernel_rfl) ⟨_,rfl,?_⟩;intro w40 hb40 K hK
   go_simp
   refine(CL _ w40 (JaB HSH30.out hb40)).mono ?_
   rintro e w41 ⟨rfl,hb41⟩;have hb31:=hb40.trans (hb41.mono hb40.size);have HZ31:Hid _:=Jbq HZ30.out hb31;have HB31:Hid (Below w.heap.size w w41):=HB30.out.trans (hb31.mono HB30.out.size);refine⟨_,rfl,hK _ _ (fun _=>HZ31.out) ?_⟩;clear hK K hb31 hb40 hb41;refine JaF (i:=5) (by kernel_rfl) ⟨_,rfl,?_⟩;intro w31 hb31 K hK
   go_simp
   have hb31':Below w.heap.size w w31:=HB31.out.trans (hb31.mono HB31.out.size);refine(CF.out w31 hb31').mono ?_
   rintro e w8 ⟨v8,qs,rfl,ho,hql,hqs,hb8⟩;have HO:=hdz ho;have HQL:=hdz hql;have HQS:=hdz hqs;have HB8:Hid (Below w.heap.size w w8):=hb31'.trans (hb8.mono hb31'.size);have HZ8:Hid _:=Jbq HZ31.out (hb31.trans (hb8.mono hb31.size));refine⟨_,rfl,hK _ _ (fun _=>HZ8.out) ?_⟩;clear hK K ho hql hqs hb8 hb31' hb31;refine JaF (i:=6) (by kernel_rfl) ⟨_,rfl,?_⟩;intro w32 hb32 K hK
   go_simp
   refine(CE.out w32 v8 qs (HB8.out.trans (hb32.mono HB8.out.size)) (Ja6 HO.out hb32 (nlr _)) HQL.out HQS.out).mono ?_
   rintro e w9 ⟨x,rfl,hL,hbx⟩;have HL:=hdz hL;refine⟨_,rfl,hK _ _ (fun _=>hbx _ (Jbq HZ8.out hb32)) ?_⟩;clear hK K hL hb32 hbx;refine JaM (by kernel_rfl) ?_
   intro w10 hb10;have HL2:Hid (LeftK True lo w r bx bmx bs l0 n D R w10):=⟨JbK HL.out.1 hb10,by obtain⟨R',a,c⟩:=HL.out.2;exact⟨R',Jap a hb10,c⟩⟩;clear hb10;go_wp2;go_ret;exact⟨rfl,HL2.out⟩
 . obtain ⟨i,hi,PQ⟩:=JbM pp R.fl.length hpp (by omega) (by omega)
   have HPQ:=hdz PQ;have hgt:(0:Int)<(R.fl.length:Int):=by omega
   clear hf hfl PK hkk hpp h hk hkc hb hcl hck hsm hdl hRr hd hmu hmn hC1 hN0 hN1 hwf PQ hi;generalize R.fl.length=m at *
   go_enter Tryz.func79,Tryz.ntmps79
   go_wp2_with (first
    | (go_at_call 20;refine(HPK.out _).mono ?_;rintro e w1 ⟨rfl,hb1⟩;obtain⟨hx1,hy1⟩:=box4 HBT.out hb1;have HB1:=hdz hy1;have HBH1:=hdz hx1;have b0_1:w1.cell? ⟨β,0,none⟩=some (.int .i64 0):=chp HBH1.out 0;have b1_1:w1.cell? ⟨β,1,none⟩=some (.int .i64 kk):=chp HBH1.out 1;have b2_1:w1.cell? ⟨β,2,none⟩=some (.int .i64 pp):=chp HBH1.out 2;have b3_1:w1.cell? ⟨β,3,none⟩=some (.slice pv ps.length cv):=chp HBH1.out 3;clear hb1 hx1 hy1 HPK)
    | (go_at_call 73;refine(HMY.out _ HB1.out).mono ?_;rintro e w2 ⟨rfl,hb2⟩;clear b0_1 b1_1 b2_1 b3_1;have HB2:Hid (Below w.heap.size w w2):=HB1.out.trans (hb2.mono HB1.out.size);have HBH2:Hid _:=Jbq HBH1.out hb2;have b0_2:w2.cell? ⟨β,0,none⟩=some (.int .i64 0):=chp HBH2.out 0;have b1_2:w2.cell? ⟨β,1,none⟩=some (.int .i64 kk):=chp HBH2.out 1;have b2_2:w2.cell? ⟨β,2,none⟩=some (.int .i64 pp):=chp HBH2.out 2;have b3_2:w2.cell? ⟨β,3,none⟩=some (.slice pv ps.length cv):=chp HBH2.out 3;clear hb2)
    | (go_at_call 20;refine(HPQ.out _).mono ?_;rintro e w3 ⟨rfl,hb3⟩;clear b0_2 b1_2 b2_2 b3_2;have HB3:Hid (Below w.heap.size w w3):=HB2.out.trans (hb3.mono HB2.out.size);have HBH3:Hid _:=Jbq HBH2.out hb3;have b0_3:w3.cell? ⟨β,0,none⟩=some (.int .i64 0):=chp HBH3.out 0;have b1_3:w3.cell? ⟨β,1,none⟩=some (.int .i64 kk):=chp HBH3.out 1;have b2_3:w3.cell? ⟨β,2,none⟩=some (.int .i64 pp):=chp HBH3.out 2;have b3_3:w3.cell? ⟨β,3,none⟩=some (.slice pv ps.length cv):=chp HBH3.out 3;clear hb3)
    | (go_at_call 62;refine(CC.out _ HB3.out).mono ?_;rintro e w4 ⟨rfl,hb4⟩;clear b0_3 b1_3 b2_3 b3_3;have HB4:Hid (Below w.heap.size w w4):=HB3.out.trans (hb4.mono HB3.out.size);have HBH4:Hid _:=Jbq HBH3.out hb4;have b0_4:w4.cell? ⟨β,0,none⟩=some (.int .i64 0):=chp HBH4.out 0;have b1_4:w4.cell? ⟨β,1,none⟩=some (.int .i64 kk):=chp HBH4.out 1;have b2_4:w4.cell? ⟨β,2,none⟩=some (.int .i64 pp):=chp HBH4.out 2;have b3_4:w4.cell? ⟨β,3,none⟩=some (.slice pv ps.length cv):=chp HBH4.out 3;clear hb4)
    | (go_at_call 57;refine(CU.out _ HB4.out).mono ?_;rintro e w5 ⟨rfl,hb5⟩;clear b0_4 b1_4 b2_4 b3_4;have HB5:Hid (Below w.heap.size w w5):=HB4.out.trans (hb5.mono HB4.out.size);have HBH5:Hid _:=Jbq HBH4.out hb5;have b0_5:w5.cell? ⟨β,0,none⟩=some (.int .i64 0):=chp HBH5.out 0;have b1_5:w5.cell? ⟨β,1,none⟩=some (.int .i64 kk):=chp HBH5.out 1;have b2_5:w5.cell? ⟨β,2,none⟩=some (.int .i64 pp):=chp HBH5.out 2;have b3_5:w5.cell? ⟨β,3,none⟩=some (.slice pv ps.length cv):=chp HBH5.out 3;clear hb5)
    | (go_at_call 54;refine(CT.out _ HB5.out).mono ?_;rintro e w6 ⟨rfl,hb6⟩;clear b0_5 b1_5 b2_5 b3_5;have HB6:Hid (Below w.heap.size w w6):=HB5.out.trans (hb6.mono HB5.out.size);have HBH6:Hid _:=Jbq HBH5.out hb6;have b0_6:w6.cell? ⟨β,0,none⟩=some (.int .i64 0):=chp HBH6.out 0;have b1_6:w6.cell? ⟨β,1,none⟩=some (.int .i64 kk):=chp HBH6.out 1;have b2_6:w6.cell? ⟨β,2,none⟩=some (.int .i64 pp):=chp HBH6.out 2;have b3_6:w6.cell? ⟨β,3,none⟩=some (.slice pv ps.length cv):=chp HBH6.out 3;clear hb6)
    | (go_at_call 25;refine(CN.out _ HB6.out).mono ?_;rintro e w7 ⟨sb,rfl,hsh,hb7⟩;have HSH:=hdz hsh;clear b0_6 b1_6 b2_6 b3_6;have HB7:Hid (Below w.heap.size w w7):=HB6.out.trans (hb7.mono HB6.out.size);have HBH7:Hid _:=Jbq HBH6.out hb7;have b0_7:w7.cell? ⟨β,0,none⟩=some (.int .i64 0):=chp HBH7.out 0;have b1_7:w7.cell? ⟨β,1,none⟩=some (.int .i64 kk):=chp HBH7.out 1;have b2_7:w7.cell? ⟨β,2,none⟩=some (.int .i64 pp):=chp HBH7.out 2;have b3_7:w7.cell? ⟨β,3,none⟩=some (.slice pv ps.length cv):=chp HBH7.out 3;clear hb7;clear hsh)
    | fail)
   clear b0_7 b1_7 b2_7 b3_7;refine Jaq (fun wx:World=>wx.heap[β]?=some (.cells #[.int .i64 0,.int .i64 kk,.int .i64 pp,.slice pv ps.length cv] 136 (0,0))) 7 7 (by kernel_rfl) rfl ?_
   intro w30 hb30;have hz0:w30.heap[β]?=some (.cells #[.int .i64 0,.int .i64 kk,.int .i64 pp,.slice pv ps.length cv] 136 (0,0)):=Jbq HBH7.out hb30;have HZ30:=hdz hz0;have HSH30:Hid (JaW w30 sb mu rs):=JaB HSH.out hb30;obtain⟨G,hG⟩:=Jax (Z:=(fun wx:World=>wx.heap[β]?=some (.cells #[.int .i64 0,.int .i64 kk,.int .i64 pp,.slice pv ps.length cv] 136 (0,0)))) hz0 (fun {w w'} h hb=>Jbq h hb);have e3:∀x,(G x).cell? ⟨β,3,none⟩=some (.slice pv ps.length cv):=fun x=>chp (hG.but x) 3
   have HB30:Hid (Below w.heap.size w w30):=HB7.out.trans (hb30.mono HB7.out.size);clear hb30;refine az hG hz0 0 fun _ k=>?_;go_simp;refine k _ ?_;clear k
   refine az hG hz0 1 fun _ k=>?_;go_simp;refine k _ ?_;clear k
   refine az hG hz0 2 fun _ k=>?_;go_simp;refine k _ ?_;clear k
   refine az hG hz0 3 fun _ k=>?_;go_simp;refine k _ ?_;clear k
   clear e3 hG hz0;refine JaF (i:=4) (by kernel_rfl) ⟨_,rfl,?_⟩;intro w40 hb40 K hK
   go_simp
   refine(CL _ w40 (JaB HSH30.out hb40)).mono ?_
   rintro e w41 ⟨rfl,hb41⟩;have hb31:=hb40.trans (hb41.mono hb40.size);have HZ31:Hid _:=Jbq HZ30.out hb31;have HB31:Hid (Below w.heap.size w w41):=HB30.out.trans (hb31.mono HB30.out.size);refine⟨_,rfl,hK _ _ (fun _=>HZ31.out) ?_⟩;clear hK K hb31 hb40 hb41;refine JaF (i:=5) (by kernel_rfl) ⟨_,rfl,?_⟩;intro w31 hb31 K hK
   go_simp
   have hb31':Below w.heap.size w w31:=HB31.out.trans (hb31.mono HB31.out.size);refine(CF.out w31 hb31').mono ?_
   rintro e w8 ⟨v8,qs,rfl,ho,hql,hqs,hb8⟩;have HO:=hdz ho;have HQL:=hdz hql;have HQS:=hdz hqs;have HB8:Hid (Below w.heap.size w w8):=hb31'.trans (hb8.mono hb31'.size);have HZ8:Hid _:=Jbq HZ31.out (hb31.trans (hb8.mono hb31.size));refine⟨_,rfl,hK _ _ (fun _=>HZ8.out) ?_⟩;clear hK K ho hql hqs hb8 hb31' hb31;refine JaF (i:=6) (by kernel_rfl) ⟨_,rfl,?_⟩;intro w32 hb32 K hK
   go_simp
   refine(CE.out w32 v8 qs (HB8.out.trans (hb32.mono HB8.out.size)) (Ja6 HO.out hb32 (nlr _)) HQL.out HQS.out).mono ?_
   rintro e w9 ⟨x,rfl,hL,hbx⟩;have HL:=hdz hL;refine⟨_,rfl,hK _ _ (fun _=>hbx _ (Jbq HZ8.out hb32)) ?_⟩;clear hK K hL hb32 hbx;refine JaM (by kernel_rfl) ?_
   intro w10 hb10;have HL2:Hid (LeftK True lo w r bx bmx bs l0 n D R w10):=⟨JbK HL.out.1 hb10,by obtain⟨R',a,c⟩:=HL.out.2;exact⟨R',Jap a hb10,c⟩⟩;clear hb10;go_wp2;go_ret;exact⟨rfl,HL2.out⟩
theorem Jk3(h:Rok lo w r bx bmx bs l0 n D R)(what kk pp:Int)(hkk: -9223372036854775808<=kk/\kk<9223372036854775808)(hpp: -9223372036854775808<=pp/\pp<9223372036854775808)(v:Value)(ps:List Pt)(hv:opAt w v ps)(hwf:∀p∈ps,p.put.length<=150->wfP p) :
    Calls Tryz.prog 79 #[.pointer (some ⟨r,0,none⟩),.int .i64 (bs.length:Int),.agg #[.int .i64 what,.int .i64 kk,.int .i64 pp,v]] w fun e w'=>e=.returned (.bool true)/\LeftK (what≠5) lo w r bx bmx bs l0 n D R w':=by
 have M:∀{one:Prop} {w':World},((what≠5)->one)->LeftK one lo w r bx bmx bs l0 n D R w'->LeftK (what≠5) lo w r bx bmx bs l0 n D R w':=fun hi ⟨a,R',b,n',D',c1,c2,c3,c4,c5,c6,c7⟩=>⟨a,R',b,n',D',c1,c2,c3,c4,c5,c6,fun q=>c7 (hi q)⟩
 by_cases h0:what=0
 . subst h0;exact(Jn0 h kk pp hkk hpp v ps hv hwf).mono fun e w' ⟨a,b⟩=>⟨a,M (fun _=>trivial) b⟩
 by_cases h1:what=1
 . subst h1;exact(Jnx h kk pp hkk hpp v).mono fun e w' ⟨a,b⟩=>⟨a,M (fun _=>trivial) b⟩
 by_cases h2:what=2
 . subst h2;exact(JlF h kk pp hkk hpp v).mono fun e w' ⟨a,b⟩=>⟨a,M (fun _=>trivial) b⟩
 by_cases h3:what=3
 . subst h3;exact(Jnz h kk pp hkk hpp v).mono fun e w' ⟨a,b⟩=>⟨a,M (fun _=>trivial) b⟩
 by_cases h4:what=4
 . subst h4;exact(JlD h kk pp hkk hpp v).mono fun e w' ⟨a,b⟩=>⟨a,M (fun _=>trivial) b⟩
 by_cases h5:what=5
 . subst h5;exact(JlE h kk pp hkk hpp v).mono fun e w' ⟨a,b⟩=>⟨a,M (fun h=>h rfl) b⟩
 exact(Jny h what h0 h1 h2 h3 h4 h5 kk pp hkk hpp v).mono fun e w' ⟨a,b⟩=>⟨a,M (fun _=>trivial) b⟩
end
section
open Go.RowKit Go.Deep Go.ChangeShapes Go.WideShapes Go.Joins
structure Sa where
 a:Int
 b:Int
 c:Int
 op:List Pt
def Jgf (c:Int):Prop:=-9223372036854775808<=c/\c<9223372036854775808
def JhW (q:Sa):Prop:=(Jgf q.a/\Jgf q.b/\Jgf q.c)/\JoE q.op
def sayIn (w:World) (b o:Nat) (q:Sa):Prop:=w.cell? ⟨b,o,none⟩=some (.int .i64 q.a)/\w.cell? ⟨b,o+1,none⟩=some (.int .i64 q.b)/\w.cell? ⟨b,o+2,none⟩=some (.int .i64 q.c)/\∃v',w.cell? ⟨b,o+3,none⟩=some v'/\opAt w v' q.op
def Ji3 (w:World) (v:Value) (l:List Sa):Prop:=∃p c,v=.slice p l.length c/\l.length<=c/\c<=maxLen/\(l≠[]->∃b o,p=some ⟨b,o,none⟩/\b<w.heap.size/\∀i q,l[i]?=some q->sayIn w b (o+i*4) q)
theorem Jg9:Tryz.prog.cellsOf 3=1:=by kernel_rfl
theorem JkZ:Tryz.prog.cellsOf 136=4:=by kernel_rfl
theorem Jn7{H:Type}{enc:TypeId×Value->H}{W:World}{base:Nat}{sp:Nat->Bool}{held:Bool}{n:Nat}{a:Addr}{cs:List Value}{y:DataW H×List MemPlace}
    (h1:W.cells? base a 4=some cs) (h2:DataW.trod enc Tryz.prog W base sp held n 136 cs=some y) :
    ∃q:Sa,a.spot=none/\sayIn W a.block a.off q/\JhW q:=by
 obtain⟨_,hlen,hcell⟩:=World.cells?_some h1;obtain⟨y0,y1,y2,y3,m,rfl,_,t0,t1,t2,t3⟩:=trod_struct4 Tryz.underlying136 h2;rw[Jg9]at t0 t1 t2;rw[JnT]at t3
 match cs,hlen with
 | [c0,c1,c2,c3],_ =>
  simp only[List.drop_zero,List.take_succ_cons,List.take_zero,List.drop_succ_cons]at t0 t1 t2 t3;obtain⟨A,e0,rfl,w0⟩:=DataW.trod_int Tryz.underlying3 t0;obtain⟨B,e1,rfl,w1⟩:=DataW.trod_int Tryz.underlying3 t1;obtain⟨C,e2,rfl,w2⟩:=DataW.trod_int Tryz.underlying3 t2;obtain⟨ps,p1,p2,_,_⟩:=open_op t3;simp only[List.cons.injEq,and_true]at e0 e1 e2;subst e0 e1 e2;obtain⟨b,o,spot⟩:=a;have k0:=hcell 0 (by omega);have k1:=hcell 1 (by omega);have k2:=hcell 2 (by omega);have k3:=hcell 3 (by omega);have hspot:spot=none:=by simpa[Addr.add] using World.cell?_spot (show W.cell? ((⟨b,o,spot⟩:Addr).add 0)=some (.int .i64 A) from k0)
  subst hspot;rw[Addr.add_lit]at k0 k1 k2 k3;have num:∀{c:Int},(Lit.int .i64 c).wf=true->Jgf c:=fun {c} h=>by
   unfold Jgf;simp[Lit.wf,IntKind.min,IntKind.max,IntKind.signed,IntKind.bits]at h;omega
  exact⟨⟨A,B,C,ps⟩,rfl,⟨k0,k1,k2,c3,k3,p1⟩,⟨num w0,num w1,num w2⟩,Jqv p2⟩
theorem Jpi{H:Type}{enc:TypeId×Value->H}{W:World}{base:Nat}{sp:Nat->Bool}{held:Bool}{fuel:Nat}{v:Value}{x:DataW H×List MemPlace}
    (h:DataW.trod enc Tryz.prog W base sp held fuel 132 [v]=some x) :
    ∃l,Ji3 W v l/\∀q∈l,JhW q:=by
 rcases open_slice Tryz.underlying132 h with ⟨hcs,_⟩|⟨a,len,cap,m,n,D,Pl,hcs,hb,hl,hm,hmm,rfl,hx⟩
 . simp only[List.cons.injEq,and_true]at hcs
   subst hcs;exact⟨[],⟨none,0,rfl,nlr _,Nat.zero_le _,fun h=>absurd rfl h⟩,by simp⟩
 . simp only [List.cons.injEq,and_true]at hcs
   subst hcs;have hlm:len<=m:=by rw[hmm];split<;>omega
   haveI:Inhabited Sa:=⟨⟨0,0,0,[]⟩⟩
   obtain ⟨f,hf⟩:=choose_lt (α:=Sa) (n:=len) (p:=fun i q=>(a.add (i*4)).spot=none/\sayIn W (a.add (i*4)).block (a.add (i*4)).off q/\JhW q) (fun i hi=>by
    obtain⟨cs,h1,h2⟩:=hx i (by omega);rw[JkZ]at h1
    exact Jn7 h1 h2)
   have hlen:((List.range len).map f).length=len:=by simp
   refine⟨(List.range len).map f,⟨some a,cap,by rw[hlen],by rw[hlen];exact hl,hm,fun hne=>?_⟩,?_⟩
   . have hpos:0<len:=by
       cases len with
       | zero=>exact absurd rfl hne
       | succ n=>exact Nat.succ_pos n
     obtain⟨b,o,spot⟩:=a;have hs0:=(hf 0 hpos).1;have hspot:spot=none:=by simpa[Addr.add] using hs0
     subst hspot;refine⟨b,o,rfl,?_,fun i q hi=>?_⟩
     . have:=blt W _ (hf 0 hpos).2.1.1
       rw[Addr.add_lit]at this;exact this
     . have hil:i<len:=by have:=(llt hi);rw[hlen]at this;exact this
       have e:q=f i:=by
        rw[List.getElem?_map,List.getElem?_range hil]at hi;exact(osi hi).symm
       subst e;have k:=(hf i hil).2.1;rw[Addr.add_lit]at k;exact k
   . intro q hq
     obtain⟨i,hi,rfl⟩:=List.mem_map.1 hq;exact(hf i (List.mem_range.1 hi)).2.2
theorem Jph{H:Type}{enc:TypeId×Value->H}{W:World}{base:Nat}{sp:Nat->Bool}{held:Bool}{fuel:Nat}{v:Value}{x:DataW H×List MemPlace}
    (h:DataW.trod enc Tryz.prog W base sp held fuel 111 [v]=some x) :
    ∃l:List Int,Jfe W v l/\∀q∈l,Jgf q:=by
 rcases open_slice Tryz.underlying111 h with ⟨hcs,_⟩|⟨a,len,cap,m,n,D,Pl,hcs,hb,hl,hm,hmm,rfl,hx⟩
 . simp only[List.cons.injEq,and_true]at hcs
   subst hcs;exact⟨[],⟨none,0,rfl,nlr _,Nat.zero_le _,fun h=>absurd rfl h⟩,by simp⟩
 . simp only [List.cons.injEq,and_true]at hcs
   subst hcs;have hlm:len<=m:=by rw[hmm];split<;>omega
   obtain ⟨f,hf⟩:=choose_lt (α:=Int) (n:=len) (p:=fun i q=>(a.add i).spot=none/\W.cell? ⟨(a.add i).block,(a.add i).off,none⟩=some (.int .i64 q)/\Jgf q) (fun i hi=>by
    obtain⟨cs,h1,h2⟩:=hx i (by omega);rw[Jg9]at h1;rw[Nat.mul_one]at h1;obtain⟨_,hlen,hcell⟩:=World.cells?_some h1
    match cs,hlen with
    | [c0],_ =>
     obtain⟨A,e0,_,w0⟩:=DataW.trod_int Tryz.underlying3 h2;simp only[List.cons.injEq,and_true]at e0;subst e0;have k0:=hcell 0 (by omega);generalize a.add i=a' at *;obtain⟨b,o,spot⟩:=a';have hspot:spot=none:=by simpa[Addr.add] using World.cell?_spot (show W.cell? ((⟨b,o,spot⟩:Addr).add 0)=some (.int .i64 A) from k0)
     subst hspot;rw[Addr.add_lit]at k0;have num:Jgf A:=by
      unfold Jgf;simp[Lit.wf,IntKind.min,IntKind.max,IntKind.signed,IntKind.bits]at w0;omega
     exact⟨A,rfl,k0,num⟩)
   have hlen:((List.range len).map f).length=len:=by simp
   refine⟨(List.range len).map f,⟨some a,cap,by rw[hlen],by rw[hlen];exact hl,hm,fun hne=>?_⟩,?_⟩
   . have hpos:0<len:=by
       cases len with
       | zero=>exact absurd rfl hne
       | succ n=>exact Nat.succ_pos n
     obtain⟨b,o,spot⟩:=a;have hs0:=(hf 0 hpos).1;have hspot:spot=none:=by simpa[Addr.add] using hs0
     subst hspot;refine⟨b,o,rfl,?_,fun i q hi=>?_⟩
     . have:=blt W _ (hf 0 hpos).2.1
       rw[Addr.add_lit]at this;exact this
     . have hil:i<len:=by have:=(llt hi);rw[hlen]at this;exact this
       have e:q=f i:=by
        rw[List.getElem?_map,List.getElem?_range hil]at hi;exact(osi hi).symm
       subst e;have k:=(hf i hil).2.1;rw[Addr.add_lit]at k;exact k
   . intro q hq
     obtain⟨i,hi,rfl⟩:=List.mem_map.1 hq;exact(hf i (List.mem_range.1 hi)).2.2
end
section
open Go.RowKit Go.Maps
variable {w w0 w' : World}{lo k r bx bmx : Nat}{v : Value}{bs : List Nat}{l0 : Int}{D : List (List UInt8)}{R : Rm}
theorem JnJ(s:List UInt8)(hs:s.length<=1000000)(hsc:(scan s).2=false)(w:World)(hT:Lib.Utf8Tabs 2 3 w):Calls Tryz.prog 78 #[.string ⟨s.toArray⟩] w fun e w'=>∃b,e=.returned (.tuple #[.agg #[.int .i64 0,.int .i64 0,.int .i64 0,.int .i64 0],.iface 273 (.pointer (some ⟨b,0,none⟩))])/\Below w.heap.size w w' :=
 (JcK ⟨s.toArray⟩ (by simp[ByteArray.size];omega) w hT).mono fun e w' ⟨v,x,h1,h2,h3⟩=>by
   have e0:(ByteArray.mk s.toArray).data.toList=s:=rfl;rw[e0]at h3
   rcases h3 with ⟨h4,_⟩|⟨_,rfl,b,rfl,_⟩
   . rw[hsc]at h4;cases h4
   . exact⟨b,h1,h2⟩
theorem JqW:(Tryz.prog.info? 3).map (fun i=>(i.zero,i.size,i.bytes))=some (some (.int .i64 0),1,8):=by kernel_rfl
def Jh6 (us:List Int):List Value:=us.map fun u=>.int .i64 u
theorem JqT{n:Nat}{us:List Int}(h:w.ownsRow lo 3 1 v n (Jh6 us)):Jfe w v us:=by
 have hl:=h.1;have hn:us.length=n:=by unfold Jh6 at hl;simpa using hl
 obtain⟨p,c,rfl⟩:=Jad h
 rcases h.2 with ⟨e,h0⟩|⟨g,cap,cur,e,h1,h2,h3,h4,h5,h6⟩
 . injection e with e1 _ e3
   subst e1 e3 h0;exact⟨none,0,by rw[hn],by omega,Nat.zero_le _,fun hne=>absurd (List.length_eq_zero_iff.1 hn) hne⟩
 . injection e with e1 _ e3
   subst e1 e3;refine⟨_,c,by rw[hn],by omega,h4,fun hne=>⟨g,0,rfl,(alt h2),fun i u hu=>?_⟩⟩;obtain⟨g',e',_,hc⟩:=JgR h (k:=i) (u:=.int .i64 u) (by unfold Jh6;rw[List.getElem?_map,hu];rfl);injection e' with e'
   injection e' with e'
   subst e';rw[Nat.zero_add];exact hc
theorem JlZ(us:List Int)(u:Int):Jh6 us++[.int .i64 u]=Jh6 (us++[u]):=by unfold Jh6;simp
structure UI (lo:Nat) (w0:World) (k:Nat) (v:Value) (w:World):Prop where
 row:∃us,us.length=k/\(∀u∈us,Ja3 u)/\w.ownsRow lo 3 1 v k (Jh6 us)
 low:Below lo w0 w
 le:lo<=w.heap.size
theorem UI.grow(h:UI lo w0 k v w)(hb:Below w.heap.size w w'):UI lo w0 k v w':=by
 obtain⟨us,h1,h2,h3⟩:=h.row;exact⟨⟨us,h1,h2,Jaj h3 hb⟩,h.low.trans (hb.mono h.le),Nat.le_trans h.le hb.size⟩
structure Rl (lo:Nat) (w0:World) (r bx bmx:Nat) (bs:List Nat) (l0:Int) (k:Nat) (D:List (List UInt8)) (R:Rm) (w:World):Prop where
 room:isRoom lo w r bx bmx bs R
 low:Below lo w0 w
 env:Env lo w
 le:lo<=w.heap.size
 inv:∃n:Int,n<=k/\Inv l0 n D R
 inv2:Inv2 R
 pot:potR R<=2400*k
theorem Rl.grow(h:Rl lo w0 r bx bmx bs l0 k D R w)(hb:Below w.heap.size w w'):Rl lo w0 r bx bmx bs l0 k D R w':=⟨Jap h.room hb,h.low.trans (hb.mono h.le),h.env.below hb,Nat.le_trans h.le hb.size,h.inv,h.inv2,h.pot⟩
theorem Rl.plays(h:Rl lo w0 r bx bmx bs l0 k D R w)(hk:k<=1000)(h1:1<=bs.length)(h6:bs.length<=6)(q:Sa)(hq:JhW q)(v:Value)(hv:opAt w v q.op) :
    Calls Tryz.prog 79 #[.pointer (some ⟨r,0,none⟩),.int .i64 (bs.length:Int),.agg #[.int .i64 q.a,.int .i64 q.b,.int .i64 q.c,v]] w fun e w'=>e=.returned (.bool true)/\∃R' D',Rl lo w0 r bx bmx bs l0 (k+1) D' R' w'/\R'.cl.length=R.cl.length/\Ext D D'/\(q.a≠5->D'=D\/D'=D++[R'.t]):=by
 obtain⟨n,hn,hi⟩:=h.inv;have hp:=h.pot;refine(Jk3 (⟨h.env,h.room,hi,h.inv2,by omega,by omega,h1,h6⟩:Rok lo w r bx bmx bs l0 n D R) q.a q.b q.c hq.1.2.1 hq.1.2.2 v q.op hv (fun p hp hs=>hq.2 p hp (by omega))).mono ?_
 rintro e w' ⟨rfl,hs,R',hr,n',D',c1,c2,c3,c4,c5,c6,c7⟩;exact⟨rfl,R',D',⟨hr,Je7 h.low h.le hs,h.env.room hs,Nat.le_trans h.le hs.size,⟨n',by omega,c1⟩,c2,by omega⟩,c5,c6,c7⟩
theorem Rl.quiet{lo:Nat}{w0:World}{r bx bmx:Nat}{bs:List Nat}{l0:Int}{k:Nat}{D:List (List UInt8)}{R:Rm}{w:World}(h:Rl lo w0 r bx bmx bs l0 k D R w)(hk:k<=1000)(h6:bs.length<=6) :
    Calls Tryz.prog 71 #[.pointer (some ⟨r,0,none⟩)] w fun e w'=>e=.returned (.tuple #[])/\∃D',Rl lo w0 r bx bmx bs l0 (k+1) D' (Jc7 l0 R) w':=by
 obtain⟨n,hn,hi⟩:=h.inv;have hp:=h.pot;obtain⟨D',i1,i2,i3,i4,i5⟩:=hi.quiet;have hl:=h.room.cls.len;refine(Jei h.env h.room hi (by omega) (by omega) (by omega)).mono ?_
 rintro e w' ⟨rfl,a,hs⟩;exact⟨rfl,D',a,Je7 h.low h.le hs,h.env.room hs,Nat.le_trans h.le hs.size,⟨n,by omega,i1⟩,h.inv2.quiet hi,by omega⟩
theorem Rl.new{s:List UInt8}(hV:V s)(hs:s.length<=1900){k:Nat}(hk1:1<=k)(hk6:k<=6){v:Value}{w:World}(he:Env lo w)(h:UI lo w0 k v w) :
    Calls Tryz.prog 60 #[.string ⟨s.toArray⟩,v] w fun e w'=>∃r bx bmx bs R,e=.returned (.tuple #[.pointer (some ⟨r,0,none⟩),.nilIface])/\bs.length=k/\R.t=s/\R.cl.length=k/\Rl lo w0 r bx bmx bs (s.length:Int) 0 [s] R w':=by
 obtain⟨us,h1,h2,h3⟩:=h.row;refine(Ji4 s hV (by omega) us h2 (by omega) v lo w he h.le (JqT h3)).mono ?_
 rintro e w' ⟨r,bx,bmx,bs,rfl,a,b,c⟩;obtain⟨i1,i2,i3⟩:=JiG hV (by omega) h2;have hcl:(Jew s us).cl.length=k:=by unfold Jew;simp[h1]
 exact⟨r,bx,bmx,bs,_,rfl,by rw[a.cls.len,hcl],rfl,hcl,a,h.low.trans (b.mono h.le),he.below b,Nat.le_trans h.le b.size,⟨0,by omega,i1⟩,i2,by omega⟩
end
section
open Go.RowKit Go.Maps
theorem env_of(w:World)(hg:JcM w)(hT:Lib.Utf8Tabs 2 3 w):Env w.heap.size w :=
 ⟨hg,hT,blt w ⟨0,0,none⟩ hg,blt w _ (hT.1 0 (by decide)),blt w _ (hT.2 0 (by decide)).1⟩
variable {D : List (List UInt8)}{lo bmx r bx k : Nat}{bs : List Nat}{R : Rm}{w w' w0 : World}{l0 : Int}
def Jgw (D:List (List UInt8)):List Value:=D.map fun d=>.string ⟨d.toArray⟩
theorem Jlr(D:List (List UInt8))(d:List UInt8):Jgw D++[.string ⟨d.toArray⟩]=Jgw (D++[d]):=by unfold Jgw;simp
theorem Jir{i:Nat}{d:List UInt8}(h:D[i]?=some d):(Jgw D)[i]?=some (.string ⟨d.toArray⟩):=by unfold Jgw;rw[List.getElem?_map,h];rfl
theorem JmJ:¬Jju 9:=by unfold Jju;decide
theorem JoN{n:Nat}{v:Value}{xs:List Value}(hr:isRoom lo w r bx bmx bs R)(h:w.ownsRow lo 9 1 v n xs)(hs:sameBut w w' (Jbg lo w bmx)):w'.ownsRow lo 9 1 v n xs :=
 Jc4 h hs fun k hk e=>by
  obtain⟨_,_,cs,hc⟩:=JcF h hk
  rcases e.2 with rfl|⟨cs',T',hc',hT⟩
  . exact Jby hr.srv.2.2.2 _ _ _ hc
  . have:=JaG hc hc'
    subst this;exact JmJ hT
theorem Rl.row(h:Rl lo w0 r bx bmx bs l0 k D R w){v:Value}{n:Nat}{xs:List Value}(ho:w.ownsRow lo 9 1 v n xs)(hg:w.grownBy w' v.ownBlock):Rl lo w0 r bx bmx bs l0 k D R w':=by
 have hs:sameBut w w' fun k=>v.ownBlock=some k:=JaP hg fun k e=>e
 have hX:∀k,v.ownBlock=some k->lo<=k/\∃cs,w.heap[k]?=some (.cells cs 9 (0,0)):=fun k hk=>⟨(JcF ho hk).1,(JcF ho hk).2.2⟩
 refine⟨JiD h.room hs fun k hlt hk=>?_,h.low.trans ⟨hs.os,hs.tape,hs.output,hs.size,fun k hlt=>hs.block k (Nat.lt_of_lt_of_le hlt h.le) fun e=>absurd (hX k e).1 (Nat.not_le.2 hlt)⟩,h.env.same hs fun k hk=>(hX k hk).1,Nat.le_trans h.le hs.size,h.inv,h.inv2,h.pot⟩;obtain⟨a,cs,hc⟩:=hX k hk;refine⟨a,JaA hc (by decide),fun e=>?_,fun cs' T fz hc' hT=>?_⟩
 . subst e;exact Jby h.room.srv.2.2.2 _ _ _ hc
 . have:=JaG hc hc'
   subst this;exact JmJ hT
structure Sn (lo:Nat) (w0:World) (r bx bmx:Nat) (bs:List Nat) (l0:Int) (k:Nat) (D:List (List UInt8)) (R:Rm) (v:Value) (w:World):Prop where
 rl:Rl lo w0 r bx bmx bs l0 k D R w
 was:w.ownsRow lo 9 1 v D.length (Jgw D)
theorem Sn.grow{lo:Nat}{w0:World}{r bx bmx:Nat}{bs:List Nat}{l0:Int}{k:Nat}{D:List (List UInt8)}{R:Rm}{v:Value}{w w':World}(h:Sn lo w0 r bx bmx bs l0 k D R v w)(hb:Below w.heap.size w w'):Sn lo w0 r bx bmx bs l0 k D R v w':=⟨h.rl.grow hb,Jaj h.was hb⟩
theorem Rl.later{k':Nat}(h:Rl lo w0 r bx bmx bs l0 k D R w)(hk:k<=k'):Rl lo w0 r bx bmx bs l0 k' D R w :=
 ⟨h.room,h.low,h.env,h.le,by obtain⟨n,a,b⟩:=h.inv;exact⟨n,by omega,b⟩,h.inv2,by have:=h.pot;omega⟩
theorem Sn.plays{u:Value}(H:Sn lo w0 r bx bmx bs l0 k D R u w)(hk:k<=1000)(h1:1<=bs.length)(h6:bs.length<=6)(q:Sa)(hq:JhW q)(h5:q.a≠5)(v:Value)(hv:opAt w v q.op) :
    Calls Tryz.prog 79 #[.pointer (some ⟨r,0,none⟩),.int .i64 (bs.length:Int),.agg #[.int .i64 q.a,.int .i64 q.b,.int .i64 q.c,v]] w fun e w'=>e=.returned (.bool true)/\∃R' D',Rl lo w0 r bx bmx bs l0 (k+1) D' R' w'/\R'.cl.length=R.cl.length/\(D'=D\/D'=D++[R'.t])/\w'.ownsRow lo 9 1 u D.length (Jgw D):=by
 have h:=H.rl;obtain⟨n,hn,hi⟩:=h.inv;have hp:=h.pot;refine(Jk3 (⟨h.env,h.room,hi,h.inv2,by omega,by omega,h1,h6⟩:Rok lo w r bx bmx bs l0 n D R) q.a q.b q.c hq.1.2.1 hq.1.2.2 v q.op hv (fun p hp hs=>hq.2 p hp (by omega))).mono ?_
 rintro e w' ⟨rfl,hs,R',hr,n',D',c1,c2,c3,c4,c5,c6,c7⟩;exact⟨rfl,R',D',⟨hr,Je7 h.low h.le hs,h.env.room hs,Nat.le_trans h.le hs.size,⟨n',by omega,c1⟩,c2,by omega⟩,c5,c7 h5,JoN h.room H.was hs⟩
theorem Rl.docs{lo:Nat}{w0:World}{r bx bmx:Nat}{bs:List Nat}{l0:Int}{k:Nat}{D:List (List UInt8)}{R:Rm}{w:World}(h:Rl lo w0 r bx bmx bs l0 k D R w):D.length=R.E.length+1/\D[R.E.length]?=some R.t/\V R.t/\R.t.length<=2000/\R.E.length<=300:=by
 obtain⟨n,_,i⟩:=h.inv;exact⟨i.docs.len,i.docs.last,i.srv.text,i.srv.room,i.few⟩
theorem Rl.client(h:Rl lo w0 r bx bmx bs l0 k D R w){c:Nat}(hc:c<R.cl.length):0<=(clK R c).2.rev/\(clK R c).2.rev<(D.length:Int)/\D[(clK R c).2.rev.toNat]?=some (clK R c).2.seen/\((clK R c).2.mine=[]->(clK R c).2.doc=(clK R c).2.seen):=by
 obtain⟨n,_,i⟩:=h.inv;obtain⟨_,q⟩:=i.clk hc;refine⟨q.rev,?_,q.seen,fun e=>?_⟩
 . have:=(llt q.seen)
   have:=q.rev;omega
 . rw[q.ok.doc,e];rfl
end
section
open Go.RowKit Go.Maps
attribute [local go_sem] Oper.semAt_some Ja2 JaV
theorem JoL(s:List UInt8)(v1 v2:Value)(zs:List Int)(l:List Sa)(w:World)(he:Env w.heap.size w)(h1:Jfe w v1 zs)(hzn:∀z∈zs,Jgf z)(h2:Ji3 w v2 l)(hwf:∀q∈l,JhW q)(hs:s.length<=500)(hz1:1<=zs.length)(hz6:zs.length<=5)(hl:l.length<=60)(hV:V s) :
    Calls Tryz.prog 9 #[.string ⟨s.toArray⟩,v1,v2] w fun e w'=>e=.returned (.bool true)/\Below w.heap.size w w':=by
 have hzs:(ByteArray.mk s.toArray).size=s.length:=by simp[ByteArray.size]
 have hsc:=Jjc hV;have CM:Hid (Calls Tryz.prog 77 #[] w fun e w'=>e=.returned (.bool true)/\Below w.heap.size w w'):=Jpp w he;have CC:Hid (∀wx,Below w.heap.size w wx->Calls Tryz.prog 78 #[.string ⟨s.toArray⟩] wx fun e w'=>∃n1 n2 n3 n4,e=.returned (.tuple #[.agg #[.int .i64 n1,.int .i64 n2,.int .i64 n3,.int .i64 n4],.nilIface])/\Below wx.heap.size wx w'):=fun wx hb=>Je0 s (by omega) hsc wx (he.below hb).tabs
 obtain⟨p1,c1,rfl,a1,a2,a3⟩:=h1;obtain⟨p2,c2,rfl,d1,d2,d3⟩:=h2;have HZS:=hdz a3;have HZN:Hid (∀z∈zs,Jgf z):=hzn;have HL:=hdz d3;have HWF:Hid (∀q∈l,JhW q):=hwf;obtain⟨N,hN⟩:∃N,zs.length=N:=⟨_,rfl⟩;have HN:Hid (zs.length=N):=hN;obtain⟨M,hM⟩:∃M,l.length=M:=⟨_,rfl⟩;have HM:Hid (l.length=M):=hM;rw[hN]at a1 hz1 hz6 ⊢;rw[hM]at d1 hl ⊢;unfold maxLen at a2 d2;have q1:¬(500:Int)<(s.length:Int):=by omega
 have q2:¬(60:Int)<(M:Int):=by omega
 have q3:¬(N:Int)<1:=by omega
 have q4:¬(5:Int)<(N:Int):=by omega
 have CN:Hid (∀wx v,UI w.heap.size w N v wx->Calls Tryz.prog 60 #[.string ⟨s.toArray⟩,v] wx fun e w'=>∃r bx bmx bs R,e=.returned (.tuple #[.pointer (some ⟨r,0,none⟩),.nilIface])/\bs.length=N/\R.t=s/\R.cl.length=N/\Rl w.heap.size w r bx bmx bs (s.length:Int) 0 [s] R w'):=fun wx v h=>Rl.new hV (Nat.le_trans hs (by decide)) hz1 (Nat.le_trans hz6 (by decide)) (Env.mk (JeH he.lay (h.low)) (Go.Proofs.Utf8Tabs_below he.tabs h.low) he.g1 he.g2) h
 obtain⟨i0,hi0,hq0,hq1,hq2⟩:=info_parts JqW;have hMi:(M:Int)<=60:=by omega
 have hN1:1<=N:=hz1;have hN6:N<=6:=by omega
 clear he hzn hwf hs hV hsc a3 d3 hN hM
 go_enter Tryz.func9,Tryz.ntmps9
 go_wp2_with (first
  | (go_at_call 77;refine Calls.mono CM.out ?_;rintro e w1 ⟨rfl,hb1⟩;have HW1:=hdz hb1;clear hb1)
  | (go_at_call 78;refine(CC.out _ HW1.out).mono ?_;rintro e w2 ⟨n1,n2,n3,n4,rfl,hb2⟩;have HW2:Hid (∀o,Below w.heap.size w (w2.alloc o)):=fun o=>(HW1.out.trans (hb2.mono HW1.out.size)).alloc (Nat.le_trans HW1.out.size hb2.size) o;clear hb2)
  | fail)
 have HB2:Hid (Below w.heap.size w (w2.alloc (.cells #[.int .i64 n1,.int .i64 n2,.int .i64 n3,.int .i64 n4] 25))):=HW2.out _;clear HW2;generalize w2.alloc (.cells #[.int .i64 n1,.int .i64 n2,.int .i64 n3,.int .i64 n4] 25)=W2 at *
 go_loopw [9,10] (fun uv i wr=>∃k:Nat,i=.int .i64 k/\k<=N/\UI w.heap.size w k uv wr/\∀j,uv.ownBlock=some j->w.heap.size<=j) (fun _ i _=>N - (intOf i).toNat)
 case atStart=>exact⟨0,rfl,Nat.zero_le _,⟨⟨[],rfl,(fun u hu=>by cases hu),World.ownsRow_nil _ _ _ _⟩,HB2.out,HB2.out.size⟩,fun j hj=>by cases hj⟩
 case round =>
  obtain⟨k,rfl,hk,h1,h3⟩:=hrel;have HI1:=hdz h1;have HOWN:=hdz h3;have hki:(k:Int)<=6:=by omega
  by_cases hlt:k<N
  . have hki2:(k:Int)<(N:Int):=by omega
    have hkul:k<zs.length:=by rw[HN.out];exact hlt
    have hku:zs[k]?=some zs[k]:=lgg hkul;have hne:zs≠[]:=fun e=>by have:=HN.out;rw[e]at this;simp at this;omega
    obtain⟨b0,o,rfl,hb0,hat⟩:=HZS.out hne;have g0:=(HI1.out.low.cell (p:=⟨b0,o+k,none⟩) hb0).trans (hat k _ hku);obtain⟨pk0,hpk,PK⟩:=JbM zs[k] 3 (HZN.out _ (List.getElem_mem hkul)) (by decide) (by decide);generalize zs[k]=z at *;have HPK:=hdz PK;have hp2:(pk0:Int)<=2:=by omega
    obtain⟨us,e1,e2,e3⟩:=h1.row;obtain⟨pc,cc,evc⟩:=Jad e3;subst evc;have HROW:=hdz e3;have HUL:Hid (us.length=k):=e1;have HUO:Hid (∀u∈us,Ja3 u):=e2;clear h1 h3 hat hku hne PK e1 e2 e3 hkul
    go_wp2_with (first
     | (go_at_call 20;refine(HPK.out _).mono ?_;rintro e w3 ⟨rfl,hb3⟩;have HI3:Hid _:=HI1.out.grow hb3;have HR3:Hid _:=Jaj HROW.out hb3;clear hb3)
     | (at_builtin;have hba:Below w3.heap.size w3 (w3.alloc (.cells #[.int .i64 (1+(pk0:Int))] 3)):=(brf _ _).alloc (nlr _) _;have HIA:Hid _:=HI3.out.grow hba;have HRA:=Jaj HR3.out hba;have HSZ:Hid (w.heap.size<=(w3.alloc (.cells #[.int .i64 (1+(pk0:Int))] 3)).heap.size):=HIA.out.le;refine Jcq _ rfl _ _ 111 rfl w.heap.size 3 i0 (.int .i64 0) 1 8 Tryz.underlying111 hi0 hq0 hq1 hq2 rfl (by decide) _ _ _ rfl HRA ⟨w3.heap.size,0,none⟩ 1 1 [.int .i64 (1+(pk0:Int))] rfl rfl (JlR _ _ _) (fun u hu=>by rw[List.mem_singleton.1 hu];rfl) (by unfold maxLen;omega) (by omega) HSZ.out (by omega) ?_
        clear hba HRA)
     | fail)
    intro v2 w6 hown' hg' hvn;rw[JlZ]at hown';have HI6:Hid (UI w.heap.size w (k+1) v2 w6):=⟨⟨_,by rw[List.length_append,HUL.out];rfl,fun u hu=>by
     rcases List.mem_append.1 hu with hu|hu
     . exact HUO.out u hu
     . rw[List.mem_singleton.1 hu];unfold Ja3;omega,hown'⟩,HIA.out.low.grown hg' HSZ.out (fun j hj=>HOWN.out j hj),Nat.le_trans HSZ.out hg'.size⟩
    have HVN:Hid (∀j,v2.ownBlock=some j->w.heap.size<=j):=fun j hj=>(hvn j hj).elim (HOWN.out j) fun h=>by have h1:=HSZ.out;rw[wsa]at h1;have h:w3.heap.size+1<=j:=h;omega
    obtain⟨p6,c6,rfl⟩:=Jad hown';clear hown' hg' hvn;go_wp2
    go_roundw
    case rel=>exact⟨k+1,by go_num,by omega,HI6.out,HVN.out⟩
    case measure=>simp[intOf];omega
  . obtain rfl : k = N:=by omega
    have hki2:¬((k:Int)<(k:Int)):=by omega
    obtain⟨pu,cu,euv⟩:=Jad h1.row.choose_spec.2.2;subst euv;clear h1 h3
    go_wp2_with (first
     | (go_at_call 60;refine(CN.out _ _ HI1.out).mono ?_;rintro e w3 ⟨r,bx,bmx,bs,R0,rfl,e1,e2,e3,h3⟩;have HBN:Hid (bs.length=k):=e1;have HCN:Hid (R0.cl.length=k):=e3;have HR3:=hdz h3;clear e1 e2 e3 h3)
     | fail)
    have HST:Hid (Sn w.heap.size w r bx bmx bs (s.length:Int) 0 [s] R0 (.slice (some ⟨w3.heap.size,0,none⟩) 1 1) (w3.alloc (.cells #[.string ⟨s.toArray⟩] 9))):=⟨HR3.out.grow ((brf _ _).alloc (nlr _) _),World.ownsRow_lit w3 #[.string ⟨s.toArray⟩] 1 HR3.out.le (by decide) rfl⟩
    go_upto_region 18 with (fail)
    generalize w3.alloc (.cells #[.string ⟨s.toArray⟩] 9)=W3 at *;clear HR3
    go_loopw [13,14] (fun uw i wr=>∃m:Nat,i=.int .i64 m/\m<=M/\∃D R,Sn w.heap.size w r bx bmx bs (s.length:Int) m D R uw wr/\R.cl.length=k) (fun _ i _=>M - (intOf i).toNat)
    case atStart=>exact⟨0,rfl,Nat.zero_le _,_,_,HST.out,HCN.out⟩
    case round =>
     obtain⟨m,rfl,hm,D,R,h4,h5⟩:=hrel;have HS4:=hdz h4;have HC4:Hid (R.cl.length=k):=h5;have hmi:(m:Int)<=60:=by omega
     obtain⟨pw,cw,euw⟩:=Jad h4.was;subst euw;obtain⟨dl,dlast,dV,dt,dE⟩:=h4.rl.docs
     by_cases hmlt:m<M
     . as_aux_lemma =>
       have hmi2:(m:Int)<(M:Int):=by omega
       have hml:m<l.length:=by rw[HM.out];exact hmlt
       have hlq:l[m]?=some l[m]:=lgg hml;have hne:l≠[]:=fun e=>by have:=HM.out;rw[e]at this;simp at this;omega
       obtain⟨b2,o2,rfl,hb2,hat2⟩:=HL.out hne;obtain⟨f0,f1,f2,v',f3,hop⟩:=hat2 m _ hlq;have g0:=(h4.rl.low.cell (p:=⟨b2,o2+m*4,none⟩) hb2).trans f0;have g1:=(h4.rl.low.cell (p:=⟨b2,o2+m*4+1,none⟩) hb2).trans f1;have g2:=(h4.rl.low.cell (p:=⟨b2,o2+m*4+2,none⟩) hb2).trans f2;have g3:=(h4.rl.low.cell (p:=⟨b2,o2+m*4+3,none⟩) hb2).trans f3;have HWQ:Hid (JhW l[m]):=HWF.out _ (List.getElem_mem hml);have HOPW:Hid (opAt wr v' l[m].op):=Ja6 hop h4.rl.low (nlr _);obtain⟨pv,cv,rfl,_⟩:=hop;generalize l[m]=q at *;obtain⟨qa,qb,qc,qo⟩:=q;simp only at g0 g1 g2 g3 HOPW;have HDL:Hid (D.length=R.E.length+1):=dl;clear hat2 f0 f1 f2 f3 hlq hne h4 h5 dl dlast dV dt
       by_cases q5:qa=5
       . as_aux_lemma =>
         subst q5;have HS5:Hid (∀o,Sn w.heap.size w r bx bmx bs (s.length:Int) (m+1) D R (.slice pw D.length cw) (wr.alloc o)):=fun o=>have h:=HS4.out.grow ((brf _ _).alloc (nlr _) o);⟨h.rl.later (Nat.le_succ _),h.was⟩
         go_wp2
         go_roundw
         case rel=>exact⟨m+1,by go_num,by omega,D,R,HS5.out _,HC4.out⟩
         case measure=>simp[intOf];omega
       . as_aux_lemma =>
         have q5':(qa==5)=false:=beq_eq_false_iff_ne.2 q5;have CP:Hid (∀o,Calls Tryz.prog 79 #[.pointer (some ⟨r,0,none⟩),.int .i64 (k:Int),.agg #[.int .i64 qa,.int .i64 qb,.int .i64 qc,.slice pv qo.length cv]] (wr.alloc o) fun e w'=>e=.returned (.bool true)/\∃R' D',Rl w.heap.size w r bx bmx bs (s.length:Int) (m+1) D' R' w'/\R'.cl.length=R.cl.length/\(D'=D\/D'=D++[R'.t])/\w'.ownsRow w.heap.size 9 1 (.slice pw D.length cw) D.length (Jgw D)):=fun o=>by
          have hb:=(brf wr.heap.size wr).alloc (nlr _) o;have:=(HS4.out.grow hb).plays (by omega) (by rw[HBN.out];exact hN1) (by rw[HBN.out];exact hN6) ⟨qa,qb,qc,qo⟩ HWQ.out q5 (.slice pv qo.length cv) (Ja6 HOPW.out hb (nlr _));rw[HBN.out]at this;exact this
         go_upto_region 24 with (first
          | (go_at_call 79;refine(CP.out _).mono ?_;rintro e w4 ⟨rfl,R',D',a1',a2',a3',a4'⟩;have HR5:Hid _:=a1';have HC5:Hid (R'.cl.length=k):=a2'.trans HC4.out;have H35:Hid (D'=D\/D'=D++[R'.t]):=a3';have HW5:Hid _:=a4';clear a1' a2' a3' a4')
          | fail)
         clear g0 g1 g2 g3 q5 q5';have CRV:Hid _:=JoP HR5.out.room;have CTX:Hid (∀wx,Below w4.heap.size w4 wx->Calls Tryz.prog 75 #[.pointer (some ⟨r,0,none⟩)] wx fun e w'=>e=.returned (.string ⟨R'.t.toArray⟩)/\Below wx.heap.size wx w'):=fun wx hbx=>JeO (Jap HR5.out.room hbx)
         have hDL:=HDL.out;obtain⟨dl',dlast',_,_,dE'⟩:=HR5.out.docs;have H5D:Hid (D'.length=R'.E.length+1):=dl';have hEi:(R'.E.length:Int)<=300:=by omega
         have hDi:(D.length:Int)<=302:=by omega
         have hD1:1<=(D.length:Int):=by omega
         clear hDL dl' dlast' dE' dE
         go_upto_block 4 with (first
          | (go_at_call 76;refine Calls.mono CRV.out ?_;rintro e x1 ⟨rfl,hx⟩;have HX1:=hdz hx;clear hx)
          | fail)
         go_cut [13] from 77 to 173 (fun v13 wc=>∃D2,Sn w.heap.size w r bx bmx bs (s.length:Int) (m+1) D2 R' v13 wc)
         case first =>
          as_aux_lemma =>
          rcases H35.out with e|e
          . subst e
            have dl':=H5D.out;have t1:((R'.E.length:Int)==(D'.length:Int))=false:=beq_eq_false_iff_ne.2 (by omega);have t2:((R'.E.length:Int)==(D'.length:Int) - 1)=true:=by rw[beq_iff_eq];omega
            have t3:¬(R'.E.length:Int)=(D'.length:Int):=by omega
            have t4:(R'.E.length:Int)=(D'.length:Int) - 1:=by omega
            have HF:Hid (Sn w.heap.size w r bx bmx bs (s.length:Int) (m+1) D' R' (.slice pw D'.length cw) x1):=(⟨HR5.out,HW5.out⟩:Sn w.heap.size w r bx bmx bs (s.length:Int) (m+1) D' R' (.slice pw D'.length cw) w4).grow HX1.out;clear CRV CTX HR5 HW5 H35 dl' H5D;generalize (R'.E.length:Int)=EL at *;go_wp2
            go_meet
            case rel=>exact⟨_,HF.out⟩
          . subst e
            have dl':=H5D.out;have hEe:R'.E.length=D.length:=by rw[List.length_append,List.length_singleton]at dl';omega
            have HB1:=HX1.out;have HROW:Hid _:=Jaj HW5.out HX1.out;have HRX:Hid _:=HR5.out.grow HX1.out;have HLO:Hid (w.heap.size<=x1.heap.size):=HRX.out.le;obtain⟨i0,hi0,hq0,hq1,hq2⟩:=info_parts JqU;rw[hEe];clear dl' hEe HB1 hEi H35 H5D
            go_wp2_with (first
             | (go_at_call 75;refine(CTX.out _ HX1.out).mono ?_;rintro e x2 ⟨rfl,hx⟩;have HX2:=hdz hx;clear hx)
             | (at_builtin;have hba:Below x1.heap.size x1 (x2.alloc (.cells #[.string ⟨R'.t.toArray⟩] 9)):=HX2.out.trans (((brf _ _).alloc (nlr _) _).mono HX2.out.size);have HRA:=Jaj HROW.out hba;have HRL:Hid _:=HRX.out.grow hba;have HRO:=hdz HRA;refine Jcq _ rfl _ _ 80 rfl w.heap.size 9 i0 (.string ⟨#[]⟩) 1 16 Tryz.underlying80 hi0 hq0 hq1 hq2 rfl (by decide) _ _ _ rfl HRA ⟨x2.heap.size,0,none⟩ 1 1 [.string ⟨R'.t.toArray⟩] rfl rfl (JlR _ _ _) (fun u hu=>by rw[List.mem_singleton.1 hu];rfl) (by unfold maxLen;omega) (by omega) (Nat.le_trans HLO.out hba.size) (by omega) ?_
                clear hba HRA)
             | fail)
            intro v2 w6 hown' hg' hvn;rw[Jlr]at hown';have HF:Hid (Sn w.heap.size w r bx bmx bs (s.length:Int) (m+1) (D++[R'.t]) R' v2 w6):=⟨HRL.out.row HRO.out hg',by rw[List.length_append];exact hown'⟩;obtain⟨p6,c6,rfl⟩:=Jad hown';clear hown' hg' hvn;go_wp2
            go_meet
            case rel=>exact⟨_,HF.out⟩
         case rest =>
          as_aux_lemma =>
          obtain⟨D2,hs2⟩:=hcut;have HS6:=hdz hs2;clear CRV CTX HR5 HW5 H35 H5D hEi hDi hD1 HDL HX1 HS4 HOPW;obtain⟨p7,c7,ev7⟩:=Jad hs2.was;subst ev7;obtain⟨dl,dlast,dV,dt,dE⟩:=hs2.rl.docs;have HROW6:=hdz hs2.was;have CTX:Hid (∀wx,Below wc.heap.size wc wx->Calls Tryz.prog 75 #[.pointer (some ⟨r,0,none⟩)] wx fun e w'=>e=.returned (.string ⟨R'.t.toArray⟩)/\Below wx.heap.size wx w'):=fun wx hbx=>JeO (Jap hs2.rl.room hbx)
          have CCT:Hid (∀wx,Below wc.heap.size wc wx->Calls Tryz.prog 78 #[.string ⟨R'.t.toArray⟩] wx fun e w'=>∃n1 n2 n3 n4,e=.returned (.tuple #[.agg #[.int .i64 n1,.int .i64 n2,.int .i64 n3,.int .i64 n4],.nilIface])/\Below wx.heap.size wx w'):=fun wx hb=>Je0 R'.t (by omega) (Jjc dV) wx (hs2.rl.env.below hb).tabs
          have htz:(ByteArray.mk R'.t.toArray).size=R'.t.length:=by simp[ByteArray.size]
          have htl:¬(2000:Int)<(R'.t.length:Int):=by omega
          have hDi:(D2.length:Int)<=302:=by omega
          clear hs2 dl dlast dV dt dE
          go_upto_region 33 with (first
           | (go_at_call 75;refine(CTX.out _ (brf _ _)).mono ?_;rintro e x1 ⟨rfl,hx⟩;have HX1:=hdz hx;clear hx)
           | (go_at_call 78;refine(CCT.out _ HX1.out).mono ?_;rintro e x2 ⟨n1,n2,n3,n4,rfl,hx⟩;have HX2:Hid (∀o,Below wc.heap.size wc (x2.alloc o)):=fun o=>(HX1.out.trans (hx.mono HX1.out.size)).alloc (Nat.le_trans HX1.out.size hx.size) o
              clear hx HX1)
           | (go_at_call 75;refine(CTX.out _ (HX2.out _)).mono ?_;rintro e x3 ⟨rfl,hx⟩;have HX3:Hid (Below wc.heap.size wc x3):=(HX2.out _).trans (hx.mono (HX2.out _).size);clear hx)
           | fail)
          have HS7:Hid _:=HS6.out.grow HX3.out;clear HX2 HX3 HS6 HROW6 CTX CCT
          go_loopw [18] (fun i wr=>∃c:Nat,i=.int .i64 c/\c<=k/\Sn w.heap.size w r bx bmx bs (s.length:Int) (m+1) D2 R' (.slice p7 D2.length c7) wr) (fun i _=>k - (intOf i).toNat)
          case atStart=>exact⟨0,rfl,Nat.zero_le _,HS7.out⟩
          case round =>
           as_aux_lemma =>
           obtain⟨c,rfl,hc,h8⟩:=hrel;have HS8:=hdz h8;have hci:(c:Int)<=6:=by omega
           clear HS7
           by_cases hcl:c<k
           . have hci2:(c:Int)<(k:Int):=by omega
             obtain⟨t1,t2,t3,t4⟩:=h8.rl.client (c:=c) (by rw[HC5.out];exact hcl);obtain⟨b,hb,hclc⟩:=Jcy h8.rl.room (k:=c) (by rw[HC5.out];exact hcl);have CC1:Hid _:=Jd0 h8.rl.room hb (by rw[HBN.out];omega);obtain⟨g,egp,hgl,hgc⟩:=JgR h8.was (Jir t3);subst egp;have hrn:(clK R' c).2.rev=((clK R' c).2.rev.toNat:Int):=by omega
             have CR1:Hid (∀wx,Below wr.heap.size wr wx->Calls Tryz.prog 56 #[.pointer (some ⟨b,0,none⟩)] wx fun e w'=>e=.returned (.int .i64 ((clK R' c).2.rev.toNat:Int))/\Below wx.heap.size wx w'):=fun wx hbx=>by
              have:=JkT (JaZ hclc hbx);rw[hrn]at this;exact this
             have HY:Hid (∀wx,Below wr.heap.size wr wx->wx.cell? ⟨g,(clK R' c).2.rev.toNat,none⟩=some (.string ⟨(clK R' c).2.seen.toArray⟩)):=fun wx hbx=>(hbx.cell (p:=⟨g,(clK R' c).2.rev.toNat,none⟩) hgl).trans hgc
             have CS1:Hid (∀wx,Below wr.heap.size wr wx->Calls Tryz.prog 55 #[.pointer (some ⟨b,0,none⟩)] wx fun e w'=>e=.returned (.string ⟨(clK R' c).2.seen.toArray⟩)/\Below wx.heap.size wx w'):=fun wx hbx=>JnP (JaZ hclc hbx)
             have CP1:Hid (∀wx,Below wr.heap.size wr wx->Calls Tryz.prog 58 #[.pointer (some ⟨b,0,none⟩)] wx fun e w'=>e=.returned (.bool (decide (0<(clK R' c).2.mine.length)))/\Below wx.heap.size wx w'):=fun wx hbx=>Jbp (JaZ hclc hbx)
             have CT1:Hid (∀wx,Below wr.heap.size wr wx->Calls Tryz.prog 54 #[.pointer (some ⟨b,0,none⟩)] wx fun e w'=>e=.returned (.string ⟨(clK R' c).2.doc.toArray⟩)/\Below wx.heap.size wx w'):=fun wx hbx=>JeW (JaZ hclc hbx)
             have hr1:¬((clK R' c).2.rev.toNat:Int)<0:=by omega
             have hr2:((clK R' c).2.rev.toNat:Int)<(D2.length:Int):=by omega
             have hr3:¬(D2.length:Int)<=((clK R' c).2.rev.toNat:Int):=by omega
             by_cases hmn:(clK R' c).2.mine=[]
             . have hpd:decide (0<(clK R' c).2.mine.length)=false:=by rw[hmn];rfl
               rw[hpd]at CP1;rw[t4 hmn]at CT1;clear t1 t2 t3 t4 hb hclc hgc hrn hmn hpd h8;generalize (clK R' c).2.rev.toNat=rn at *;generalize (clK R' c).2.seen=sn at *
               go_wp2_with (first
                | (go_at_call 62;refine Calls.mono CC1.out ?_;rintro e x1 ⟨rfl,hx⟩;have HX1:=hdz hx;clear hx)
                | (go_at_call 56;refine(CR1.out _ HX4.out).mono ?_;rintro e x5 ⟨rfl,hx⟩;have HX5:=hdz (HX4.out.trans (hx.mono HX4.out.size));have y5:=HY.out _ HX5.out;clear hx HX4)
                | (go_at_call 56;refine(CR1.out _ HX2.out).mono ?_;rintro e x3 ⟨rfl,hx⟩;have HX3:=hdz (HX2.out.trans (hx.mono HX2.out.size));clear hx HX2)
                | (go_at_call 56;refine(CR1.out _ HX1.out).mono ?_;rintro e x2 ⟨rfl,hx⟩;have HX2:=hdz (HX1.out.trans (hx.mono HX1.out.size));clear hx HX1)
                | (go_at_call 55;refine(CS1.out _ HX7.out).mono ?_;rintro e x8 ⟨rfl,hx⟩;have HX8:=hdz (HX7.out.trans (hx.mono HX7.out.size));clear hx HX7)
                | (go_at_call 55;refine(CS1.out _ HX3.out).mono ?_;rintro e x4 ⟨rfl,hx⟩;have HX4:=hdz (HX3.out.trans (hx.mono HX3.out.size));clear hx HX3)
                | (go_at_call 58;refine(CP1.out _ HX5.out).mono ?_;rintro e x6 ⟨rfl,hx⟩;have HX6:=hdz (HX5.out.trans (hx.mono HX5.out.size));clear hx HX5)
                | (go_at_call 54;refine(CT1.out _ HX6.out).mono ?_;rintro e x7 ⟨rfl,hx⟩;have HX7:=hdz (HX6.out.trans (hx.mono HX6.out.size));clear hx HX6)
                | fail)
               go_roundw
               case rel=>exact⟨c+1,by go_num,by omega,HS8.out.grow HX8.out⟩
               case measure=>simp[intOf];omega
             . have hpd:decide (0<(clK R' c).2.mine.length)=true:=decide_eq_true (List.length_pos_iff.2 hmn)
               rw[hpd]at CP1;clear t1 t2 t3 t4 hb hclc hgc hrn hmn hpd h8 CT1;generalize (clK R' c).2.rev.toNat=rn at *;generalize (clK R' c).2.seen=sn at *
               go_wp2_with (first
                | (go_at_call 62;refine Calls.mono CC1.out ?_;rintro e x1 ⟨rfl,hx⟩;have HX1:=hdz hx;clear hx)
                | (go_at_call 56;refine(CR1.out _ HX4.out).mono ?_;rintro e x5 ⟨rfl,hx⟩;have HX5:=hdz (HX4.out.trans (hx.mono HX4.out.size));have y5:=HY.out _ HX5.out;clear hx HX4)
                | (go_at_call 56;refine(CR1.out _ HX2.out).mono ?_;rintro e x3 ⟨rfl,hx⟩;have HX3:=hdz (HX2.out.trans (hx.mono HX2.out.size));clear hx HX2)
                | (go_at_call 56;refine(CR1.out _ HX1.out).mono ?_;rintro e x2 ⟨rfl,hx⟩;have HX2:=hdz (HX1.out.trans (hx.mono HX1.out.size));clear hx HX1)
                | (go_at_call 55;refine(CS1.out _ HX7.out).mono ?_;rintro e x8 ⟨rfl,hx⟩;have HX8:=hdz (HX7.out.trans (hx.mono HX7.out.size));clear hx HX7)
                | (go_at_call 55;refine(CS1.out _ HX3.out).mono ?_;rintro e x4 ⟨rfl,hx⟩;have HX4:=hdz (HX3.out.trans (hx.mono HX3.out.size));clear hx HX3)
                | (go_at_call 58;refine(CP1.out _ HX5.out).mono ?_;rintro e x6 ⟨rfl,hx⟩;have HX6:=hdz (HX5.out.trans (hx.mono HX5.out.size));clear hx HX5)
                | (go_at_call 54;refine(CT1.out _ HX6.out).mono ?_;rintro e x7 ⟨rfl,hx⟩;have HX7:=hdz (HX6.out.trans (hx.mono HX6.out.size));clear hx HX6)
                | fail)
               go_roundw
               case rel=>exact⟨c+1,by go_num,by omega,HS8.out.grow HX6.out⟩
               case measure=>simp[intOf];omega
           . obtain rfl:c=k:=by omega
             have hci2:¬((c:Int)<(c:Int)):=by omega
             clear h8;go_wp2
             go_roundw
             case rel=>exact⟨m+1,by go_num,by omega,D2,R',HS8.out,HC5.out⟩
             case measure=>simp[intOf];omega
     . as_aux_lemma =>
       obtain rfl:m=M:=by omega
       have hmi2:¬((m:Int)<(m:Int)):=by omega
       obtain⟨g,egp,hgl,hgc⟩:=JgR h4.was (Jir dlast);subst egp;have CTX:Hid (∀wx,Below wr.heap.size wr wx->Calls Tryz.prog 75 #[.pointer (some ⟨r,0,none⟩)] wx fun e w'=>e=.returned (.string ⟨R.t.toArray⟩)/\Below wx.heap.size wx w'):=fun wx hbx=>JeO (Jap h4.rl.room hbx)
       have HY:Hid (∀wx,Below wr.heap.size wr wx->wx.cell? ⟨g,R.E.length,none⟩=some (.string ⟨R.t.toArray⟩)):=fun wx hbx=>(hbx.cell (p:=⟨g,R.E.length,none⟩) hgl).trans hgc
       have hsub:(D.length:Int) - 1=(R.E.length:Int):=by omega
       have hwr:wrap64 ((D.length:Int) - 1)=(R.E.length:Int):=by rw[Ja0 (by omega) (by omega)];exact hsub
       have hlt:(R.E.length:Int)<(D.length:Int):=by omega
       have hDi:(D.length:Int)<=302:=by omega
       have HLW:Hid (Below w.heap.size w wr/\w.heap.size<=wr.heap.size):=⟨h4.rl.low,h4.rl.le⟩;clear h4 h5 dl dlast dV dt dE HS4
       go_upto_region 38 with (fail)
       generalize R.E.length=EN at *;generalize D.length=DN at *;generalize R.t=tt at *;have hwr2:IntKind.i64.wrap (EN:Int)=(EN:Int):=by rw[IntKind.wrap_i64];omega
       refine Jaq (fun wx:World=>wx.cell? ⟨g,EN,none⟩=some (.string ⟨tt.toArray⟩)) 10 10 (by kernel_rfl) rfl ?_
       intro w30 hb30;have hz1:=HY.out w30 hb30;obtain⟨G,hG⟩:=Jax (Z:=fun wx:World=>wx.cell? ⟨g,EN,none⟩=some (.string ⟨tt.toArray⟩)) hz1 (fun {w w'} h hb=>(hb.cell (p:=⟨g,EN,none⟩) (blt w _ h)).trans h);have y0:∀yy,(G yy).cell? ⟨g,EN,none⟩=some (.string ⟨tt.toArray⟩):=fun yy=>hG.but yy
       refine az hG hz1 0 fun _ k=>?_;go_simp;refine k _ ?_;clear k
       refine az hG hz1 2 fun _ k=>?_;go_simp;refine k _ ?_;clear k
       refine az hG hz1 3 fun _ k=>?_;go_simp;refine k _ ?_;clear k
       refine az hG hz1 4 fun _ k=>?_;go_simp;refine k _ ?_;clear k
       refine az hG hz1 5 fun _ k=>?_;go_simp;refine k _ ?_;clear k
       refine az hG hz1 6 fun _ k=>?_;go_simp;refine k _ ?_;clear k
       refine az hG hz1 7 fun _ k=>?_;go_simp;refine k _ ?_;clear k
       clear y0 hG;refine JaF (i:=1) (by kernel_rfl) ⟨_,rfl,?_⟩;intro w31 hb31 K hK;have hbA:=hb30.trans (hb31.mono hb30.size)
       go_simp
       refine(CTX.out w31 hbA).mono ?_
       rintro e w2 ⟨rfl,hx⟩;have HX2:Hid (Below wr.heap.size wr w2):=hbA.trans (hx.mono hbA.size);refine⟨_,rfl,hK _ _ (fun hz=>(hx.cell (p:=⟨g,EN,none⟩) (blt w31 _ hz)).trans hz) ?_⟩;clear hK K hbA hx hb30 hb31 hz1;refine JaF (i:=8) (by kernel_rfl) ⟨_,rfl,?_⟩;intro w32 hb32 K hK
       go_simp
       refine hK _ _ (fun hz=>hz) ?_
       clear hK K;refine JaF (i:=9) (by kernel_rfl) ⟨_,rfl,?_⟩;intro w33 hb33 K hK
       go_simp
       refine hK _ _ (fun hz=>hz) ?_
       clear hK K;refine JaM (by kernel_rfl) ?_
       intro w3 hb3;have hb23:=(hb32.trans (hb33.mono hb32.size)).trans (hb3.mono (hb32.trans (hb33.mono hb32.size)).size);have HFIN:Hid (Below w.heap.size w w3):=HLW.out.1.trans ((HX2.out.trans (hb23.mono HX2.out.size)).mono HLW.out.2);clear hb32 hb33 hb3 hb23;go_wp2;go_ret;exact⟨rfl,HFIN.out⟩
end
section
open Go.RowKit Go.Maps
theorem JoK(s:List UInt8)(v1 v2:Value)(zs:List Int)(l:List Sa)(w:World)(h1:Jfe w v1 zs)(h2:Ji3 w v2 l)(h:500<s.length\/60<l.length\/zs.length<1\/5<zs.length) :
    Calls Tryz.prog 9 #[.string ⟨s.toArray⟩,v1,v2] w fun e w'=>e=.returned (.bool true)/\Below w.heap.size w w':=by
 have hz:(ByteArray.mk s.toArray).size=s.length:=by simp[ByteArray.size]
 obtain⟨p1,c1,rfl,a1,a2,_⟩:=h1;obtain⟨p2,c2,rfl,d1,d2,_⟩:=h2;unfold maxLen at a2 d2
 by_cases q1:500<s.length
 . have q1':(500:Int)<(s.length:Int):=by omega
   clear h q1
   go_enter Tryz.func9,Tryz.ntmps9
   go_wp2;go_ret;exact⟨rfl,brf _ _⟩
 have q1':¬(500:Int)<(s.length:Int):=by omega
 by_cases q2:60<l.length
 . have q2':(60:Int)<(l.length:Int):=by omega
   clear h q1 q2
   go_enter Tryz.func9,Tryz.ntmps9
   go_wp2;go_ret;exact⟨rfl,brf _ _⟩
 have q2':¬(60:Int)<(l.length:Int):=by omega
 by_cases q3:zs.length<1
 . have q3':(zs.length:Int)<1:=by omega
   clear h q1 q2 q3
   go_enter Tryz.func9,Tryz.ntmps9
   go_wp2;go_ret;exact⟨rfl,brf _ _⟩
 . have q3':¬(zs.length:Int)<1:=by omega
   have q4':(5:Int)<(zs.length:Int):=by omega
   clear h q1 q2 q3
   go_enter Tryz.func9,Tryz.ntmps9
   go_wp2;go_ret;exact⟨rfl,brf _ _⟩
theorem Jqx(s:List UInt8)(v1 v2:Value)(zs:List Int)(l:List Sa)(w:World)(he:Env w.heap.size w)(h1:Jfe w v1 zs)(h2:Ji3 w v2 l)(hs:s.length<=500)(hz1:1<=zs.length)(hz6:zs.length<=5)(hl:l.length<=60)(hsc:(scan s).2=false) :
    Calls Tryz.prog 9 #[.string ⟨s.toArray⟩,v1,v2] w fun e w'=>e=.returned (.bool true)/\Below w.heap.size w w':=by
 have hz:(ByteArray.mk s.toArray).size=s.length:=by simp[ByteArray.size]
 obtain⟨p1,c1,rfl,a1,a2,_⟩:=h1;obtain⟨p2,c2,rfl,d1,d2,_⟩:=h2;unfold maxLen at a2 d2;have q1:¬(500:Int)<(s.length:Int):=by omega
 have q2:¬(60:Int)<(l.length:Int):=by omega
 have q3:¬(zs.length:Int)<1:=by omega
 have q4:¬(5:Int)<(zs.length:Int):=by omega
 have CM:Hid (Calls Tryz.prog 77 #[] w fun e w'=>e=.returned (.bool true)/\Below w.heap.size w w'):=Jpp w he;have CC:Hid (∀wx,Below w.heap.size w wx->Calls Tryz.prog 78 #[.string ⟨s.toArray⟩] wx fun e w'=>∃b,e=.returned (.tuple #[.agg #[.int .i64 0,.int .i64 0,.int .i64 0,.int .i64 0],.iface 273 (.pointer (some ⟨b,0,none⟩))])/\Below wx.heap.size wx w'):=fun wx hb=>JnJ s (by omega) hsc wx (he.below hb).tabs
 clear he hsc hs hl hz1 hz6
 go_enter Tryz.func9,Tryz.ntmps9
 go_wp2_with (first
  | (go_at_call 77;refine Calls.mono CM.out ?_;rintro e w1 ⟨rfl,hb1⟩;have HW1:=hdz hb1;clear hb1)
  | (go_at_call 78;refine(CC.out _ HW1.out).mono ?_;rintro e w2 ⟨b,rfl,hb2⟩;have HW2:Hid (∀o,Below w.heap.size w (w2.alloc o)):=fun o=>(HW1.out.trans (hb2.mono HW1.out.size)).alloc (Nat.le_trans HW1.out.size hb2.size) o;clear hb2)
  | fail)
 go_ret;exact⟨rfl,HW2.out _⟩
theorem Jkx(s:ByteArray)(v1 v2:Value)(zs:List Int)(l:List Sa)(w:World)(hg:JcM w)(hT:Lib.Utf8Tabs 2 3 w)(h1:Jfe w v1 zs)(hzn:∀z∈zs,Jgf z)(h2:Ji3 w v2 l)(hwf:∀q∈l,JhW q) :
    Calls Tryz.prog 9 #[.string s,v1,v2] w fun e w'=>e=.returned (.bool true)/\Below w.heap.size w w':=by
 have es:(ByteArray.mk s.data.toList.toArray)=s:=by cases s;simp
 rw[←es];generalize s.data.toList=t
 by_cases h:500<t.length\/60<l.length\/zs.length<1\/5<zs.length
 . exact JoK t v1 v2 zs l w h1 h2 h
 . have he:=env_of w hg hT
   by_cases hsc:(scan t).2=true
   . exact JoL t v1 v2 zs l w he h1 hzn h2 hwf (by omega) (by omega) (by omega) (by omega) (JfQ hsc)
   . exact Jqx t v1 v2 zs l w he h1 h2 (by omega) (by omega) (by omega) (by omega) (by simpa using hsc)
end
end Go.Proofs.YtedgnlgjmnccgabGreatDoor
