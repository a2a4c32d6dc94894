/-
  A part of the texts that the proof uses.
-/
import Derived.Test.YtbkeomcicobohaaGreatDoorPartH
set_option maxRecDepth 100000
set_option maxHeartbeats 40000000
set_option linter.unusedVariables false
namespace Go.Proofs.YtbkeomcicobohaaGreatDoor
open Go.Proofs.Tryz Go.RowKit Go.Maps
section
variable {P : Program} {ops : Array Oper} {md : Region.Mode} {m m' : Nat} {Z Z' : World → Prop} {Q : Exit → Act → World → Prop}
theorem JnU:∀(fuel:Nat)(listed:Array Bool)(a:Act)(w:World),(∀i,i<m->listed.getD i true=true)->anyZ Z' P md ops m' Q fuel listed a w->anyZ Z P md ops m Q fuel listed a w
 | 0,_,_,_,_,h=>h
 | fuel + 1,listed,a,w,hl,h=>by
  refine⟨h.1,λi hi w' hb=>Je2 (λa' w'' h3=>?_) (h.2 i hi w' hb)⟩;refine⟨λhim=>?_,JnU fuel _ a' w'' (λj hj=>?_) h3.2⟩
  . obtain⟨hun,_⟩:=mem_ready.1 hi
    rw[hl i him]at hun
    cases hun
  . by_cases hij:i=j
    . subst hij
      by_cases hs:i<listed.size<;>simp[hs]
    . rw[getD_set_ne true hij];exact hl j hj
theorem JrG{fuel:Nat}{listed:Array Bool}{a:Act}{w:World}(hl:((List.range m).all λi=>listed.getD i true)=true)(h:anyZ (λ_=>True) P md ops ops.size Q fuel listed a w):anyZ Z P md ops m Q fuel listed a w :=
 JnU fuel listed a w (λi hi=>List.all_eq_true.1 hl i (List.mem_range.2 hi)) h
end
theorem JhK{P:Program}{o:Oper}{a:Act}{w w':World}{K:Act->World->Prop}{s x:Operand}{t:TypeId}{v vx v':Value}{y:Nat->Option Bool}(hgd:o.guard=none)(ho:o.op=.call { callee:=.builtin .append,args:=#[s,x],argTypes:=#[t,t] })
    (hs:a.eval s=v) (hx:a.eval x=vx) (hr:(Builtin.append_ #[t,t] o.type #[v,vx]).run P w=.ok v' w') (h:K (a.put o.dst v') w'):if Region.wanted o y then JaD P o a K ((execOp a.eval o).run P w) else K (a.put o.dst undef) w:=by
 have hw:Region.wanted o y=true:=by unfold Region.wanted;rw[hgd]
 rw[if_pos hw];unfold execOp;simp only[ho,resolve,invoke,builtin,Sem.run_bind,Sem.run_pure,Result.andThen_ok,List.map_toArray,List.map_cons,List.map_nil,hs,hx,hr,JaD];exact h
section
attribute [local go_sem] Oper.semAt_some Jaj JaD
variable {lo r bx bmx β cf : Nat}{w w' : World}{bs : List Nat}{R : Rm}{p : Pk}{v : Value}{pf : Option Addr}
theorem JgB:(prog.info? 156).map (λi=>(i.zero,i.size,i.bytes))=some (some (.agg #[I6 0,I6 0,I6 0,I6 0,I6 0,I6 0,.slice none 0 0]),7,72):=by kernel_rfl
theorem Jjg(p:Pk)(q:Option Addr)(n c:Nat):∀u∈JaT p (.slice q n c),u.oneCell'=true:=λu hu=>by
 simp only[JaT,List.mem_cons,List.not_mem_nil,or_false]at hu
 rcases hu with rfl|rfl|rfl|rfl|rfl|rfl|rfl<;>rfl
theorem pk_push(h:isRoom lo w r bx bmx bs R){p:Pk}{vx:Value}(hx:opX lo w vx p.x.op)(hroom:R.fl.length<400){pf:Option Addr}{cf:Nat}(hce:w.cell? (Ad r 2)=some (.slice pf R.fl.length cf)) :
    ∃ vs,vs.length=R.fl.length/\w.ownsRow lo 156 7 (.slice pf R.fl.length cf) R.fl.length (pkC R.fl vs)/\∀w6 v2,w6.ownsRow lo 156 7 v2 (R.fl.length+1) (pkC R.fl vs++JaT p vx)->w.grownBy w6 (Value.slice pf R.fl.length cf).ownBlock->(∀k,v2.ownBlock=some k->(Value.slice pf R.fl.length cf).ownBlock=some k\/w.heap.size<=k)->∀w7,Bw w6 w7 ->
     w7.cell? (Ad r 2)=some (.slice pf R.fl.length cf)/\w7.frozen? (Ad r 2)=false/\isRoom lo (w7.setCell (Ad r 2) v2) r bx bmx bs (JbK R p)/\keptF w (w7.setCell (Ad r 2) v2) r:=by
 obtain⟨pc,cc,pf',cf',h2,h3,h4⟩:=Jb5 h;have e:=hce;rw[chp h2 2]at e;have e:(Value.slice pf' R.fl.length cf')=.slice pf R.fl.length cf:=by
  have:some (Value.slice pf' R.fl.length cf')=some (.slice pf R.fl.length cf):=e;exact osi this
 rw[e]at h2 h4;obtain⟨vs,g1,g2,g3⟩:=id h4;have hown:=λk=>JeL (k:=k) h4;refine⟨vs,g1,g2,λw6 v2 hnew hg hv2 w7 hb7=>?_⟩;have h6:=JoU (Jrk (x:=p) (by decide) g1 g2 g3 hx hg hnew) hb7;have hlow:=h.low;have hnb:some r≠(Value.slice pf R.fl.length cf).ownBlock:=λe=>by
  obtain⟨_,_,cs,hc⟩:=hown r e.symm;have:=JaB h2 hc;revert this;decide
 have hb6':w6.heap[r]?=some (Oc #[Pd bx 0,.slice pc bs.length cc,.slice pf R.fl.length cf,I6 (R.lost:Int)] 68):=(hg.block r (alt h2) hnb).trans h2;have hb6:=(hb7.block r (Array.getElem?_eq_some_iff.1 hb6').1).trans hb6';have hS:sameBut w (w7.setCell (Ad r 2) v2) (λk=>k=r\/(Value.slice pf R.fl.length cf).ownBlock=some k):=((Jbb (S:=λk=>k=r\/(Value.slice pf R.fl.length cf).ownBlock=some k) hg λk e=>.inr e).comp (Jai hb7 (λ_=>False)) λk _ h=>h.elim).comp (Jat (S:=λk=>k=r\/(Value.slice pf R.fl.length cf).ownBlock=some k) (.inl rfl)) λk _ h=>h;have hsend:JbK R p = { R with fl:=R.fl++[p] }:=by unfold JbK;rw[if_neg (by omega)]
 have hfin:=heap_setCell_same w7 r 2 _ _ v2 hb6;refine⟨chp hb6 2,JaP hb6,?_,hS.mono λk _ e=>e.imp id λe=>⟨_,hce,e⟩,λk hk=>?_⟩
 . rw [hsend]
   refine Jfs (X:=λk=>k=r\/(Value.slice pf R.fl.length cf).ownBlock=some k) (vc:=.slice pc bs.length cc) (vf:=v2) h hfin ⟨_,_,_,h2⟩ ?_ hS (λk hk e=>?_) rfl rfl rfl rfl rfl
   . refine Jek (S:=λk=>k=r) h6 (Jat rfl) λk hk e=>?_
     subst e;exact⟨hlow,Ja8 hb6 (by decide),λcs fz hc=>by have:=JaB hb6 hc;revert this;decide⟩
   . rcases e with rfl | e
     . exact⟨hlow,_,_,h2,.inl rfl⟩
     . obtain⟨a,_,cs,hc⟩:=hown k e
       exact⟨a,cs,_,hc,.inr rfl⟩
 . rcases hk with rfl | ⟨v,e,hk⟩
   . exact .inl (.inl rfl)
   . have x2:(w7.setCell (Ad r 2) v2).cell? (Ad r 2)=some v2:=chp hfin 2
     rw[x2]at e;obtain rfl:=osi e;exact(hv2 k hk).imp (λe=>.inr ⟨_,hce,e⟩) id
theorem pk_lost(h:isRoom lo w r bx bmx bs R){p:Pk}(hroom:400<=R.fl.length) :
    isRoom lo (w.setCell (Ad r 3) (I6 ((R.lost:Int)+1))) r bx bmx bs (JbK R p)/\keptF w (w.setCell (Ad r 3) (I6 ((R.lost:Int)+1))) r:=by
 obtain⟨pc,cc,pf,cf,h2,h3,h4⟩:=Jb5 h;have hsend:JbK R p = { R with lost:=R.lost+1 }:=by unfold JbK;rw[if_pos hroom]
 have hlow:=h.low;have hfin:=heap_setCell_same w r 3 _ _ (I6 ((R.lost:Int)+1)) h2;refine⟨?_,Jat (.inl rfl),λk hk=>?_⟩
 . rw [hsend]
   refine Jfs (X:=λk=>k=r) (vc:=.slice pc bs.length cc) (vf:=.slice pf R.fl.length cf) h hfin ⟨_,_,_,h2⟩ ?_ (Jat rfl) (λk hk e=>?_) rfl rfl rfl rfl rfl
   . refine Jek (S:=λk=>k=r) h4 (Jat rfl) λk hk e=>?_
     subst e;exact⟨hlow,Ja8 h2 (by decide),λcs fz hc=>by have:=JaB h2 hc;revert this;decide⟩
   . subst e
     exact⟨hlow,_,_,h2,.inl rfl⟩
 . rcases hk with rfl | ⟨v,e,hk⟩
   . exact .inl (.inl rfl)
   . refine .inl (.inr ⟨v,?_,hk⟩)
     have x2:(w.setCell (Ad r 3) (I6 ((R.lost:Int)+1))).cell? (Ad r 2)=some (.slice pf R.fl.length cf):=chp hfin 2;rw[x2]at e;rw[←osi e];exact chp h2 2
theorem JbC{w1 w2:World}(hb:Bw w w1)(h:sameBut w1 w2 (JaE lo w1 bmx)):sameBut w w2 (JaE lo w bmx) :=
 (Jai hb (JaE lo w bmx)).comp h λk hk e=>⟨e.1,e.2.imp id λ⟨cs,T,hc,hT⟩=>⟨cs,T,(hb.block k hk).symm.trans hc,hT⟩⟩
structure ZPr (lo r bx bmx β:Nat) (bs:List Nat) (R:Rm) (p:Pk) (v:Value) (pf:Option Addr) (cf:Nat) (wx:World):Prop where
 rm:isRoom lo wx r bx bmx bs R
 fl:wx.cell? (Ad r 2)=some (.slice pf R.fl.length cf)
 box:wx.heap[β]?=some (.cells (JaT p v).toArray 156 (0,0))
 op:opX lo wx v p.x.op
theorem ZPr.grow(h:ZPr lo r bx bmx β bs R p v pf cf w)(hb:Bw w w'):ZPr lo r bx bmx β bs R p v pf cf w' :=
 ⟨Jal h.rm hb,(zC hb r 2 (Jbs h.rm)).trans h.fl,(hb.block β (alt h.box)).trans h.box,Ja1 h.op hb⟩
structure ZPk (r β:Nat) (p:Pk) (n:Nat) (v:Value) (pf:Option Addr) (cf:Nat) (wx:World):Prop where
 lt:r<wx.heap.size
 fl:wx.cell? (Ad r 2)=some (.slice pf n cf)
 box:wx.heap[β]?=some (.cells (JaT p v).toArray 156 (0,0))
theorem ZPk.grow{n:Nat}(h:ZPk r β p n v pf cf w)(hb:Bw w w'):ZPk r β p n v pf cf w' :=
 ⟨Nat.lt_of_lt_of_le h.lt hb.size,(zC hb r 2 h.lt).trans h.fl,(hb.block β (alt h.box)).trans h.box⟩
theorem ZPr.less(h:ZPr lo r bx bmx β bs R p v pf cf w):ZPk r β p R.fl.length v pf cf w:=⟨Jbs h.rm,h.fl,h.box⟩
theorem JeG(h:isRoom lo w r bx bmx bs R)(p:Pk)(v:Value)(hx:opX lo w v p.x.op)(hlost:R.lost<=1000000000000)(hfl:R.fl.length<=400) :
    Cg 104 #[Pd r 0,pkV p v] w λe w'=>e=.returned (.tuple #[])/\isRoom lo w' r bx bmx bs (JbK R p)/\keptF w w' r:=by
 obtain⟨pv,cv,rfl⟩:=JaO hx;obtain⟨pc,cc,pf,cf,h2,h3,h4⟩:=Jb5 h;have hfc:R.fl.length<=cf/\cf<=maxLen:=by
  obtain⟨vs,_,h5,_⟩:=h4
  rcases h5.2 with ⟨e,h0⟩|⟨g,cap,cur,e,_,_,h6,h7,_⟩
  . injection e with _ _ e3;rw[e3,h0];unfold maxLen;omega
  . injection e with _ _ e3;rw[e3];exact⟨h6,h7⟩
 obtain⟨hf1,hf2⟩:=hfc;unfold maxLen at hf2;have hbw:Bw w (w.alloc (.cells (JaT p (.slice pv p.x.op.length cv)).toArray 156)):=zA _ _;have HB:=hdz hbw
 have HZ:Hid (ZPr lo r bx bmx w.heap.size bs R p (.slice pv p.x.op.length cv) pf cf (w.alloc (.cells (JaT p (.slice pv p.x.op.length cv)).toArray 156))) :=
  ⟨Jal h hbw,(zC hbw r 2 (Jbs h)).trans (chp h2 2),heap_alloc_new _ _,Ja1 hx hbw⟩
 have HLT:Hid (r<w.heap.size):=Jbs h;obtain⟨i0,hi,hq0,hq1,hq2⟩:=info_parts JgB
 by_cases hroom:400<=R.fl.length
 case pos =>
  have hL:=λW (hz:ZPr lo r bx bmx w.heap.size bs R p (.slice pv p.x.op.length cv) pf cf W)=>pk_lost (p:=p) hz.rm hroom;have HL:Hid (isRoom lo ((w.alloc (.cells (JaT p (.slice pv p.x.op.length cv)).toArray 156)).setCell (Ad r 3) (I6 ((R.lost:Int)+1))) r bx bmx bs (JbK R p)/\keptF w ((w.alloc (.cells (JaT p (.slice pv p.x.op.length cv)).toArray 156)).setCell (Ad r 3) (I6 ((R.lost:Int)+1))) r):=by
   obtain⟨a,b⟩:=hL _ HZ.out;exact⟨a,(Jdr (Jbs h) hbw).trans b⟩
  have hW:∃W,W=w.alloc (.cells (JaT p (.slice pv p.x.op.length cv)).toArray 156):=⟨_,rfl⟩;have x2:(w.alloc (.cells (JaT p (.slice pv p.x.op.length cv)).toArray 156)).cell? (Ad r 2)=some (.slice pf R.fl.length cf):=HZ.out.fl;have hb2:=(hbw.block r HLT.out).trans h2;have x3:(w.alloc (.cells (JaT p (.slice pv p.x.op.length cv)).toArray 156)).cell? (Ad r 3)=some (I6 (R.lost:Int)):=chp hb2 3;have xf:(w.alloc (.cells (JaT p (.slice pv p.x.op.length cv)).toArray 156)).frozen? (Ad r 3)=false:=JaP hb2;have hge:(400:Int)<=(R.fl.length:Int):=by omega
  have hwr:wrap64 ((R.lost:Int)+1)=(R.lost:Int)+1:=Jar (by omega) (by omega);have ebox:(JaT p (.slice pv p.x.op.length cv)).toArray=#[I6 p.kind,I6 (p.c:Int),I6 p.rev,I6 p.id,I6 p.x.c,I6 p.x.i,.slice pv p.x.op.length cv]:=rfl;rw[ebox]at HL x2 x3 xf;unfold pkV;generalize p.kind=a0 at *;generalize p.rev=a2 at *;generalize p.id=a3 at *;generalize p.x.c=a4 at *;generalize p.x.i=a5 at *;generalize p.x.op.length=a6 at *;clear h h2 h3 h4 hx hL hW hb2 ebox hbw HZ hi hq0 hq1 hq2 hlost hfl
  go_enter func104,ntmps104
  go_wp2;exact bodyPost_ret (results_none rfl _ _ _) rfl ⟨rfl,HL.out⟩
 case neg =>
  have hlt:¬(400:Int)<=(R.fl.length:Int):=by omega
  have x2:(w.alloc (.cells (JaT p (.slice pv p.x.op.length cv)).toArray 156)).cell? (Ad r 2)=some (.slice pf R.fl.length cf):=HZ.out.fl;have HR:Hid (R.fl.length<400):=by show R.fl.length<400;omega
  have ebox:(JaT p (.slice pv p.x.op.length cv)).toArray=#[I6 p.kind,I6 (p.c:Int),I6 p.rev,I6 p.id,I6 p.x.c,I6 p.x.i,.slice pv p.x.op.length cv]:=rfl;rw[ebox]at x2 HB;have HZ':=HZ.out;rw[ebox]at HZ';have HZ:Hid _:=HZ';obtain⟨β,hβ⟩:∃β,w.heap.size=β:=⟨_,rfl⟩;have HBT:Hid (w.heap.size=β):=hβ;have HOWN:Hid (∀k,(Value.slice pf R.fl.length cf).ownBlock=some k->k≠r/\k<β):=λk hk=>by
   obtain⟨_,hlt,cs,hc⟩:=JeL h4 hk;refine⟨λe=>?_,by rw[←hβ];exact hlt⟩;subst e;have:=JaB h2 hc;revert this;decide
  rw[hβ]at HZ;have HLO:Hid (lo<=w.heap.size):=Nat.le_of_lt (Nat.lt_of_le_of_lt h.low (Jbs h));clear h h2 h3 h4 hx hbw hβ HZ' hlost;unfold pkV
  go_enter func104,ntmps104
  go_wp2;refine Jch (λwx:World=>ZPk r β p R.fl.length (.slice pv p.x.op.length cv) pf cf wx) 8 11 (by kernel_rfl) rfl ?_;intro w30 hb30;have hz1:=HZ.out.grow hb30;have hbA:=HB.out.trans (hb30.mono HB.out.size);have ht1:=hz1.less;obtain⟨G,hG⟩:=Jb6 (Z:=λwx:World=>ZPk r β p R.fl.length (.slice pv p.x.op.length cv) pf cf wx) ht1 (λ{w w'} h hb=>ZPk.grow h hb);have y2:∀y,(G y).cell? (Ad r 2)=some (.slice pf R.fl.length cf):=λy=>(hG.but y).fl;have b0:=λy=>cQ (hG.but y).box 0 rfl;have b1:=λy=>cQ (hG.but y).box 1 rfl;have b2:=λy=>cQ (hG.but y).box 2 rfl;have b3:=λy=>cQ (hG.but y).box 3 rfl;have b4:=λy=>cQ (hG.but y).box 4 rfl;have b5:=λy=>cQ (hG.but y).box 5 rfl;have b6:=λy=>cQ (hG.but y).box 6 rfl;rw[HBT.out];refine az hG ht1 0 λ_ k=>?_;go_simp;apply k;clear k;refine az hG ht1 1 λ_ k=>?_;go_simp;apply k;clear k;refine az hG ht1 2 λ_ k=>?_;go_simp;apply k;clear k;refine az hG ht1 3 λ_ k=>?_;go_simp;apply k;clear k;refine az hG ht1 4 λ_ k=>?_;go_simp;apply k;clear k;refine az hG ht1 5 λ_ k=>?_;go_simp;apply k;clear k;clear y2 b0 b1 b2 b3 b4 b5 b6 hG;refine aO 6 ⟨_,rfl,?_⟩;intro w31 hb31 K hK;have hz2:=hz1.grow hb31;have hbB:=hbA.trans (hb31.mono hbA.size)
  go_simp
  refine hK _ _ (λhz=>hz.grow (zA _ _)) ?_;clear hK K;refine aO 7 ⟨_,rfl,?_⟩;intro w32 hb32 K hK;have hbAl:Bw w31 (w31.alloc (Oc #[I6 p.kind,I6 (p.c:Int),I6 p.rev,I6 p.id,I6 p.x.c,I6 p.x.i,.slice pv p.x.op.length cv] 156)):=zA _ _;have hnew:=(hb32.block w31.heap.size (by rw[wsa];omega)).trans (heap_alloc_new w31 (Oc #[I6 p.kind,I6 (p.c:Int),I6 p.rev,I6 p.id,I6 p.x.c,I6 p.x.i,.slice pv p.x.op.length cv] 156));have hb312:=hbAl.trans (hb32.mono hbAl.size);have hz3:=hz2.grow hb312;have hbC:=hbB.trans (hb312.mono hbB.size);obtain⟨vs,v1,v2,v3⟩:=pk_push hz3.rm hz3.op HR.out hz3.fl;obtain ⟨v',w',hrun,hown',hgr,hvn⟩:=Jgt (P:=prog) w32 lo 66 66 156 i0 (.agg #[I6 0,I6 0,I6 0,I6 0,I6 0,I6 0,.slice none 0 0]) 7 72 underlying66 hi hq0 hq1 hq2 rfl (by decide) (.slice pf R.fl.length cf) R.fl.length _ v2 (Ad w31.heap.size 0) 1 1 (JaT p (.slice pv p.x.op.length cv)) rfl (λj u hj=>by
   have hjl:j<7:=(llt hj);have:=chp hnew j;rw[Addr.add_lit,Nat.zero_add,this];have e:(#[I6 p.kind,I6 (p.c:Int),I6 p.rev,I6 p.id,I6 p.x.c,I6 p.x.i,.slice pv p.x.op.length cv]:Array Value)[j]?=(JaT p (.slice pv p.x.op.length cv))[j]?:=by rw[←Array.getElem?_toList];rfl
   rw[e,hj]) (Jjg p pv p.x.op.length cv) (by unfold maxLen;omega) (by omega) (Nat.le_trans HLO.out hbC.size) (by omega)
  have HVN:=hdz hvn;have V3:=hdz v3;have HG:=hdz hgr;have HO:Hid _:=hown';have HBC:=hdz hbC;have hlt32:r<w32.heap.size:=hz3.less.lt;have hz4:ZPk r β p R.fl.length (.slice pv p.x.op.length cv) pf cf w':=by
   have hno:=HOWN.out;refine⟨Nat.lt_of_lt_of_le hlt32 hgr.size,?_,?_⟩
   . exact(World.cell?_of_block (w:=w32) (a:=(Ad r 2)) (hgr.block r hlt32 λe=>(hno r e.symm).1 rfl)).trans hz3.fl
   . exact(hgr.block β (alt hz3.box) λe=>absurd (hno β e.symm).2 (Nat.lt_irrefl _)).trans hz3.box
  refine JhK rfl rfl rfl rfl hrun ?_;refine hK _ _ (λ_=>hz4) ?_;clear hK K hz1 hz2 hz3 hbA hbB hbC hb30 hb31 hb32 hbAl hb312 hnew v3 v2 v1 ht1 hi hq0 hq1 hq2 hz4 hgr hlt32 hvn;obtain⟨p',c',rfl⟩:=Jak hown';clear hown';refine JrG (by kernel_rfl) ?_;refine aO 8 ⟨_,rfl,?_⟩;intro w33 hb33 K hK
  go_simp
  refine hK _ _ (λ_=>trivial) ?_;clear hK K;refine aO 9 ⟨_,rfl,?_⟩;intro w34 hb34 K hK
  go_simp
  refine hK _ _ (λ_=>trivial) ?_;clear hK K;refine aO 10 ⟨_,rfl,?_⟩;intro w35 hb35 K hK;obtain⟨u1,u2,u3,u4⟩:=V3.out w' _ HO.out HG.out HVN.out w35 ((hb33.trans (hb34.mono hb33.size)).trans (hb35.mono (hb33.trans (hb34.mono hb33.size)).size));have U3:=hdz u3;have U4:=hdz u4;clear u3 u4 hb33 hb34 hb35
  go_simp
  refine hK _ _ (λ_=>trivial) ?_;clear hK K;refine ae ?_;intro w36 hb36
  have FIN:Hid (isRoom lo w36 r bx bmx bs (JbK R p)/\keptF w w36 r) :=
   ⟨Jal U3.out hb36,((Jdr HLT.out HBC.out).trans U4.out).trans (Jdr (Jbs U3.out) hb36)⟩
  clear hb36;go_wp2;go_end0;exact⟨rfl,FIN.out⟩
end
section
attribute [local go_sem] Oper.semAt_some Jaj JaD
variable {lo g c : Nat}{w : World}{x0 : Value}
theorem JpV:(prog.info? 94).map (·.zero)=some (some (.slice none 0 0)):=by kernel_rfl
theorem del2{n1 m1:Nat}{p1:Option Addr}(h:w.ownsRow lo 94 1 (Sl g 2 c) 2 [x0,.slice p1 n1 m1]) :
    Cg 258 #[Sl g 2 c,I6 0,I6 1] w λe w'=>e=.returned (Sl g 1 c)/\w'.ownsRow lo 94 1 (Sl g 1 c) 1 [.slice p1 n1 m1]/\w.grownBy w' (some g):=by
 have hc:2<=c/\c<=maxLen/\lo<=g/\∃cur,w.heap[g]?=some (Oc cur 94)/\cur.size=c/\cur.toList.take 2=[x0,.slice p1 n1 m1]:=by
  rcases h.2 with ⟨e,_⟩|⟨g',cap,cur,e,e1,e2,e3,e4,e5,e6⟩
  . cases e
  . injection e with e7 e8 e9
    injection e7 with e7;injection e7 with e7;subst e7 e9;exact⟨e3,e4,e1,cur,e2,by simpa using e5,by simpa using e6⟩
 obtain⟨c2,c3,hlg,cur,hcur,hsz,htk⟩:=hc;unfold maxLen at c3;have hc1:¬c=1:=by omega
 have k0:w.cell? (Ad g 0)=some x0:=by have:=World.ownsRow.cellAt h 0 (by omega);exact this
 have k1:w.cell? (Ad g 1)=some (.slice p1 n1 m1):=by have:=World.ownsRow.cellAt h 1 (by omega);exact this
 have z0:=fZ hcur 0;have z1:=fZ hcur 1;have HC:=hdz hcur;have HSZ:=hdz hsz;have HTK:=hdz htk;clear h hcur hsz htk
 go_enter func258,ntmps258
 go_wp2;refine wz (λ_:World=>True) 8 trivial (λ_ _=>trivial) λw30 hb30 _ G hG=>?_;(iterate 6 (refine ay hG trivial λ_ k=>?_;go_simp;apply k;clear k));clear hG;refine aO 6 ⟨_,rfl,?_⟩;intro w31 hb31 K hK;have hbA:=hb30.trans (hb31.mono hb30.size);have HBA:=hdz hbA;have hgl:g<w.heap.size:=(alt HC.out);have hcur':=(hbA.block g hgl).trans HC.out;have HC1:Hid _:=hcur';have y0:=(zC hbA g 0 hgl).trans k0;have y1:=(zC hbA g 1 hgl).trans k1;have f0:=fZ hcur' 0;have h1c:1<=c:=by omega
 clear hb30 hb31 hbA hcur' k0 k1 z0 z1
 go_simp
 refine hK _ _ (λ_=>trivial) ?_;clear hK K;refine aO 7 ⟨_,rfl,?_⟩;intro w32 hb32 K hK
 go_simp
 refine hK _ _ (λ_=>trivial) ?_;clear hK K;refine ae ?_;intro w33 hb33;have hbS:=hb32.trans (hb33.mono hb32.size);have hblk:=heap_setCell_same w31 g 0 cur _ (.slice p1 n1 m1) HC1.out;have hblk2:=(hbS.block g (alt hblk)).trans hblk;have HBL:=hdz hblk2;have HBS:=hdz hbS;have u1:w33.cell? (Ad g 1)=some (.slice p1 n1 m1):=(zC hbS g 1 (alt hblk)).trans ((World.cell?_setCell_other (w:=w31) (Ad g 0) (Ad g 1) _ (by simp)).trans y1);have uf:=fZ hblk2 1
 have hcl:∀ty,(Builtin.clear_ #[88] ty #[.slice (some (Ad g 1)) 1 (c - 1)]).run prog w33=.ok (.tuple #[]) (w33.setCell (Ad g 1) (.slice none 0 0)):=λty=>by
  have:=Lib.run_clear_slice (P:=prog) w33 88 94 ty (.slice none 0 0) underlying88 (λw=>JiF JpV w) rfl rfl g 1 1 (c - 1) (by omega) (λj hj=>by
   obtain rfl:j=0:=by omega
   rw[u1];rfl) (λj hj=>by
   obtain rfl:j=0:=by omega
   exact uf)
  rw[this];rfl
 clear hb32 hb33 hbS hblk hblk2 y0 y1 f0;go_wp2;go_ret;refine⟨rfl,?_,?_⟩
 . have hb2:=heap_setCell_same w33 g 1 _ _ (.slice none 0 0) HBL.out
   refine⟨rfl,.inr ⟨g,c,_,rfl,hlg,hb2,by omega,by unfold maxLen;omega,?_,?_⟩⟩
   . rw[Array.size_setIfInBounds,Array.size_setIfInBounds,HSZ.out,Nat.mul_one]
   . rw [Array.toList_setIfInBounds,Array.toList_setIfInBounds]
     have ht:=HTK.out
     match hl:cur.toList,ht with
     | a :: b :: l,ht =>
      rfl
 . have h:sameBut w (w33.setCell (Ad g 1) (.slice none 0 0)) (λk=>k=g):=((Jai HBA.out _).trans (Jat (b:=g) (o:=0) (v:=.slice p1 n1 m1) (S:=λk=>k=g) rfl)).trans ((Jai HBS.out _).trans (Jat (S:=λk=>k=g) rfl))
   exact⟨h.os,h.tape,h.output,h.size,λk hk hn=>h.block k hk λe=>hn (by rw[e])⟩
theorem del1(h:w.ownsRow lo 94 1 (Sl g 1 c) 1 [x0]) :
    Cg 258 #[Sl g 1 c,I6 0,I6 1] w λe w'=>e=.returned (Sl g 0 c)/\w'.ownsRow lo 94 1 (Sl g 0 c) 0 []/\w.grownBy w' (some g):=by
 have hc:1<=c/\c<=maxLen/\lo<=g/\∃cur,w.heap[g]?=some (Oc cur 94)/\cur.size=c:=by
  rcases h.2 with ⟨e,_⟩|⟨g',cap,cur,e,e1,e2,e3,e4,e5,e6⟩
  . cases e
  . injection e with e7 e8 e9
    injection e7 with e7;injection e7 with e7;subst e7 e9;exact⟨e3,e4,e1,cur,e2,by simpa using e5⟩
 obtain⟨c2,c3,hlg,cur,hcur,hsz⟩:=hc;unfold maxLen at c3;have k0:w.cell? (Ad g 0)=some x0:=by have:=World.ownsRow.cellAt h 0 (by omega);exact this
 have HC:=hdz hcur;have HSZ:=hdz hsz;clear h hcur hsz
 by_cases hc1:c=1
 all_goals
  go_enter func258,ntmps258
  go_wp2;refine wz (λ_:World=>True) 8 trivial (λ_ _=>trivial) λw30 hb30 _ G hG=>?_;(iterate 6 (refine ay hG trivial λ_ k=>?_;go_simp;apply k;clear k));clear hG;refine aO 6 ⟨_,rfl,?_⟩;intro w31 hb31 K hK
  go_simp
  refine hK _ _ (λ_=>trivial) ?_;clear hK K;refine aO 7 ⟨_,rfl,?_⟩;intro w32 hb32 K hK
  go_simp
  refine hK _ _ (λ_=>trivial) ?_;clear hK K;refine ae ?_;intro w33 hb33;have hbS:=hb30.trans ((hb31.trans ((hb32.trans (hb33.mono hb32.size)).mono hb31.size)).mono hb30.size);have hgl:g<w.heap.size:=(alt HC.out);have hblk2:=(hbS.block g hgl).trans HC.out;have HBL:=hdz hblk2;have HBS:=hdz hbS;have u1:w33.cell? (Ad g 0)=some x0:=(zC hbS g 0 hgl).trans k0;have uf:=fZ hblk2 0
  have hcl:∀ty,(Builtin.clear_ #[88] ty #[Sl g 1 c]).run prog w33=.ok (.tuple #[]) (w33.setCell (Ad g 0) (.slice none 0 0)):=λty=>by
   have:=Lib.run_clear_slice (P:=prog) w33 88 94 ty (.slice none 0 0) underlying88 (λw=>JiF JpV w) rfl rfl g 0 1 c (by omega) (λj hj=>by
    obtain rfl:j=0:=by omega
    rw[u1];rfl) (λj hj=>by
    obtain rfl:j=0:=by omega
    exact uf)
   rw[this];rfl
  clear hb30 hb31 hb32 hb33 hbS hblk2
  try rw[hc1]at hcl
  go_wp2;go_ret;refine⟨by first | rfl | (rw[hc1];rfl),?_,?_⟩
  . have hb2:=heap_setCell_same w33 g 0 _ _ (.slice none 0 0) HBL.out
    refine⟨rfl,.inr ⟨g,_,_,rfl,hlg,hb2,by omega,by unfold maxLen;omega,?_,rfl⟩⟩;rw[Array.size_setIfInBounds,HSZ.out];omega
  . have h:sameBut w (w33.setCell (Ad g 0) (.slice none 0 0)) (λk=>k=g):=(Jai HBS.out _).trans (Jat (S:=λk=>k=g) rfl)
    exact⟨h.os,h.tape,h.output,h.size,λk hk hn=>h.block k hk λe=>hn (by rw[e])⟩
end
section
attribute [local go_sem] Oper.semAt_some Jaj JaD
variable {w : World}{lo e c : Nat}{p : Option Addr}{ps : List Pk}
theorem JqZ{size g m cap:Nat}{xs:List Value}(h:w.ownsRow lo e size (Sl g m cap) m xs){o:Nat}(ho:m*size<=o)(v:Value):(w.setCell (Ad g o) v).ownsRow lo e size (Sl g m cap) m xs:=by
 obtain⟨h0,hrow⟩:=h
 rcases hrow with ⟨e,_⟩|⟨g',cap',cur,e,h3,h4,h5,h6,h7,h8⟩
 . cases e
 . injection e with e1 _ e3
   injection e1 with e1;injection e1 with e1;subst e1 e3;refine⟨h0,.inr ⟨g,cap,_,rfl,h3,heap_setCell_same w g o cur _ v h4,h5,h6,?_,?_⟩⟩
   . rw[Array.size_setIfInBounds];exact h7
   . rw[Array.toList_setIfInBounds,List.take_set_of_le ho];exact h8
theorem Jg5{lo e size g m cap:Nat}{xs:List Value}:∀(vs:List Value)(w:World)(o:Nat),w.ownsRow lo e size (Sl g m cap) m xs->m*size<=o->(w.setCells g o vs).ownsRow lo e size (Sl g m cap) m xs
 | [],_,_,h,_=>h
 | v :: vs,w,o,h,ho=>Jg5 vs _ (o+1) (JqZ h ho v) (by omega)
theorem Jfg{g:Nat}:∀(vs:List Value)(w:World)(o:Nat),sameBut w (w.setCells g o vs) λk=>k=g
 | [],w,o=>JfA _ _
 | v :: vs,w,o=>(Jat (S:=λk=>k=g) rfl).trans (Jfg vs _ (o+1))
def Jex:List Value:=[I6 0,I6 0,I6 0,I6 0,I6 0,I6 0,.slice none 0 0]
theorem JhY(P:Program)(w:World)(t e ty:TypeId)(ht:P.underlying t=some (.slice e))(hv:(zeroValue e).run P w=.ok (.agg #[I6 0,I6 0,I6 0,I6 0,I6 0,I6 0,.slice none 0 0]) w)(b o c:Nat)
    (hc:∀j,j<7->(w.cell? (Ad b (o+j))).isSome=true) (hf:∀j,j<7->w.frozen? (Ad b (o+j))=false) :
    (Builtin.clear_ #[t] ty #[.slice (some (Ad b o)) 1 c]).run P w=.ok (.tuple #[]) (w.setCells b o Jex):=by
 have hzc:(Builtin.zeroCells (Value.cells (.agg #[I6 0,I6 0,I6 0,I6 0,I6 0,I6 0,.slice none 0 0])) 1).toList=Jex:=by kernel_rfl
 have hst:=run_storeCells_cells (P:=P) b o Jex 0 w (by simpa[Jex] using hc) (by simpa[Jex] using hf) (by intro v hv';simp only[Jex,List.mem_cons,List.not_mem_nil,or_false]at hv';rcases hv' with rfl|rfl|rfl|rfl|rfl|rfl|rfl<;>rfl);simp only[Nat.add_zero]at hst;simp[Builtin.clear_,run_underlying ht,hv,hzc,hst]
theorem JsE{n:Nat}(h:JfG e lo w (.slice p n c) ps)(hne:ps≠[]):∃g vs,p=some (Ad g 0)/\n=ps.length/\vs.length=ps.length/\(∀(i:Nat)(x:Pk)(v:Value),ps[i]?=some x->vs[i]?=some v->opX lo w v x.x.op)/\lo<=g/\g<w.heap.size/\ps.length<=c/\c<=maxLen/\∃cur,w.heap[g]?=some (Oc cur e)/\cur.size=c*7/\cur.toList.take (ps.length*7)=pkC ps vs:=by
 obtain⟨vs,h1,⟨h0,hrow⟩,h3⟩:=h
 rcases hrow with ⟨_,hz⟩|⟨g,cap,cur,hv,h4,h5,h6,h7,h8,h9⟩
 . exact absurd (List.eq_nil_of_length_eq_zero hz) hne
 . injection hv with hp hn hc
   subst hp hn hc;exact⟨g,vs,rfl,rfl,h1,h3,h4,(alt h5),h6,h7,cur,h5,h8,h9⟩
theorem Jic:(prog.info? 156).map (·.zero)=some (some (.agg #[I6 0,I6 0,I6 0,I6 0,I6 0,I6 0,.slice none 0 0])):=by kernel_rfl
theorem JoG{lo:Nat}{w:World}:∀{ps:List Pk}{vs:List Value},(∀(i:Nat)(x:Pk)(v:Value),ps[i]?=some x->vs[i]?=some v->opX lo w v x.x.op)->vs.length=ps.length->∀u∈pkC ps vs,u.oneCell'=true
 | [],_,_,_,u,hu=>by simp[pkC]at hu
 | _ :: _,[],_,h,u,hu=>by simp at h
 | p :: ps,v :: vs,h,hl,u,hu=>by
  have e:pkC (p :: ps) (v :: vs)=JaT p v++pkC ps vs:=rfl;rw[e]at hu
  rcases List.mem_append.1 hu with hu|hu
  . obtain⟨q,c,rfl⟩:=JaO (h 0 p v rfl rfl)
    exact Jjg p q _ c u hu
  . exact JoG (λi x v hx hv=>h (i+1) x v (by simpa using hx) (by simpa using hv)) (by simpa using hl) u hu
theorem delPk(h:JfG 156 lo w (.slice p ps.length c) ps){i:Nat}(hi:i<ps.length)(hm:ps.length<=1000) :
    Cg 164 #[.slice p ps.length c,I6 (i:Int),I6 ((i:Int)+1)] w λe w'=>e=.returned (.slice p (ps.length - 1) c)/\JfG 156 lo w' (.slice p (ps.length - 1) c) (ps.eraseIdx i)/\w.grownBy w' (Value.slice p ps.length c).ownBlock:=by
 have hne:ps≠[]:=λe=>by rw[e]at hi;exact absurd hi (Nat.not_lt_zero _)
 obtain⟨g,vs,rfl,_,hvs,hop,hlg,hgl,hnc,hcm,cur,hcur,hcs,htk⟩:=JsE h hne;unfold maxLen at hcm;obtain⟨n,hn⟩:∃n,ps.length=n:=⟨_,rfl⟩;rw[hn]at hi hm hnc hvs htk ⊢;have HN:=hdz hn;have h1:(i:Int)<(n:Int):=by omega
 have h2:(n:Int)<=1000:=by omega
 have h3:(n:Int)<=(c:Int):=by omega
 have h4:(c:Int)<=9223372036854775807:=by omega
 by_cases hcj:c=i+1
 . subst hcj
   have HNI:Hid (n=i+1):=by show n=i+1;omega
   clear h3 h4;have hz:=JiF (z:=.agg #[I6 0,I6 0,I6 0,I6 0,I6 0,I6 0,.slice none 0 0]) (t:=156) Jic;have CLR:Hid (∀(W:World) (ty:TypeId) (cc:Nat),(∃cur',W.heap[g]?=some (Oc cur' 156)/\cur'.size=(i+1)*7)->(Builtin.clear_ #[66] ty #[.slice (some (Ad g (i*7))) 1 cc]).run prog W=.ok (.tuple #[]) (W.setCells g (i*7) Jex)):=λW ty cc ⟨cur',e1,e2⟩=>by
    refine JhY prog W _ _ ty underlying66 (hz W) g _ cc (λj hj=>?_) λj hj=>JaP e1;have hl:i*7+j<cur'.size:=by rw[e2];have:=HNI.out;omega
    rw[chp e1,Array.getElem?_eq_getElem hl];rfl
   have HQ:=hdz HNI.out;obtain⟨i0,hi0,hq0,hq1,hq2⟩:=info_parts JgB;have hg0:(Sl g n (i+1)).ownBlock=some g:=rfl;rw[hg0];have HCUR:=hdz hcur;have HCS:=hdz hcs;have HTK:=hdz htk;have HVS:=hdz hvs;have HOP:=hdz hop;have HLG:Hid (lo<=g/\g<w.heap.size):=⟨hlg,hgl⟩;clear h hne hop hcur hcs htk hvs hlg hgl hz;have n1:i<=(i+1):=by omega
   have n2:i+1<=n:=by omega
   have m0:(0:Int)<=(i:Int):=by omega
   have m1:(0:Int)<=(i:Int)+1:=by omega
   have m2:(i:Int)+1<=(n:Int):=by omega
   have m3:(i:Int)<=(i:Int)+1:=by omega
   go_enter func164,ntmps164
   go_wp2;refine wz (λ_:World=>True) 8 trivial (λ_ _=>trivial) λw30 hb30 _ G hG=>?_;(iterate 6 (refine ay hG trivial λ_ k=>?_;go_simp;apply k;clear k));clear hG;refine aO 6 ⟨_,rfl,?_⟩;intro w31 hb31 K hK;have hbA:=hb30.trans (hb31.mono hb30.size);have HBA:=hdz hbA;have hcur31:=(hbA.block g HLG.out.2).trans HCUR.out;have hown:w31.ownsRow lo 156 7 (Sl g i (i+1)) i (pkC (ps.take i) (vs.take i)):=by
    refine⟨by rw[Jjh _ _ (by rw[List.length_take,List.length_take,HVS.out,HN.out]),List.length_take,HN.out,Nat.min_eq_left (Nat.le_of_lt hi)],.inr ⟨g,(i+1),cur,rfl,HLG.out.1,hcur31,by omega,by unfold maxLen;omega,HCS.out,?_⟩⟩;have e:(cur.toList.take (n*7)).take (i*7)=(pkC ps vs).take (i*7):=by rw[HTK.out]
    rw[List.take_take,Nat.min_eq_left (by omega),JlP ps vs i (by rw[HVS.out,HN.out])]at e;exact e
   have hnews:∀(j:Nat) (u:Value),(pkC (ps.drop (i+1)) (vs.drop (i+1)))[j]?=some u->w31.cell? (((Ad g 0):Addr).add j)=some u:=λj u hj=>by
    have e0:ps.drop (i+1)=[]:=List.drop_eq_nil_of_le (by rw[HN.out,HNI.out];omega);rw[e0]at hj;simp[pkC]at hj
   obtain⟨w',hrun,hown',hgr⟩:=run_append_fits (P:=prog) w31 lo 66 66 156 i0 7 underlying66 hi0 hq1 g i (i+1) (pkC (ps.take i) (vs.take i)) hown (Ad g 0) 0 ((i+1) - (i+1)) (pkC (ps.drop (i+1)) (vs.drop (i+1))) (by rw[Jjh _ _ (by rw[List.length_drop,List.length_drop,HVS.out,HN.out]),List.length_drop,HN.out]<;>omega) hnews (λu hu=>JoG HOP.out (by rw[HVS.out,HN.out]) u (List.mem_of_mem_drop (by rw[←Ji0 ps vs (i+1) (by rw[HVS.out,HN.out])]at hu;exact hu))) (by omega);refine JhK rfl rfl rfl rfl (by first | exact hrun | (simpa using hrun)) ?_;refine hK _ _ (λ_=>trivial) ?_;clear hK K;refine aO 7 ⟨_,rfl,?_⟩;intro w32 hb32 K hK
   go_simp
   refine hK _ _ (λ_=>trivial) ?_;clear hK K;refine ae ?_;intro w33 hb33;have hb23:=hb32.trans (hb33.mono hb32.size);have HB23:=hdz hb23;have hrow33:=Jbl hown' hb23;have HROW:=hdz hrow33
   have hc33:∃cur',w33.heap[g]?=some (Oc cur' 156)/\cur'.size=(i+1)*7:=by
    rcases hrow33.2 with ⟨e,_⟩|⟨g',cap',cur',e,_,e4,_,_,e7,_⟩
    . cases e
    . injection e with e1 _ e3
      injection e1 with e1;injection e1 with e1;subst e1;exact⟨cur',e4,by rw[e7,←e3]⟩
   have hclr:=λty cc=>CLR.out w33 ty cc hc33;have HG31:=hdz hgr;have HSM:Hid (sameBut w (w33.setCells g (i*7) Jex) λk=>k=g):=((Jai HBA.out _).trans (Jbb (S:=λk=>k=g) hgr λk e=>(osi e).symm)).trans ((Jai hb23 _).trans (Jfg Jex w33 (i*7)));have hq1':n - i=1:=by have:=HQ.out;omega
   have hq3:i<=n:=by have:=HQ.out;omega
   have hq4:(i:Int)<=(n:Int):=by omega
   have hq5:(n:Int)<=(((i+1):Nat):Int):=by omega
   have hq6:n<=(i+1):=by omega
   clear hown' hrow33 hc33 hb23 hb32 hb33 hgr hcur31 hown hnews hbA hb30 hb31 hi0 hq0 hq1 hq2 n2 m0 m1 m2 m3 hrun
   skip
   go_wp2;go_ret;refine⟨by (rw[show n - 1=i by have:=HQ.out;omega];rfl),?_,⟨HSM.out.os,HSM.out.tape,HSM.out.output,HSM.out.size,λk hk hn=>HSM.out.block k hk λe=>hn (by rw[e])⟩⟩;have hl:(ps.eraseIdx i).length=i:=by rw[List.length_eraseIdx_of_lt (by rw[HN.out];omega),HN.out];have:=HQ.out;omega
   have hlv:(vs.eraseIdx i).length=i:=by rw[List.length_eraseIdx_of_lt (by rw[HVS.out];omega),HVS.out];have:=HQ.out;omega
   have hfin:=Jg5 Jex w33 (i*7) HROW.out (by omega);refine⟨vs.eraseIdx i,by rw[hl,hlv],?_,λj x v hx hv=>?_⟩
   . rw [hl]
     have epk:pkC (ps.eraseIdx i) (vs.eraseIdx i)=pkC (ps.take i) (vs.take i)++pkC (ps.drop (i+1)) (vs.drop (i+1)):=by
      rw[List.eraseIdx_eq_take_drop_succ,List.eraseIdx_eq_take_drop_succ,JoH _ _ _ _ (by rw[List.length_take,List.length_take,HVS.out,HN.out])]
     rw[epk];have e2:n - 1=i:=by have:=HQ.out;omega
     rw[e2]
     skip
     exact hfin
   . have hcg:=HCUR.out
     refine JbI (S:=λk=>k=g) ?_ HSM.out λk hk e=>?_
     . obtain ⟨j',h1',h2'⟩:∃j',ps[j']?=some x/\vs[j']?=some v:=by
         rw[List.getElem?_eraseIdx]at hx hv
         split at hx
         . rename_i hlt;rw[if_pos hlt]at hv;exact⟨j,hx,hv⟩
         . rename_i hlt;rw[if_neg hlt]at hv;exact⟨j+1,hx,hv⟩
       exact HOP.out j' x v h1' h2'
     . subst e
       exact⟨HLG.out.1,Ja8 hcg (by decide)⟩
 . obtain ⟨q,hqn⟩:∃q,n=q+1:=⟨n - 1,by omega⟩
   have hz:=JiF (z:=.agg #[I6 0,I6 0,I6 0,I6 0,I6 0,I6 0,.slice none 0 0]) (t:=156) Jic;have CLR:Hid (∀(W:World) (ty:TypeId) (cc:Nat),(∃cur',W.heap[g]?=some (Oc cur' 156)/\cur'.size=c*7)->(Builtin.clear_ #[66] ty #[.slice (some (Ad g (q*7))) 1 cc]).run prog W=.ok (.tuple #[]) (W.setCells g (q*7) Jex)):=λW ty cc ⟨cur',e1,e2⟩=>by
    refine JhY prog W _ _ ty underlying66 (hz W) g _ cc (λj hj=>?_) λj hj=>JaP e1;have hl:q*7+j<cur'.size:=by rw[e2];have:=hqn;omega
    rw[chp e1,Array.getElem?_eq_getElem hl];rfl
   have HQ:=hdz hqn;obtain⟨i0,hi0,hq0,hq1,hq2⟩:=info_parts JgB;have hg0:(Sl g n c).ownBlock=some g:=rfl;rw[hg0];have HCUR:=hdz hcur;have HCS:=hdz hcs;have HTK:=hdz htk;have HVS:=hdz hvs;have HOP:=hdz hop;have HLG:Hid (lo<=g/\g<w.heap.size):=⟨hlg,hgl⟩;clear h hne hop hcur hcs htk hvs hlg hgl hz hqn;have n1:i<=c:=by omega
   have n2:i+1<=n:=by omega
   have m0:(0:Int)<=(i:Int):=by omega
   have m1:(0:Int)<=(i:Int)+1:=by omega
   have m2:(i:Int)+1<=(n:Int):=by omega
   have m3:(i:Int)<=(i:Int)+1:=by omega
   go_enter func164,ntmps164
   go_wp2;refine wz (λ_:World=>True) 8 trivial (λ_ _=>trivial) λw30 hb30 _ G hG=>?_;(iterate 6 (refine ay hG trivial λ_ k=>?_;go_simp;apply k;clear k));clear hG;refine aO 6 ⟨_,rfl,?_⟩;intro w31 hb31 K hK;have hbA:=hb30.trans (hb31.mono hb30.size);have HBA:=hdz hbA;have hcur31:=(hbA.block g HLG.out.2).trans HCUR.out;have hown:w31.ownsRow lo 156 7 (Sl g i c) i (pkC (ps.take i) (vs.take i)):=by
    refine⟨by rw[Jjh _ _ (by rw[List.length_take,List.length_take,HVS.out,HN.out]),List.length_take,HN.out,Nat.min_eq_left (Nat.le_of_lt hi)],.inr ⟨g,c,cur,rfl,HLG.out.1,hcur31,by omega,by unfold maxLen;omega,HCS.out,?_⟩⟩;have e:(cur.toList.take (n*7)).take (i*7)=(pkC ps vs).take (i*7):=by rw[HTK.out]
    rw[List.take_take,Nat.min_eq_left (by omega),JlP ps vs i (by rw[HVS.out,HN.out])]at e;exact e
   have hnews:∀(j:Nat) (u:Value),(pkC (ps.drop (i+1)) (vs.drop (i+1)))[j]?=some u->w31.cell? (((Ad g ((i+1)*7)):Addr).add j)=some u:=λj u hj=>by
    rw[←Ji0 ps vs (i+1) (by rw[HVS.out,HN.out]),List.getElem?_drop,←HTK.out,List.getElem?_take]at hj
    split at hj
    . rw[Addr.add_lit,chp hcur31,←Array.getElem?_toList];exact hj
    . cases hj
   obtain⟨w',hrun,hown',hgr⟩:=run_append_fits (P:=prog) w31 lo 66 66 156 i0 7 underlying66 hi0 hq1 g i c (pkC (ps.take i) (vs.take i)) hown (Ad g ((i+1)*7)) (n - (i+1)) (c - (i+1)) (pkC (ps.drop (i+1)) (vs.drop (i+1))) (by rw[Jjh _ _ (by rw[List.length_drop,List.length_drop,HVS.out,HN.out]),List.length_drop,HN.out]<;>omega) hnews (λu hu=>JoG HOP.out (by rw[HVS.out,HN.out]) u (List.mem_of_mem_drop (by rw[←Ji0 ps vs (i+1) (by rw[HVS.out,HN.out])]at hu;exact hu))) (by omega);refine JhK rfl rfl rfl rfl (by first | exact hrun | (simpa using hrun)) ?_;refine hK _ _ (λ_=>trivial) ?_;clear hK K;refine aO 7 ⟨_,rfl,?_⟩;intro w32 hb32 K hK
   go_simp
   refine hK _ _ (λ_=>trivial) ?_;clear hK K;refine ae ?_;intro w33 hb33;have hb23:=hb32.trans (hb33.mono hb32.size);have HB23:=hdz hb23;have hrow33:=Jbl hown' hb23;have HROW:=hdz hrow33
   have hc33:∃cur',w33.heap[g]?=some (Oc cur' 156)/\cur'.size=c*7:=by
    rcases hrow33.2 with ⟨e,_⟩|⟨g',cap',cur',e,_,e4,_,_,e7,_⟩
    . cases e
    . injection e with e1 _ e3
      injection e1 with e1;injection e1 with e1;subst e1;exact⟨cur',e4,by rw[e7,←e3]⟩
   have hclr:=λty cc=>CLR.out w33 ty cc hc33;have HG31:=hdz hgr;have HSM:Hid (sameBut w (w33.setCells g (q*7) Jex) λk=>k=g):=((Jai HBA.out _).trans (Jbb (S:=λk=>k=g) hgr λk e=>(osi e).symm)).trans ((Jai hb23 _).trans (Jfg Jex w33 (q*7)));have hq1':n - q=1:=by have:=HQ.out;omega
   have hq3:q<=n:=by have:=HQ.out;omega
   have hq4:(q:Int)<=(n:Int):=by omega
   have hq5:(n:Int)<=((c:Nat):Int):=by omega
   have hq6:n<=c:=by omega
   clear hown' hrow33 hc33 hb23 hb32 hb33 hgr hcur31 hown hnews hbA hb30 hb31 hi0 hq0 hq1 hq2 n2 m0 m1 m2 m3 hrun;rw[show i+(n - (i+1))=q by have:=HQ.out;omega]at *;go_wp2;go_ret;refine⟨by (rw[show n - 1=q by have:=HQ.out;omega];rfl),?_,⟨HSM.out.os,HSM.out.tape,HSM.out.output,HSM.out.size,λk hk hn=>HSM.out.block k hk λe=>hn (by rw[e])⟩⟩;have hl:(ps.eraseIdx i).length=q:=by rw[List.length_eraseIdx_of_lt (by rw[HN.out];omega),HN.out];have:=HQ.out;omega
   have hlv:(vs.eraseIdx i).length=q:=by rw[List.length_eraseIdx_of_lt (by rw[HVS.out];omega),HVS.out];have:=HQ.out;omega
   have hfin:=Jg5 Jex w33 (q*7) HROW.out (by omega);refine⟨vs.eraseIdx i,by rw[hl,hlv],?_,λj x v hx hv=>?_⟩
   . rw [hl]
     have epk:pkC (ps.eraseIdx i) (vs.eraseIdx i)=pkC (ps.take i) (vs.take i)++pkC (ps.drop (i+1)) (vs.drop (i+1)):=by
      rw[List.eraseIdx_eq_take_drop_succ,List.eraseIdx_eq_take_drop_succ,JoH _ _ _ _ (by rw[List.length_take,List.length_take,HVS.out,HN.out])]
     rw[epk];have e2:n - 1=q:=by have:=HQ.out;omega
     rw[e2]
     skip
     exact hfin
   . have hcg:=HCUR.out
     refine JbI (S:=λk=>k=g) ?_ HSM.out λk hk e=>?_
     . obtain ⟨j',h1',h2'⟩:∃j',ps[j']?=some x/\vs[j']?=some v:=by
         rw[List.getElem?_eraseIdx]at hx hv
         split at hx
         . rename_i hlt;rw[if_pos hlt]at hv;exact⟨j,hx,hv⟩
         . rename_i hlt;rw[if_neg hlt]at hv;exact⟨j+1,hx,hv⟩
       exact HOP.out j' x v h1' h2'
     . subst e
       exact⟨HLG.out.1,Ja8 hcg (by decide)⟩
end
section
attribute [local go_sem] Oper.semAt_some Jaj JaD
theorem Jk1{lo:Nat}{w:World}{r bx bmx:Nat}{bs:List Nat}{R:Rm}(h:isRoom lo w r bx bmx bs R){i:Nat}(hi:i<R.fl.length)(hfl:R.fl.length<=400) :
    Cg 108 #[Pd r 0,I6 (i:Int)] w λe w'=>e=.returned (.tuple #[])/\isRoom lo w' r bx bmx bs (outR R i)/\keptF w w' r:=by
 obtain⟨pc,cc,pf,cf,h2,h3,h4⟩:=Jb5 h;have hne:R.fl≠[]:=λe=>by rw[e]at hi;exact absurd hi (Nat.not_lt_zero _)
 obtain⟨g,_,epf,_⟩:=JsE h4 hne;have CD:Hid _:=delPk h4 hi (by omega);have hown:=λk=>JeL (k:=k) h4;have hrg:r≠g:=λe=>by
  obtain⟨_,_,cs,hc⟩:=hown g (by rw[epf];rfl);rw[←e]at hc;have:=JaB h2 hc;revert this;decide
 have x2:=cQ h2 2 rfl
 have FIN:Hid (∀w1,JfG 156 lo w1 (.slice pf (R.fl.length - 1) cf) (R.fl.eraseIdx i)->w.grownBy w1 (Value.slice pf R.fl.length cf).ownBlock->w1.cell? (Ad r 2)=some (.slice pf R.fl.length cf)/\w1.frozen? (Ad r 2)=false/\isRoom lo (w1.setCell (Ad r 2) (.slice pf (R.fl.length - 1) cf)) r bx bmx bs (outR R i)/\keptF w (w1.setCell (Ad r 2) (.slice pf (R.fl.length - 1) cf)) r):=λw1 hp hg=>by
  have hlow:=h.low;have hb6:w1.heap[r]?=some (Oc #[Pd bx 0,.slice pc bs.length cc,.slice pf R.fl.length cf,I6 (R.lost:Int)] 68):=(hg.block r (alt h2) (by rw[epf];exact λe=>hrg (osi e))).trans h2;have hS:sameBut w (w1.setCell (Ad r 2) (.slice pf (R.fl.length - 1) cf)) (λk=>k=r\/(Value.slice pf R.fl.length cf).ownBlock=some k):=(Jbb (S:=λk=>k=r\/(Value.slice pf R.fl.length cf).ownBlock=some k) hg λk e=>.inr e).comp (Jat (S:=λk=>k=r\/(Value.slice pf R.fl.length cf).ownBlock=some k) (.inl rfl)) λk _ h=>h;have hfin:=heap_setCell_same w1 r 2 _ _ (.slice pf (R.fl.length - 1) cf) hb6;refine⟨chp hb6 2,JaP hb6,?_,hS.mono λk _ e=>e.imp id λe=>⟨_,x2,e⟩,λk hk=>?_⟩
  case refine_2 =>
   rcases hk with rfl|⟨v,e,hk⟩
   . exact .inl (.inl rfl)
   . have y2:(w1.setCell (Ad r 2) (.slice pf (R.fl.length - 1) cf)).cell? (Ad r 2)=some (.slice pf (R.fl.length - 1) cf):=chp hfin 2
     rw[y2]at e;obtain rfl:=osi e;refine .inl (.inr ⟨_,x2,?_⟩);rw[epf]at hk ⊢;exact hk
  refine Jfs (R':=outR R i) (X:=λk=>k=r\/(Value.slice pf R.fl.length cf).ownBlock=some k) (vc:=.slice pc bs.length cc) (vf:=.slice pf (R.fl.length - 1) cf) h (heap_setCell_same w1 r 2 _ _ _ hb6) ⟨_,_,_,h2⟩ ?_ hS (λk hk e=>?_) rfl rfl rfl rfl rfl
  . refine Jek (S:=λk=>k=r) hp (Jat rfl) λk hk e=>?_
    subst e;exact⟨hlow,Ja8 hb6 (by decide),λcs fz hc=>by have:=JaB hb6 hc;revert this;decide⟩
  . rcases e with rfl | e
    . exact⟨hlow,_,_,h2,.inl rfl⟩
    . obtain⟨a,_,cs,hc⟩:=hown k e
      exact⟨a,cs,_,hc,.inr rfl⟩
 have hw1:wrap64 ((i:Int)+1)=(i:Int)+1:=Jar (by omega) (by omega);generalize R.fl.length=n at *;clear h h2 h3 h4 hne hown epf
 go_enter func108,ntmps108
 go_wp2_with (go_at_call 164;refine Calls.mono CD.out ?_;rintro e w1 ⟨rfl,hp,hg⟩;obtain⟨u1,u2,u3,u4⟩:=FIN.out w1 hp hg;have U3:=hdz u3;have U4:=hdz u4;clear hp hg u3 u4)
 go_end0;exact⟨rfl,U3.out,U4.out⟩
variable {lo bmx r bx : Nat}{w : World}{bs : List Nat}{R : Rm}
theorem Jc0{w1 w2:World}(h:sameBut w w1 (JaE lo w bmx))(hb:Bw w1 w2):sameBut w w2 (JaE lo w bmx):=h.comp (Jai hb (λ_=>False)) λ_ _ h=>h.elim
theorem Js6(h:isRoom lo w r bx bmx bs R){i:Nat}(hi:i<R.fl.length)(hfl:R.fl.length<=400) :
    Cg 59 #[Pd r 0,I6 (i:Int)] w λe w'=>e=.returned .nilIface/\isRoom lo w' r bx bmx bs (outR R i)/\sameBut w w' (JaE lo w bmx):=by
 have hp:R.fl[i]?=some R.fl[i]:=lgg hi;have CP:Hid _:=Jg4 h i hp hfl;have CD:Hid (∀wx,Bw w wx->Cg 108 #[Pd r 0,I6 (i:Int)] wx λe w'=>e=.returned (.tuple #[])/\isRoom lo w' r bx bmx bs (outR R i)/\sameBut wx w' (JaE lo wx bmx)):=λwx hb=>(Jk1 (Jal h hb) hi hfl).mono λe w' ⟨a,b,c⟩=>⟨a,b,Jdz (c.touch (Jal h hb))⟩;unfold pkV at CP;generalize R.fl[i]=p at *;clear h hp
 go_enter func59,ntmps59
 go_wp2_with (first
  | (go_at_call 107;refine Calls.mono CP.out ?_;rintro e w1 ⟨v,rfl,ho,hb1⟩;obtain⟨pv,cv,rfl⟩:=JaO ho;have HB1:=hdz hb1;have HB1A:Hid (∀o,Bw w (w1.alloc o)):=λo=>hb1.alloc hb1.size o;clear ho hb1)
  | (go_at_call 108;refine(CD.out _ (HB1A.out _)).mono ?_;rintro e w2 ⟨rfl,h2,hs2⟩;have H2:=hdz h2;have HS2:Hid _:=JbC (HB1A.out _) hs2;clear h2 hs2))
 go_ret;exact⟨rfl,H2.out,HS2.out⟩
theorem JqP(h:isRoom lo w r bx bmx bs R)(k:Int)(hk:k<0\/(R.fl.length:Int)<=k) :
    Cg 59 #[Pd r 0,I6 k] w (Rt w (.iface 25 (I6 2))):=by
 have CP:Hid _:=JfC h k hk;clear h hk
 go_enter func59,ntmps59
 go_wp2_with (go_at_call 107;refine Calls.mono CP.out ?_;rintro e w1 ⟨rfl,hb1⟩;have HB1:=hdz hb1;have HB1A:Hid (∀o,Bw w (w1.alloc o)):=λo=>hb1.alloc hb1.size o;clear hb1)
 go_ret;exact⟨rfl,HB1A.out _⟩
theorem JqL(h:isRoom lo w r bx bmx bs R){i:Nat}{p:Pk}(hp:R.fl[i]?=some p)(hlost:R.lost<=1000000000000)(hfl:R.fl.length<=400) :
    Cg 60 #[Pd r 0,I6 (i:Int)] w λe w'=>e=.returned .nilIface/\isRoom lo w' r bx bmx bs (JbK R p)/\sameBut w w' (JaE lo w bmx):=by
 have CP:Hid _:=Jg4 h i hp hfl;have CD:Hid (∀wx v,Bw w wx->opX lo wx v p.x.op->Cg 104 #[Pd r 0,pkV p v] wx λe w'=>e=.returned (.tuple #[])/\isRoom lo w' r bx bmx bs (JbK R p)/\sameBut wx w' (JaE lo wx bmx)):=λwx v hb ho=>(JeG (Jal h hb) p v ho hlost hfl).mono λe w' ⟨a,b,c⟩=>⟨a,b,Jdz (c.touch (Jal h hb))⟩;unfold pkV at CP CD;clear h hp hlost
 go_enter func60,ntmps60
 go_wp2_with (first
  | (go_at_call 107;refine Calls.mono CP.out ?_;rintro e w1 ⟨v,rfl,ho,hb1⟩;obtain⟨pv,cv,rfl⟩:=JaO ho;have HB1:=hdz hb1;have HB1A:Hid (∀o,Bw w (w1.alloc o)/\opX lo (w1.alloc o) (.slice pv p.x.op.length cv) p.x.op):=λo=>⟨hb1.alloc hb1.size o,Ja1 ho (zA _ _)⟩;clear ho hb1)
  | (go_at_call 104;refine(CD.out _ _ (HB1A.out _).1 (HB1A.out _).2).mono ?_;rintro e w2 ⟨rfl,h2,hs2⟩;have H2:=hdz h2;have HS2:Hid _:=JbC (HB1A.out _).1 hs2;clear h2 hs2))
 go_ret;exact⟨rfl,H2.out,HS2.out⟩
theorem Jo7(h:isRoom lo w r bx bmx bs R)(k:Int)(hk:k<0\/(R.fl.length:Int)<=k) :
    Cg 60 #[Pd r 0,I6 k] w (Rt w (.iface 25 (I6 2))):=by
 have CP:Hid _:=JfC h k hk;clear h hk
 go_enter func60,ntmps60
 go_wp2_with (go_at_call 107;refine Calls.mono CP.out ?_;rintro e w1 ⟨rfl,hb1⟩;have HB1:=hdz hb1;have HB1A:Hid (∀o,Bw w (w1.alloc o)):=λo=>hb1.alloc hb1.size o;clear hb1)
 go_ret;exact⟨rfl,HB1A.out _⟩
end
section
variable {D : List (List UInt8)}{l0 n : Int}{R : Rm}{p : Pk}{fl : List Pk}
def Ext (D D':List (List UInt8)):Prop:=∀(i:Nat) (d:List UInt8),D[i]?=some d->D'[i]?=some d
theorem Ext.refl(D:List (List UInt8)):Ext D D:=λ_ _ h=>h
theorem Ext.trans{D' D'':List (List UInt8)}(h:Ext D D')(h':Ext D' D''):Ext D D'':=λi d e=>h' i d (h i d e)
theorem Jlg(l0:Int)(R:Rm)(p:Pk):(askR l0 R p).cl=R.cl/\(askR l0 R p).E=(srvR l0 R p).E/\(askR l0 R p).t=(srvR l0 R p).t/\(askR l0 R p).M=(srvR l0 R p).M/\(askR l0 R p).n=R.n+1:=by
 obtain⟨a,b,c,d,e⟩:=Jfd (srvR l0 R p) p.c p.rev;unfold askR
 split
 . obtain⟨a',b',c',d',e'⟩:=Jdp (JcJ (srvR l0 R p) p.c p.rev) (Je9 p)
   exact⟨e'.trans e,b'.trans b,a'.trans a,c'.trans c,d'.trans d⟩
 . exact⟨e,b,a,c,d⟩
theorem Inv.comes(h:Inv l0 n D R){p:Pk}(hp:okPk R.E D R.cl.length p) :
    ∃ D',Inv l0 n D' (JcF l0 R p)/\Ext D D'/\(JcF l0 R p).cl.length=R.cl.length/\(∀(i:Nat) (x:SE),R.E[i]?=some x->(JcF l0 R p).E[i]?=some x) /\
     (D'=D/\(JcF l0 R p).E=R.E/\(JcF l0 R p).t=R.t\/D'=D++[(JcF l0 R p).t]/\(JcF l0 R p).E.length=R.E.length+1):=by
 unfold JcF
 by_cases k1:p.kind=1
 . rw [if_pos k1]
   obtain⟨D',i1,i2,i3,i4⟩:=h.srvK hp k1;obtain⟨a,b,c,d,e⟩:=Jlg l0 R p;have hcl:(srvR l0 R p).cl.length=R.cl.length:=rfl;have it:=i1.tellK (k:=p.c) (by rw[hcl];exact hp.c) p.rev;obtain⟨ta,tb,tc,td,te⟩:=Jfd (srvR l0 R p) p.c p.rev;refine⟨D',?_,i2,by rw[a],λi x hx=>by rw[b];exact i3 i x hx,?_⟩
   . unfold askR
     split
     . refine it.send ⟨?_,.inr (.inr (.inr rfl)),⟨Int.le_refl _,by show(0:Int)<=_;omega⟩,λe=>(by cases e),λe=>(by cases e)⟩
       rw[te,hcl];exact hp.c
     . exact it
   . rw[b,c]
     rcases i4 with ⟨e1,e2,e3⟩|⟨e1,e2⟩
     . exact .inl ⟨e3,e1,e2⟩
     . exact .inr ⟨e2,e1⟩
 rw[if_neg k1]
 by_cases k2:p.kind=2
 . rw[if_pos k2]
   obtain⟨ta,tb,tc,td,te⟩:=Jfd R p.c p.rev;exact⟨D,h.tellK hp.c p.rev,Ext.refl D,by rw[te],λi x hx=>by rw[tb];exact hx,.inl ⟨rfl,tb,ta⟩⟩
 rw[if_neg k2];obtain⟨hq,hc⟩:=h.clk hp.c;have hlen:∀S,(setC R p.c S).cl.length=R.cl.length:=λS=>List.length_set
 by_cases k3:p.kind=3
 . rw[if_pos k3]
   exact⟨D,h.setK (Int.le_refl _) (JsQ hc h.lk p.c (hp.told k3)),Ext.refl D,hlen _,λi x hx=>hx,.inl ⟨rfl,rfl,rfl⟩⟩
 rw[if_neg k3]
 by_cases k4:p.kind=4
 . rw[if_pos k4]
   exact⟨D,h.setK (Int.le_refl _) (JoM hc p.id),Ext.refl D,hlen _,λi x hx=>hx,.inl ⟨rfl,rfl,rfl⟩⟩
 . rcases hp.kind with e|e|e|e
   . exact absurd e k1
   . exact absurd e k2
   . exact absurd e k3
   . exact absurd e k4
theorem Inv.askK(h:Inv l0 n D R){k:Nat}(hk:k<R.cl.length):okPk R.E D R.cl.length (askP R k):=by
 obtain⟨hq,hc⟩:=h.clk hk;have hr:=hc.revle h.lk;unfold askP
 split
 . exact⟨hk,.inr (.inl rfl),⟨hc.rev,hr⟩,λe=>(by cases e),λe=>(by cases e)⟩
 . rename_i hm
   obtain⟨g,hp⟩:=Jhe hc.ok hm;exact⟨hk,.inl rfl,⟨hc.rev,hr⟩,λ_=>⟨rfl,rfl,_,hc.seen,g,hp⟩,λe=>(by cases e)⟩
theorem Inv.sendK(h:Inv l0 n D R){k:Nat}(hk:k<R.cl.length):Inv l0 n D (JdO R k):=h.send (h.askK hk)
theorem Inv.edit(h:Inv l0 n D R){k:Nat}(hk:k<R.cl.length)(q:List Pt):Inv l0 (n+1) D (Jmk R k q) :=
 h.setK (by omega) (JsR (h.clk hk).2 q)
theorem Inv.deliv(h:Inv l0 n D R)(i:Nat) :
    ∃ D',Inv l0 n D' (Jcn l0 R i)/\Ext D D'/\(Jcn l0 R i).cl.length=R.cl.length /\
     (D'=D/\(Jcn l0 R i).E=R.E/\(Jcn l0 R i).t=R.t\/D'=D++[(Jcn l0 R i).t]/\(Jcn l0 R i).E.length=R.E.length+1):=by
 unfold Jcn
 cases hp:R.fl[i]? with
 | none=>exact⟨D,h,Ext.refl D,rfl,.inl ⟨rfl,rfl,rfl⟩⟩
 | some p =>
  obtain⟨D',a,b,c,_,d⟩:=(h.out i).comes (p:=p) (h.pks p (List.mem_of_getElem? hp));exact⟨D',a,b,c,d⟩
theorem Inv.twice(h:Inv l0 n D R){i:Nat}{p:Pk}(hp:R.fl[i]?=some p):Inv l0 n D (JbK R p):=h.send (h.pks p (List.mem_of_getElem? hp))
/-! how much there may be -/
theorem Jh1(a b:List Pk):Jaz (a++b)=Jaz a+Jaz b:=by simp[Jaz]
theorem Jm6(p:Pk):1<=wP p/\wP p<=400:=by unfold wP;split<;>omega
theorem Jkf:∀fl:List Pk,fl.length<=Jaz fl/\Jaz fl<=400*fl.length
 | []=>by simp[Jaz]
 | p :: fl=>by
  have:=Jkf fl;have:=Jm6 p;have e:Jaz (p :: fl)=wP p+Jaz fl:=by simp[Jaz]
  rw[e,List.length_cons];omega
theorem JpF(R:Rm)(p:Pk)(hp:wP p=1):potR (JbK R p)=potR R+1:=by
 unfold potR JbK
 split
 . simp only;omega
 . simp only[Jh1]
   have:Jaz [p]=1:=by simp[Jaz,hp]
   omega
theorem JiH(R:Rm)(p:Pk):Jaz (JbK R p).fl<=Jaz R.fl+wP p:=by
 unfold JbK
 split
 . simp only;omega
 . simp only[Jh1]
   have:Jaz [p]=wP p:=by simp[Jaz]
   omega
theorem Jfj(R:Rm)(p:Pk):potR (JbK R p)<=potR R+400:=by
 have:=Jm6 p;unfold potR JbK
 split
 . simp only;omega
 . simp only[Jh1]
   have:Jaz [p]=wP p:=by simp[Jaz]
   omega
theorem Jnd(k:Nat):∀(xs:List SE)(f:Int)(R:Rm),potR (Jeu k f xs R)=potR R+xs.length/\Jaz (Jeu k f xs R).fl<=Jaz R.fl+xs.length
 | [],_,_=>⟨rfl,nlr _⟩
 | x :: xs,f,R=>by
  obtain⟨i1,i2⟩:=Jnd k xs (f+1) (JbK R ⟨3,k,f,0,x⟩);have e:wP ⟨3,k,f,0,x⟩=1:=rfl;have h1:=JpF R ⟨3,k,f,0,x⟩ e;have h2:=JiH R ⟨3,k,f,0,x⟩;have u:Jeu k f (x :: xs) R=Jeu k (f+1) xs (JbK R ⟨3,k,f,0,x⟩):=rfl;rw[u,List.length_cons];omega
theorem Jnc(R:Rm)(k:Nat)(f:Int):potR (JcJ R k f)<=potR R+R.E.length/\Jaz (JcJ R k f).fl<=Jaz R.fl+R.E.length:=by
 unfold JcJ
 split
 . omega
 . obtain⟨i1,i2⟩:=Jnd k (R.E.drop f.toNat) f R
   have:=List.length_drop (i:=f.toNat) (l:=R.E);omega
theorem JgT(l0:Int)(R:Rm)(p:Pk)(hE:(JcF l0 R p).E.length<=300):potR (JcF l0 R p)+1<=potR R+wP p+(if p.kind=1\/p.kind=2 then 0 else 1)/\Jaz (JcF l0 R p).fl+1<=Jaz R.fl+wP p:=by
 unfold JcF at *
 by_cases k1:p.kind=1
 . rw [if_pos k1]at hE ⊢
   have w1:wP p=400:=by unfold wP;rw[if_pos (.inl k1)]
   obtain⟨a,b,c,d,e⟩:=Jlg l0 R p;rw[b]at hE;obtain⟨i1,i2⟩:=Jnc (srvR l0 R p) p.c p.rev;have p0:potR (srvR l0 R p)=potR R+1:=by unfold potR;show R.n+1+R.lost+Jaz R.fl=_;omega
   have w0:Jaz (srvR l0 R p).fl=Jaz R.fl:=rfl;rw[w1,if_pos (.inl k1)];unfold askR
   split
   . have h1:=JpF (JcJ (srvR l0 R p) p.c p.rev) (Je9 p) rfl
     have h2:=JiH (JcJ (srvR l0 R p) p.c p.rev) (Je9 p);have:wP (Je9 p)=1:=rfl;omega
   . omega
 rw[if_neg k1]at hE ⊢
 by_cases k2:p.kind=2
 . rw[if_pos k2]at hE ⊢
   have w1:wP p=400:=by unfold wP;rw[if_pos (.inr k2)]
   obtain⟨i1,i2⟩:=Jnc R p.c p.rev;obtain⟨ta,tb,tc,td,te⟩:=Jfd R p.c p.rev;rw[tb]at hE;rw[w1,if_pos (.inr k2)];omega
 rw[if_neg k2]at hE ⊢;have hk:¬(p.kind=1\/p.kind=2):=λe=>e.elim k1 k2;have w1:wP p=1:=by unfold wP;rw[if_neg hk]
 have hs:∀S,potR (setC R p.c S)=potR R/\Jaz (setC R p.c S).fl=Jaz R.fl:=λS=>⟨rfl,rfl⟩;rw[if_neg hk,w1]
 by_cases k3:p.kind=3
 . rw[if_pos k3];have:=hs (tkS p.c (clK R p.c).2 p.rev p.x.c p.x.i p.x.op);omega
 rw[if_neg k3]
 by_cases k4:p.kind=4
 . rw[if_pos k4];have:=hs (rfS (clK R p.c).2 p.id);omega
 . rw[if_neg k4];omega
/-! until nothing is under way -/
theorem JfZ(l0:Int)(n:Nat)(R:Rm)(h:R.fl=[]):Jdo l0 n R=R:=by
 cases n with
 | zero=>rfl
 | succ n=>unfold Jdo;rw[h]
theorem Jg3(l0:Int)(n:Nat)(R:Rm)(p:Pk)(fl:List Pk)(h:R.fl=p :: fl):Jdo l0 (n+1) R=Jdo l0 n (JcF l0 { R with fl:=fl } p):=by
 conv=>lhs;unfold Jdo
 rw[h]
theorem JlS(h:R.fl=p :: fl):outR R 0 = { R with fl:=fl }:=by
 unfold outR;rw[h];rfl
theorem JkP(h:R.fl=p :: fl):Jcn l0 R 0=JcF l0 { R with fl:=fl } p:=by
 have e:R.fl[0]?=some p:=by rw[h];rfl
 unfold Jcn;rw[e,←JlS h]
theorem Inv.settleM{l0 n:Int}:∀(m:Nat)(D:List (List UInt8))(R:Rm),Inv l0 n D R->Jaz R.fl<=m ->
    ∃D',Inv l0 n D' (Jdo l0 m R)/\Ext D D'/\(Jdo l0 m R).cl.length=R.cl.length/\(Jdo l0 m R).fl=[]/\potR (Jdo l0 m R)<=potR R/\∀m',Jaz R.fl<=m'->Jdo l0 m' R=Jdo l0 m R
 | 0, D,R,h,hw=>by
  have hf:R.fl=[]:=by
   have:=(Jkf R.fl).1;exact List.eq_nil_of_length_eq_zero (by omega)
  exact⟨D,h,Ext.refl D,rfl,hf,nlr _,λm' _=>JfZ l0 m' R hf⟩
 | m + 1, D,R,h,hw=>by
  cases hf:R.fl with
  | nil =>
   rw[JfZ l0 (m+1) R hf];exact⟨D,h,Ext.refl D,rfl,hf,nlr _,λm' _=>JfZ l0 m' R hf⟩
  | cons p fl =>
   have hp:=h.pks p (by rw[hf];simp);have ho:=h.out 0;rw[JlS hf]at ho;obtain⟨D1,i1,i2,i3,_,_⟩:=ho.comes (p:=p) hp;obtain⟨q1,q2⟩:=JgT l0 { R with fl:=fl } p i1.few;have e1:Jaz R.fl=wP p+Jaz fl:=by rw[hf];simp[Jaz]
   have hwc:Jaz (JcF l0 { R with fl:=fl } p).fl<=m:=by
    have:Jaz ({ R with fl:=fl }:Rm).fl=Jaz fl:=rfl;omega
   obtain⟨D2,j1,j2,j3,j4,j5,j6⟩:=Inv.settleM m D1 _ i1 hwc;rw[Jg3 l0 m R p fl hf];refine⟨D2,j1,i2.trans j2,by rw[j3,i3],j4,?_,λm' hm'=>?_⟩
   . have e2:potR ({ R with fl:=fl }:Rm)+wP p=potR R:=by
       unfold potR;show R.n+R.lost+Jaz fl+wP p=R.n+R.lost+Jaz R.fl;omega
     split at q1<;>omega
   . have:=Jm6 p
     rw[←hf]at hm';obtain⟨m'',rfl⟩:∃m'',m'=m''+1:=⟨m' - 1,by omega⟩;rw[Jg3 l0 m'' R p fl hf];refine j6 m'' ?_;have:Jaz ({ R with fl:=fl }:Rm).fl=Jaz fl:=rfl;omega
theorem Inv.settle(h:Inv l0 n D R):∃D',Inv l0 n D' (Jbw l0 R)/\Ext D D'/\(Jbw l0 R).cl.length=R.cl.length/\(Jbw l0 R).fl=[]/\potR (Jbw l0 R)<=potR R:=by
 obtain⟨D',a,b,c,d,e,_⟩:=Inv.settleM _ D R h (nlr _);exact⟨D',a,b,c,d,e⟩
theorem Inv.stepM(h:Inv l0 n D R)(hf:R.fl≠[]):Jbw l0 (Jcn l0 R 0)=Jbw l0 R/\Jaz (Jcn l0 R 0).fl<Jaz R.fl:=by
 cases hfl:R.fl with
 | nil=>exact absurd hfl hf
 | cons p fl =>
  have hp:=h.pks p (by rw[hfl];simp);have ho:=h.out 0;rw[JlS hfl]at ho;obtain⟨D1,i1,i2,i3,_,_⟩:=ho.comes (p:=p) hp;obtain⟨q1,q2⟩:=JgT l0 { R with fl:=fl } p i1.few;have e1:Jaz R.fl=wP p+Jaz fl:=by rw[hfl];simp[Jaz]
  have e2:Jaz ({ R with fl:=fl }:Rm).fl=Jaz fl:=rfl;rw[JkP hfl];refine⟨?_,by rw[←hfl];omega⟩;unfold Jbw;obtain⟨m,hm⟩:∃m,Jaz R.fl=m+1:=⟨Jaz R.fl - 1,by have:=Jm6 p;omega⟩;have hwc:Jaz (JcF l0 { R with fl:=fl } p).fl<=m:=by omega
  obtain⟨D2,_,_,_,_,_,j6⟩:=Inv.settleM _ D1 _ i1 (nlr (Jaz (JcF l0 { R with fl:=fl } p).fl));rw[hm,Jg3 l0 m R p fl hfl];exact(j6 m hwc).symm
theorem Inv.quietM{l0 n:Int}:∀(m k:Nat)(D:List (List UInt8))(R:Rm),Inv l0 n D R->k+m=R.cl.length->∃D',Inv l0 n D' (Jd5 l0 m k R)/\Ext D D'/\(Jd5 l0 m k R).cl.length=R.cl.length/\(R.fl=[]->(Jd5 l0 m k R).fl=[])/\potR (Jd5 l0 m k R)<=potR R+400*m
 | 0,k,D,R,h,_=>⟨D,h,Ext.refl D,rfl,λh=>h,nlr _⟩
 | m+1,k,D,R,h,hk=>by
  have h1:=h.sendK (k:=k) (by omega);have hc:(JdO R k).cl.length=R.cl.length:=by unfold JdO;rw[(Jdp _ _).2.2.2.2]
  obtain⟨D1,i1,i2,i3,i4,i5⟩:=h1.settle;obtain⟨D2,j1,j2,j3,j4,j5⟩:=Inv.quietM m (k+1) D1 _ i1 (by rw[i3,hc];omega);have hp:=Jfj R (askP R k);refine⟨D2,j1,i2.trans j2,by show(Jd5 l0 m (k+1) _).cl.length=_;rw[j3,i3,hc],λ_=>j4 i4,?_⟩;show potR (Jd5 l0 m (k+1) _)<=_;have hp:potR (JdO R k)<=potR R+400:=hp;omega
theorem Inv.quiet(h:Inv l0 n D R):∃D',Inv l0 n D' (JeI l0 R)/\Ext D D'/\(JeI l0 R).cl.length=R.cl.length/\(JeI l0 R).fl=[]/\potR (JeI l0 R)<=potR R+400*R.cl.length:=by
 obtain⟨D1,i1,i2,i3,i4,i5⟩:=h.settle;obtain⟨D2,j1,j2,j3,j4,j5⟩:=Inv.quietM R.cl.length 0 D1 _ i1 (by rw[i3];omega);exact⟨D2,j1,i2.trans j2,by rw[show(JeI l0 R).cl.length=(Jd5 l0 R.cl.length 0 (Jbw l0 R)).cl.length from rfl,j3,i3],j4 i4,by show potR (Jd5 l0 R.cl.length 0 (Jbw l0 R))<=_;omega⟩
end
section
attribute [local go_sem] Oper.semAt_some Jaj JaD
variable {lo bmx : Nat}{w : World}{R : Rm}
theorem JmU(R:Rm)(p:Pk)(h:R.fl.length<=400):(JbK R p).lost<=R.lost+1/\(JbK R p).fl.length<=400:=by
 unfold JbK
 split
 . exact⟨nlr _,h⟩
 . exact⟨Nat.le_succ _,by show(R.fl++[p]).length<=400;rw[List.length_append,List.length_singleton];omega⟩
theorem Jkq(k:Nat):∀(xs:List SE)(f:Int)(R:Rm),R.fl.length<=400->(Jeu k f xs R).lost<=R.lost+xs.length/\(Jeu k f xs R).fl.length<=400
 | [],_,_,h=>⟨nlr _,h⟩
 | x :: xs,f,R,h=>by
  obtain⟨a,b⟩:=JmU R ⟨3,k,f,0,x⟩ h;obtain⟨c,d⟩:=Jkq k xs (f+1) _ b;rw[List.length_cons];exact⟨by show(Jeu k (f+1) xs (JbK R ⟨3,k,f,0,x⟩)).lost<=_;omega,d⟩
theorem isLog_F{base:Nat}{w':World}{v1:Value}{E:List SE}(h:JcY 154 lo base w v1 E)(hs:sameBut w w' (Jsl lo w)):JcY 154 lo base w' v1 E :=
 Jel h hs λk ⟨a,cs,T,hc,hT⟩=>⟨a,Ja8 hc (by rcases hT with rfl|rfl<;>decide),λcs' fz hc'=>by
  have:=JaB hc hc';subst this
  rcases hT with e|e<;>revert e<;>decide⟩
theorem Jcd{w1 w2:World}(h:sameBut w w1 (JaE lo w bmx))(h':sameBut w1 w2 (JaE lo w1 bmx)):sameBut w w2 (JaE lo w bmx):=h.comp h' λk hk e=>by
 by_cases hc:JaE lo w bmx k
 . exact hc
 . obtain ⟨a,e | ⟨cs,T,hb,hT⟩⟩:=e
   . exact absurd ⟨a,.inl e⟩ hc
   . rw[h.2 k hk hc]at hb
     exact⟨a,.inr ⟨cs,T,hb,hT⟩⟩
theorem Jsn{k:Nat}{f:Int}{xs:List SE}{R':Rm}{i:Nat}{x:SE}(h:Jeu k (f+(i:Int)) (xs.drop i) R'=Jeu k f xs R)(hx:xs[i]?=some x):Jeu k (f+((i+1:Nat):Int)) (xs.drop (i+1)) (JbK R' ⟨3,k,f+(i:Int),0,x⟩)=Jeu k f xs R:=by
 have hi:i<xs.length:=(llt hx);rw[List.drop_eq_getElem_cons hi]at h;rw[lgg hi]at hx;rw[osi hx]at h;rw[←h,show f+((i+1:Nat):Int)=f+(i:Int)+1 by omega];rfl
theorem JmY{r bx:Nat}{bs:List Nat}{l0:Int}(h:isRoom lo w r bx bmx bs R)(hok:okS l0 R.t R.E)(hE:R.E.length<=300)(K m:Nat)(hm:m<=R.E.length)(hlost:R.lost<=100000000000)(hfl:R.fl.length<=400) :
    Cg 166 #[Pd r 0,I6 (K:Int),I6 (m:Int)] w λe w'=>e=.returned (.tuple #[])/\isRoom lo w' r bx bmx bs (JcJ R K (m:Int))/\keptF w w' r:=by
 have hlo:lo<=w.heap.size:=Nat.le_of_lt (Nat.lt_of_le_of_lt h.low (Jbs h));have CL:Hid _:=Jsx h.srv hok m hm (by omega);have HT:Hid (JcJ R K (m:Int)=Jeu K (m:Int) (R.E.drop m) R):=by
  show JcJ R K (m:Int)=_;unfold JcJ;rw[if_neg (by omega),Int.toNat_natCast]
 have HR:Hid (∀w1,Bw w w1->isRoom lo w1 r bx bmx bs R):=λw1 hb=>Jal h hb;have x0:w.cell? (Ad r 0)=some (Pd bx 0):=by
  obtain⟨pc,cc,pf,cf,h2,_⟩:=Jb5 h;exact chp h2 0
 obtain⟨xs,hxs⟩:∃xs,R.E.drop m=xs:=⟨_,rfl⟩;have hxl:xs.length<=300:=by rw[←hxs,List.length_drop];omega
 rw[hxs]at CL HT;have hm1:(m:Int)<=300:=by omega
 have hxi:(xs.length:Int)<=300:=by omega
 have HLOST:=hdz hlost;have HRL:=hdz (Jbs h);have HFL:=hdz hfl;clear h hok hE hm hlost hfl hxs hlo;rw[HT.out]
 go_enter func166,ntmps166
 go_wp2_with (go_at_call 217;refine Calls.mono CL.out ?_;rintro e w1 ⟨v1,rfl,hl1,hb1⟩;obtain⟨pl,cl,rfl⟩:=JbH hl1;have HL1:=hdz hl1;have HB1:=hdz hb1;clear hl1 hb1)
 go_loopw [21] (λi wr=>∃k:Nat,i=.int .i64 k/\k<=xs.length/\∃R',Jeu K ((m:Int)+(k:Int)) (xs.drop k) R'=Jeu K (m:Int) xs R/\isRoom lo wr r bx bmx bs R'/\keptF w1 wr r/\R'.lost<=R.lost+k/\R'.fl.length<=400) (λi _=>xs.length - (intOf i).toNat)
 case atStart=>exact⟨0,rfl,Nat.zero_le _,R,by simp,HR.out _ HB1.out,Jdr (Jbs (HR.out _ HB1.out)) (brf _ _),nlr _,HFL.out⟩
 case round =>
  obtain⟨k,rfl,hk,R',e1,e2,e3,e4,e5⟩:=hrel;have E1:=hdz e1;have E2:=hdz e2;have E3:=hdz e3;have E4:Hid (R'.lost<=R.lost+k/\R'.fl.length<=400):=⟨e4,e5⟩;have hki:(k:Int)<=300:=by omega
  clear e1 e2 e3 e4 e5
  by_cases hlt:k<xs.length
  . have hx:xs[k]?=some xs[k]:=lgg hlt
    have hne:xs≠[]:=by intro e;rw[e]at hlt;exact absurd hlt (Nat.not_lt_zero _)
    have hl2:=isLog_F HL1.out (keptF.touch E3.out (HR.out _ HB1.out));obtain⟨g,rfl,hgl,_,hc1,hc2,hat⟩:=Jmb hl2 hne;obtain⟨vx,a0,a1,a2,hop⟩:=hat k _ hx;obtain⟨pv,cv,rfl⟩:=JaO hop;have HX:=hdz hx;generalize xs[k]=x at *;have HOP:=hdz hop;have hwr:wrap64 ((m:Int)+(k:Int))=(m:Int)+(k:Int):=Jar (by omega) (by omega);have hki2:(k:Int)<(xs.length:Int):=by omega
    have CS:Hid (∀o,Cg 104 #[Pd r 0,pkV ⟨3,K,(m:Int)+(k:Int),0,x⟩ (.slice pv x.op.length cv)] (wr.alloc o) λe w'=>e=.returned (.tuple #[])/\isRoom lo w' r bx bmx bs (JbK R' ⟨3,K,(m:Int)+(k:Int),0,x⟩)/\keptF (wr.alloc o) w' r):=λo=>JeG (Jal E2.out ((brf _ _).alloc (nlr _) o)) _ _ (Ja1 HOP.out ((brf _ _).alloc (nlr _) o)) (by have:=E4.out.1;have:=HLOST.out;omega) E4.out.2;unfold pkV at CS;clear hat hop hx hl2 hne hc1 hc2
    go_wp2_with (go_at_call 104;refine(CS.out _).mono ?_;rintro e w2 ⟨rfl,h2,hs2⟩;have H2:=hdz h2;have HS2:Hid _:=keptF.trans (keptF.trans E3.out (Jdr (Jbs E2.out) (zA _ _))) hs2;clear h2 hs2)
    go_roundw
    case rel =>
     obtain⟨s1,s2⟩:=JmU R' ⟨3,K,(m:Int)+(k:Int),0,x⟩ E4.out.2;exact⟨k+1,by go_num,by omega,_,Jsn E1.out HX.out,H2.out,HS2.out,by have:=E4.out.1;omega,s2⟩
    case measure=>simp[intOf];omega
  . obtain rfl:k=xs.length:=by omega
    have hki2:¬((xs.length:Int)<(xs.length:Int)):=by omega
    go_wp2;go_end0;have e:=E1.out;rw[List.drop_length]at e;rw[←e];exact⟨rfl,E2.out,keptF.trans (Jdr HRL.out HB1.out) E3.out⟩
end
section
attribute [local go_sem] Oper.semAt_some
variable {lo b : Nat}{w : World}{who u : Int}{S : Cl}
theorem JlX{vm:Value}{ms:List (List Pt)}(h:Jdc lo w vm ms)(hm:ms≠[]):∃g c,vm=Sl g ms.length c:=by
 obtain⟨vs,_,h2,_⟩:=h
 rcases h2.2 with ⟨_,e⟩|⟨g,cap,cur,e,_⟩
 . exact absurd (List.eq_nil_of_length_eq_zero e) hm
 . exact⟨g,cap,e⟩
theorem two_of{α:Type}{l:List α}(h:l.length=2):∃a b,l=[a,b]:=by
 match l,h with
 | [a,b],_=>exact⟨a,b,rfl⟩
theorem Jij{w':World}{g:Nat}(h:w.grownBy w' (some g)):sameBut w w' λk=>k=g:=Jbb h λk e=>(osi e).symm
theorem clLand1(h:isCl lo w b who u S){m1:List Pt}(hm:S.mine=[m1]) :
    Cg 218 #[Pd b 0] w λe w'=>e=.returned (.tuple #[])/\isCl lo w' b who u { S with mine:=[] }/\keptC w w' b:=by
 have hlt:=Jcq h;obtain⟨hlo,vm,h3,h4⟩:=h;obtain⟨g,c,rfl⟩:=JlX h4 (by rw[hm];simp);have hg:=Jci h4 (k:=g) rfl;have hgb:g≠b:=λe=>by
  obtain⟨_,_,cs,hc⟩:=hg;subst e;have:=JaB h3 hc;revert this;decide
 obtain⟨vs,q1,q2,q3⟩:=h4;have hl1:S.mine.length=1:=by rw[hm];rfl
 rw[hl1]at q2 h3;obtain⟨x0,rfl⟩:∃x0,vs=[x0]:=List.length_eq_one_iff.1 (by rw[q1,hl1]);have CD:Hid _:=del1 q2;obtain⟨_,_,_,_,x4,_,_,_,xf⟩:=Jay h3;have f4:=xf 4;have H3:=hdz h3;have HLO:=hdz hlo;clear h3 q1 q2 q3 hl1 xf hm hlo hg
 go_enter func218,ntmps218
 go_wp2_with (go_at_call 9999)
 refine Calls.mono CD.out ?_;rintro e w1 ⟨rfl,hown,hgr⟩;have hs:=Jij hgr;have hb1:w1.heap[b]?=some (Oc (Jb7 who u S (Sl g 1 c)) 90):=(hs.2 b hlt λe=>hgb e.symm).trans H3.out;have y4:w1.cell? (Ad b 4)=some (Sl g 1 c):=(Jay hb1).2.2.2.2.1;have z4:=fZ hb1 4;have b2:=heap_setCell_same w1 b 4 _ _ (Sl g 0 c) hb1;have hs1:sameBut w1 (w1.setCell (Ad b 4) (Sl g 0 c)) (λk=>k=b):=Jat (S:=λk=>k=b) rfl;have hmn:Jdc lo (w1.setCell (Ad b 4) (Sl g 0 c)) (Sl g 0 c) []:=⟨[],rfl,JcP hown hs1 (λk hk e=>hgb ((osi hk).trans e)),λi m x hi=>by simp at hi⟩
 have HB6:Hid (isCl lo (w1.setCell (Ad b 4) (Sl g 0 c)) b who u { S with mine:=[] }/\keptC w (w1.setCell (Ad b 4) (Sl g 0 c)) b) :=
  JeA HLO.out H3.out b2 hmn ((hs.mono λk _ e=>.inr (congrArg some e.symm)).comp hs1 λk _ e=>.inl e) λk hk=>.inl hk
 have CP:Hid _:=JbB HB6.out.1;have hp0:decide (0<({ S with mine:=[] }:Cl).mine.length)=false:=rfl;rw[hp0]at CP;clear hown hgr hs hb1 b2 hs1 hmn hp0
 go_wp2_with (go_at_call 67;refine Calls.mono CP.out ?_;rintro e w2 ⟨rfl,hb2⟩;have HB2:=hdz hb2;clear hb2)
 go_end0;exact⟨rfl,Jbm HB6.out.1 HB2.out,HB6.out.2.trans (JbG HB2.out (Jcq HB6.out.1))⟩
theorem clLand2(h:isCl lo w b who u S){m1 m2:List Pt}(hm:S.mine=[m1,m2])(hid:0<=S.id/\S.id<=1000000) :
    Cg 218 #[Pd b 0] w λe w'=>e=.returned (.tuple #[])/\isCl lo w' b who u { S with mine:=[m2],id:=S.id+1 }/\keptC w w' b:=by
 have hlt:=Jcq h;obtain⟨hlo,vm,h3,h4⟩:=h;obtain⟨g,c,rfl⟩:=JlX h4 (by rw[hm];simp);have hg:=Jci h4 (k:=g) rfl;have hgb:g≠b:=λe=>by
  obtain⟨_,_,cs,hc⟩:=hg;subst e;have:=JaB h3 hc;revert this;decide
 have hgp:lo<=g/\Jdb w g:=by
  obtain⟨e,_,cs,hc⟩:=hg;exact⟨e,Ja8 hc (by decide)⟩
 obtain⟨vs,q1,q2,q3⟩:=h4;have hl1:S.mine.length=2:=by rw[hm];rfl
 rw[hl1]at q2 h3;obtain⟨x0,x1,rfl⟩:∃x0 x1,vs=[x0,x1]:=two_of (by rw[q1,hl1]);have ho1:opX lo w x1 m2:=q3 1 m2 x1 (by rw[hm];rfl) rfl;obtain⟨p1,c1,rfl⟩:=JaO ho1;have CD:Hid _:=del2 q2;have HO1:=hdz ho1;obtain⟨_,_,_,_,x4,_,_,_,xf⟩:=Jay h3;have H3:=hdz h3;have HLO:=hdz hlo;have HGP:=hdz hgp;have hid1:wrap64 (S.id+1)=S.id+1:=Jar (by omega) (by omega);obtain⟨i0,i1⟩:=hid;generalize hln:m2.length=ln at *;clear h3 q1 q2 q3 hl1 xf hm hlo hg ho1 hgp
 go_enter func218,ntmps218
 go_wp2_with (go_at_call 9999)
 refine Calls.mono CD.out ?_;rintro e w1 ⟨rfl,hown,hgr⟩;have hs:=Jij hgr;have hb1:w1.heap[b]?=some (Oc (Jb7 who u S (Sl g 2 c)) 90):=(hs.2 b hlt λe=>hgb e.symm).trans H3.out;have y4:w1.cell? (Ad b 4)=some (Sl g 2 c):=(Jay hb1).2.2.2.2.1;have z4:=fZ hb1 4;have b2:=heap_setCell_same w1 b 4 _ _ (Sl g 1 c) hb1;have hs1:sameBut w1 (w1.setCell (Ad b 4) (Sl g 1 c)) (λk=>k=b):=Jat (S:=λk=>k=b) rfl;have hsA:sameBut w (w1.setCell (Ad b 4) (Sl g 1 c)) (λk=>k=b\/k=g):=(hs.mono λk _ e=>.inr e).comp hs1 λk _ e=>.inl e
 have hmn:Jdc lo (w1.setCell (Ad b 4) (Sl g 1 c)) (Sl g 1 c) [m2]:=⟨[.slice p1 ln c1],rfl,JcP hown hs1 (λk hk e=>hgb ((osi hk).trans e)),λi m x hi hx=>by
  cases i with
  | succ i=>simp at hi
  | zero =>
   obtain rfl:m2=m:=by simpa using hi
   obtain rfl:Value.slice p1 ln c1=x:=by simpa using hx
   exact JbI HO1.out hsA λk _ hk=>by
    rcases hk with rfl|rfl
    . exact⟨HLO.out,Ja8 H3.out (by decide)⟩
    . exact HGP.out⟩
 have HB6:Hid (isCl lo (w1.setCell (Ad b 4) (Sl g 1 c)) b who u { S with mine:=[m2] }/\keptC w (w1.setCell (Ad b 4) (Sl g 1 c)) b) :=
  JeA HLO.out H3.out b2 hmn (hsA.mono λk _ e=>e.imp id λe=>congrArg some e.symm) λk hk=>.inl hk
 have HBL:Hid ((w1.setCell (Ad b 4) (Sl g 1 c)).heap[b]?=some (Oc (Jb7 who u { S with mine:=[m2] } (Sl g 1 c)) 90)):=b2;have CP:Hid _:=JbB HB6.out.1;have hp0:decide (0<({ S with mine:=[m2] }:Cl).mine.length)=true:=by simp
 rw[hp0]at CP;clear hown hgr hs hb1 b2 hs1 hmn hp0 hsA
 go_wp2_with (go_at_call 67;refine Calls.mono CP.out ?_;rintro e w2 ⟨rfl,hb2⟩;have HB2:=hdz hb2;have hbk:=(hb2.block b (alt HBL.out)).trans HBL.out;have HBK:=hdz hbk;have u6:w2.cell? (Ad b 6)=some (I6 S.id):=(Jay hbk).2.2.2.2.2.2.1;have uf:=fZ hbk 6;clear hb2 hbk)
 go_end0;refine⟨rfl,?_⟩;have b3:=heap_setCell_same w2 b 6 _ _ (I6 (S.id+1)) HBK.out;have hc2:=Jbm HB6.out.1 HB2.out;obtain⟨_,vm,e3,e4⟩:=hc2;have hvm:vm=Sl g 1 c:=by
  have h1:=(Jay e3).2.2.2.2.1;rw[(Jay HBK.out).2.2.2.2.1]at h1;exact(osi h1).symm
 subst hvm;have hs2:sameBut w2 (w2.setCell (Ad b 6) (I6 (S.id+1))) (λk=>k=b):=Jat (S:=λk=>k=b) rfl;have fin:=JeA (S':={ S with mine:=[m2],id:=S.id+1 }) HLO.out HBK.out b3 (Jds e4 hs2 (λk _ hk=>by obtain rfl:=hk;exact⟨HLO.out,Ja8 HBK.out (by decide)⟩) λk hk e=>hgb ((osi hk).trans e)) (hs2.mono λk _ e=>.inl e) λk hk=>.inl hk;exact⟨fin.1,(HB6.out.2.trans (JbG HB2.out (Jcq HB6.out.1))).trans fin.2⟩
end
section
attribute [local go_sem] Oper.semAt_some Jaj JaD
theorem Jkl:∀(ms:List (List Pt))(m x:List Pt),JbV (ms++[m]) x=((JbV ms x).1++[JaG (Jbj false m (JbV ms x).2)],JaG (Jbj true (JbV ms x).2 m))
 | [],m,x=>rfl
 | a :: ms,m,x=>by
  rw[List.cons_append,JbV,Jkl ms m];rfl
theorem JpY:∀(ms:List (List Pt))(t:List UInt8)(k:Nat)(hk:k<ms.length),Jiq ms t->Jiq (ms.take k) t/\good ms[k] (allM (ms.take k) t)
 | m :: ms,t,0,_,h=>⟨trivial,h.1⟩
 | m :: ms,t,k+1,hk,h=>by
  obtain⟨i1,i2⟩:=JpY ms _ k (by simpa using hk) h.2;exact⟨⟨h.1,i1⟩,i2⟩
structure tuI (lo:Nat) (w:World) (b g:Nat) (VM:Value) (ms:List (List Pt)) (x:List Pt) (CB:Obj) (k:Nat) (v1:Value) (wr:World):Prop where
 le:k<=ms.length
 blk:wr.heap[b]?=some CB
 mine:Jdc lo wr VM ((JbV (ms.take k) x).1++ms.drop k)
 op:opX lo wr v1 (JbV (ms.take k) x).2
 same:sameBut w wr λj=>VM.ownBlock=some j
theorem Jl9(A:List (List Pt))(ms:List (List Pt))(k:Nat)(hk:k<ms.length)(y:List Pt)(hA:A.length=k):(A++ms.drop k).set k y=(A++[y])++ms.drop (k+1):=by
 rw[List.drop_eq_getElem_cons hk,List.set_append,if_neg (by omega),hA,Nat.sub_self,List.append_assoc];rfl
theorem Jry{lo:Nat}{w:World}{b:Nat}{who u:Int}{S:Cl}(h:isCl lo w b who u S)(hk:okK 2000 S)(v:Value)(x:List Pt)(hx:opX lo w v x)(hg:good x S.seen)(hsz:S.seen.length+Jaq x<=500000)(hG:3<lo/\4<lo)(hT:Lib.Utf8Tabs 3 4 w) :
    Cg 219 #[Pd b 0,v] w λe w'=>e=.returned (.tuple #[])/\isCl lo w' b who u { S with mine:=(JbV S.mine x).1,doc:=Jae (JbV S.mine x).2 S.doc }/\keptC w w' b:=by
 have hlt:=Jcq h;obtain⟨hlo,vm,h3,h4⟩:=h;obtain⟨p,c,rfl⟩:=Jcf h4;obtain⟨n,hn⟩:∃n,S.mine.length=n:=⟨_,rfl⟩;have hn2:n<=2:=by have:=hk.two;omega
 rw[hn]at h3 h4;have x4:=(Jay h3).2.2.2.2.1;have HN:=hdz hn;have H3:=hdz h3;have HK:=hdz hk;have HGX:=hdz hg;have HSZ:=hdz hsz;have HLO:=hdz hlo;have HT:=hdz hT;have HGG:=hdz hG;have H0:Hid (tuI lo w b 0 (.slice p n c) S.mine x (Oc (Jb7 who u S (.slice p n c)) 90) 0 v w):=⟨Nat.zero_le _,h3,h4,hx,JfA _ _⟩;have HMO:Hid (∀k,(Value.slice p n c).ownBlock=some k->lo<=k/\k<w.heap.size/\∃cs,w.heap[k]?=some (Oc cs 94)):=λk hk=>Jci h4 hk;obtain⟨pv,cv,rfl⟩:=JaO hx;have hni:(n:Int)<=2:=by omega
 generalize x.length=xn at *;clear h3 h4 hn hk hg hsz hlo hT hx hG
 go_enter func219,ntmps219
 go_wp2
 go_loopw [1,13] (λv1 i wr=>∃k:Nat,i=.int .i64 k/\tuI lo w b 0 (.slice p n c) S.mine x (Oc (Jb7 who u S (.slice p n c)) 90) k v1 wr) (λ_ i _=>n - (intOf i).toNat)
 case atStart=>exact⟨0,rfl,H0.out⟩
 case round =>
  obtain⟨k,rfl,hI⟩:=hrel;have HI:=hdz hI;have hkn:k<=n:=by have:=hI.le;have:=HN.out;omega
  obtain⟨pv1,cv1,hv1⟩:=JaO hI.op;subst hv1;generalize (JbV (S.mine.take k) x).2.length=xl at *;clear H0
  by_cases hlt':k<n
  . have hkr:k<S.mine.length:=by rw[HN.out];exact hlt'
    have hmn:=hI.mine;have htl:(S.mine.take k).length=k:=by rw[List.length_take];omega
    have hAl:(JbV (S.mine.take k) x).1.length=k:=by rw[JgI,htl]
    obtain⟨vs,q1,q2,q3⟩:=hmn;have hll:((JbV (S.mine.take k) x).1++S.mine.drop k).length=n:=by rw[List.length_append,hAl,List.length_drop,HN.out];omega
    obtain ⟨g,rfl⟩:∃g,p=some (Ad g 0):=by
     rcases q2.2 with ⟨_,e⟩|⟨g,cap,cur,e,_⟩
     . rw[hll]at e;omega
     . injection e with e1 _ _;exact⟨g,e1⟩
    have hgm:=HMO.out g rfl;have hgb:g≠b:=λe=>by
     obtain⟨_,_,cs,hc⟩:=hgm;subst e;have:=JaB H3.out hc;revert this;decide
    have hvk:k<vs.length:=by rw[q1,hll];omega
    have hok:opX lo wr vs[k] S.mine[k]:=q3 k S.mine[k] vs[k] (by rw[List.getElem?_append_right (by omega),hAl,Nat.sub_self,List.getElem?_drop,Nat.add_zero];exact lgg hkr) (lgg hvk);have hck:wr.cell? (Ad g k)=some vs[k]:=by
     rw[hll]at q2;rw[World.ownsRow.cellAt q2 k (by omega)];exact lgg hvk
    obtain⟨gA,gm⟩:=JpY S.mine S.seen k hkr HK.out.all;obtain⟨_,gX,_⟩:=JfW (S.mine.take k) x S.seen HGX.out gA;have hpA:∀m∈S.mine.take k,Jaq m<=2000:=λm hm=>HK.out.puts m (List.mem_of_mem_take hm);have hsz:=HSZ.out;have hpx:=(JfV 2000 (S.mine.take k) x S.seen HGX.out gA hpA (by rw[htl];omega) (by omega)).2;have hTl:=JiE 2000 (S.mine.take k) S.seen gA hpA;rw[htl]at hTl;have hpm:=HK.out.puts S.mine[k] (List.getElem_mem hkr);have hTr:Lib.Utf8Tabs 3 4 wr:=JgL HT.out hI.same (λe=>by have:=(HMO.out _ e).1;have:=HGG.out.1;omega) (λe=>by have:=(HMO.out _ e).1;have:=HGG.out.2;omega);obtain⟨X,hX⟩:∃X,(JbV (S.mine.take k) x).2=X:=⟨_,rfl⟩;obtain⟨mk,hmk⟩:∃mk,S.mine[k]=mk:=⟨_,rfl⟩;have hop:=hI.op;rw[hX]at gX hpx hop;rw[hmk]at gm hpm hok;have CT1:=hdz λwx (hb:Bw wr wx)=>Jtg _ _ true X mk _ wx (Go.Proofs.Utf8Tabs_below hTr hb) (Ja1 hop hb).1 (Ja1 hok hb).1 gX gm (by omega) (by omega);have CT2:=hdz λwx (hb:Bw wr wx)=>Jtg _ _ false mk X _ wx (Go.Proofs.Utf8Tabs_below hTr hb) (Ja1 hok hb).1 (Ja1 hop hb).1 gm gX (by omega) (by omega);have HTK:Hid (JbV (S.mine.take (k+1)) x=((JbV (S.mine.take k) x).1++[JaG (Jbj false mk X)],JaG (Jbj true X mk))):=by
     show _=_;rw[List.take_succ_eq_append_getElem hkr,Jkl,hX,hmk]
    have HSET:Hid (∀y,((JbV (S.mine.take k) x).1++S.mine.drop k).set k y=((JbV (S.mine.take k) x).1++[y])++S.mine.drop (k+1)):=λy=>Jl9 _ _ k hkr y hAl;generalize hXv:vs[k]=xv at *;obtain⟨pk,ck,rfl⟩:=JaO hok;generalize JaG (Jbj true X mk)=Y1 at *;generalize JaG (Jbj false mk X)=Y2 at *;have HMN:=hdz hI.mine;have HBK:=hdz hI.blk;have HSM:=hdz hI.same;have HGM:=hdz hgm;have HLL:Hid (k+1<=S.mine.length):=hkr;have hki:(k:Int)<(n:Int):=by omega
    have w4:=(Jay hI.blk).2.2.2.2.1;have hglr:g<wr.heap.size:=Nat.lt_of_lt_of_le hgm.2.1 hI.same.size;have hblr:b<wr.heap.size:=Nat.lt_of_lt_of_le hlt hI.same.size;have hcn:n<=c/\c<=maxLen:=by
     rw[hll]at q2
     rcases q2.2 with ⟨e,_⟩|⟨g',cap,cur,e,_,_,e5,e6,_⟩
     . cases e
     . injection e with _ _ e;subst e;exact⟨e5,e6⟩
    obtain⟨hcn,hcm⟩:=hcn;unfold maxLen at hcm;generalize mk.length=ml at *;clear hI HI q1 q2 q3 hvk hok gA gm gX hpA hsz hpx hTl hpm hTr hX hmk hop hXv htl hAl hll hkr hgm
    go_wp2_with (go_at_call 259;refine(CT1.out _ (brf _ _)).mono ?_;rintro e w5 ⟨v5,rfl,hn5,hb5⟩;obtain⟨p5,c5,rfl⟩:=Jei hn5;have HN5:=hdz hn5;have HB5:=hdz hb5;have u4:=((zC hb5 b 4 hblr).trans w4);clear hn5 hb5)
    have hB5:=HB5.out;refine wz (λwx:World=>wx.heap[b]?=some (Oc (Jb7 who u S (Sl g n c)) 90)) 13 ((hB5.block b hblr).trans HBK.out) wzb λw30 hb30 hz0 G hG=>?_;have hb5A:=hB5.trans (hb30.mono hB5.size);have y4:∀x,(G x).cell? (Ad b 4)=some (Sl g n c):=λx=>(Jay (hG.but x)).2.2.2.2.1;(iterate 7 (refine ay hG hz0 λ_ k=>?_;go_simp;apply k;clear k));clear y4;refine aO 7 ⟨_,rfl,?_⟩;intro w31 hb31 K hK
    go_simp
    have hb5B:=hb5A.trans (hb31.mono hb5A.size);refine(CT2.out w31 hb5B).mono ?_;rintro e w32 ⟨v',rfl,hn6,hb32⟩;obtain⟨p6,c6,rfl⟩:=Jei hn6;have HN6:=hdz hn6;have hz2:w32.heap[b]?=some (Oc (Jb7 who u S (Sl g n c)) 90):=((hb5B.trans (hb32.mono hb5B.size)).block b hblr).trans HBK.out;refine⟨_,rfl,hK _ _ (λ_=>hz2) ?_⟩;clear hK K hn6 hz0;refine az hG hz2 8 λ_ k=>?_;go_simp;apply k;clear k;refine az hG hz2 9 λ_ k=>?_;go_simp;apply k;clear k;refine az hG hz2 10 λ_ k=>?_;go_simp;apply k;clear k;refine az hG hz2 11 λ_ k=>?_;go_simp;apply k;clear k;clear hG hz2;refine aO 12 ⟨_,rfl,?_⟩;intro w33 hb33 K hK;have hb5C:=hb5B.trans (hb32.mono hb5B.size);have hbA:Bw wr w33:=hb5C.trans (hb33.mono hb5C.size);have hA3:=(hbA.block b hblr).trans HBK.out;have HA4:Hid _:=JbR HMN.out hbA;have hgr:∃cs,w33.heap[g]?=some (Oc cs 94):=by obtain⟨_,_,e⟩:=Jci HA4.out (k:=g) rfl;exact e
    obtain⟨cs,hcs⟩:=hgr;have zr:=(zC hbA g k hglr).trans hck;have zf:w33.frozen? (Ad g k)=false:=JaP hcs;have HN33:Hid (opX lo w33 (.slice p6 Y2.length c6) Y2):=Ja1 (JbY HN6.out) hb33;have HO33:Hid (opX lo w33 (.slice p5 Y1.length c5) Y1):=Ja1 (JbY HN5.out) (hb30.trans ((hb31.trans ((hb32.trans (hb33.mono hb32.size)).mono hb31.size)).mono hb30.size));have HA3:=hdz hA3;have HBA:=hdz hbA;clear hbA hA3 hb30 hb31 hb32 hb33 hcs hb5A hb5B hb5C hB5
    go_simp
    refine hK _ _ (λ_=>?_) ?_
    . exact(Below.heap_setCell w33 (Ad g k) _ b (λe=>hgb e.symm)).trans HA3.out
    clear hK K;refine ae ?_;intro w34 hb34;obtain⟨vs',r1,r2,r3⟩:=HA4.out;obtain⟨s1,s2⟩:=JpP r1 r2 r3 HN33.out k;rw[HSET.out]at s1;have hbn:=(s2.2 b (alt HA3.out) λe=>hgb (osi e)).trans HA3.out
    have FIN:Hid (tuI lo w b 0 (Sl g n c) S.mine x (Oc (Jb7 who u S (Sl g n c)) 90) (k+1) (.slice p5 Y1.length c5) w34):=by
     refine⟨HLL.out,(hb34.block b (alt hbn)).trans hbn,?_,?_,?_⟩
     . rw[HTK.out];exact JbR s1 hb34
     . rw [HTK.out]
       exact Ja1 (JbI HO33.out s2 λj _ hj=>by
        obtain rfl:g=j:=osi hj;obtain⟨e1,_,cs',e3⟩:=HGM.out;obtain⟨_,_,cs'',e4⟩:=Jci HA4.out (k:=g) rfl
        exact⟨e1,Ja8 e4 (by decide)⟩) hb34
     . exact((HSM.out.trans (Jai HBA.out _)).trans s2).trans (Jai hb34 _)
    have HLT2:=hdz hlt';clear r1 r2 r3 s1 s2 hbn hb34 zr zf;go_wp2
    go_roundw
    case rel=>exact⟨k+1,by go_num,FIN.out⟩
    case measure=>have:=HLT2.out;simp[intOf];omega
  . obtain rfl:k=n:=by omega
    have htk:S.mine.take k=S.mine:=List.take_of_length_le (by rw[HN.out];exact nlr _);have hop:=hI.op;have hmn:=hI.mine;rw[htk]at hop hmn;have hdr:S.mine.drop k=[]:=List.drop_of_length_le (by rw[HN.out];exact nlr _);rw[hdr,List.append_nil]at hmn;obtain⟨_,gX,_⟩:=JfW S.mine x S.seen HGX.out HK.out.all;have hsz:=HSZ.out;have hpx:=(JfV 2000 S.mine x S.seen HGX.out HK.out.all HK.out.puts (by rw[HN.out];omega) (by omega)).2;have hTl:=JiE 2000 S.mine S.seen HK.out.all HK.out.puts;rw[HN.out]at hTl;rw[←HK.out.doc]at gX hTl;have hTr:Lib.Utf8Tabs 3 4 wr:=JgL HT.out hI.same (λe=>by have:=(HMO.out _ e).1;have:=HGG.out.1;omega) (λe=>by have:=(HMO.out _ e).1;have:=HGG.out.2;omega);obtain⟨X,hX⟩:∃X,(JbV S.mine x).2=X:=⟨_,rfl⟩;rw[hX]at gX hpx hop;have HXX:=hdz hX;have CA:Hid _:=Jju _ X S.doc wr hTr hop.1 gX (by omega);have hblr:b<wr.heap.size:=Nat.lt_of_lt_of_le hlt hI.same.size;have w5':=(Jay hI.blk).2.2.2.2.2.1;have HMN:=hdz hmn;have HBK:=hdz hI.blk;have HSM:=hdz hI.same;have hki:¬((k:Int)<(k:Int)):=by omega
    clear hI HI gX hop hmn htk hdr hsz hpx hTl hTr hX
    go_wp2_with (go_at_call 101;refine Calls.mono CA.out ?_;rintro e w2 ⟨rfl,hb2⟩;have HB2:=hdz hb2;have hbk2:=(hb2.block b hblr).trans HBK.out;have HBK2:=hdz hbk2;have u5:=(Jay hbk2).2.2.2.2.2.1;have uf:=fZ hbk2 5;clear hb2 hbk2)
    go_end0;refine⟨rfl,?_⟩;rw[HXX.out];have b1:=heap_setCell_same w2 b 5 _ _ (Sx (Jae X S.doc)) HBK2.out;have hs1:sameBut w2 (w2.setCell (Ad b 5) (Sx (Jae X S.doc))) (λk=>k=b):=Jat (S:=λk=>k=b) rfl;refine JeA HLO.out H3.out b1 (Jds (JbR HMN.out HB2.out) hs1 (λj _ hj=>by obtain rfl:=hj;exact⟨HLO.out,Ja8 HBK2.out (by decide)⟩) λj hj e=>?_) ?_ λj hj=>.inl hj
    . obtain⟨_,_,cs,hc⟩:=HMO.out j hj
      subst e;have:=JaB H3.out hc;revert this;decide
    . exact((HSM.out.mono λj _ e=>.inr e).trans (Jai HB2.out _)).comp hs1 λj _ e=>.inl e
theorem upTo_is{u n:Int}(hu:JaH u){rs c1 c2:List Nat}(h:rs=c1++c2)(h1:n<=by_ u c1)(h2:∀i,i<c1.length->by_ u (rs.take i)<n):upTo rs u n=c1:=by
 have hle:n<=by_ u rs:=by rw[h,Jb9];have:=Jdd u c2;omega
 have ht:rs.take c1.length=c1:=by rw[h,List.take_left' rfl]
 obtain⟨k,k1,k2,k3,k4⟩:=Jh4 rs u n hle
 have hk:k=c1.length:=by
  rcases Nat.lt_trichotomy k c1.length with hlt|e|hlt
  . have:=h2 k hlt;omega
  . exact e
  . have:=k4 c1.length hlt
    rw[ht]at this;omega
 rw[k2,hk,ht]
def headI (W4:World) (B:Nat) (u n:Int) (rs:List Nat) (pre:List (Nat×Nat)) (W:World):Prop :=
 Below (B+2) W4 W/\∃c1 c2,rs=c1++c2/\pre=wide c1/\counted W (B+2) (C1 c1) (C2 c1) (C3 c1) (C4 c1)/\∀i,i<c1.length->by_ u (rs.take i)<n
def headX (W4:World) (B:Nat) (u n:Int) (rs:List Nat) (W:World):Prop :=
 Below (B+2) W4 W/\B+6<=W.heap.size/\∃c1 c2,rs=c1++c2/\n<=by_ u c1/\counted W (B+2) (C1 c1) (C2 c1) (C3 c1) (C4 c1)/\∀i,i<c1.length->by_ u (rs.take i)<n
theorem Jvp(rs:List Nat)(hr:∀r∈rs,Jbp r)(hz:C1 rs<=10000000)(u n:Int)(hu:JaH u)(hn:n<=by_ u rs)(w:World)(hT:Lib.Utf8Tabs 3 4 w) :
    Cg 155 #[.string (Jah rs),I6 u,I6 n] w (Rt w (.tuple #[I6 (by_ 1 (upTo rs u n)),.bool (JbL rs u n)])):=by
 have HZ:=hdz hz;have HT:=hdz hT;have HSC:Hid ((scan (Jah rs).data.toList).1=wide rs):=by show _=_;rw[JbT,JeF rs hr]
 have hsz:(Jah rs).size<=100000000:=by rw[JaI];rw[Jcb]at hz;omega
 have FIN:Hid (∀c1 c2,rs=c1++c2->(n<=by_ u c1\/c2=[])->(∀i,i<c1.length->by_ u (rs.take i)<n)->by_ 1 (upTo rs u n)=C1 c1/\JbL rs u n=decide (by_ u c1=n)):=λc1 c2 h1 h2 h3=>by
  have h2:n<=by_ u c1:=h2.elim id λe=>by subst e;rw[List.append_nil]at h1;rw[←h1];exact hn
  have:=upTo_is hu h1 h2 h3;unfold JbL;rw[this];exact⟨by unfold by_;rw[if_pos rfl],rfl⟩
 clear hr hz hT hn hu;refine(callsIn_wide (n:=3)).1 ?_;refine callsIn_of_wp_marks func155 rfl trivial ?_ rfl;simp only[ntmps155,List.size_toArray,List.length_cons,List.length_nil,Nat.reduceAdd,Nat.reduceSub,Array.replicate_succ,Array.replicate_zero,List.push_toArray,List.append_toArray,List.nil_append,List.cons_append]
 gi_wp2_with (refine⟨trivial,?_⟩;gi_at_call 201;refine(callsIn_wide.2 (Jqq (Jah rs) _)).mono ?_;rintro e w13 ⟨rfl,rfl⟩)
 obtain⟨W4,hW4⟩:∃W4,W4=(((w.alloc (Oc #[Value.int IntKind.i64 u] 3)).alloc (Oc #[Value.int IntKind.i64 n] 3)).alloc (Oc #[Value.int IntKind.i64 0,Value.int IntKind.i64 0,Value.int IntKind.i64 0,Value.int IntKind.i64 0] 78)).alloc (Oc #[.string (Jah rs)] 9):=⟨_,rfl⟩;have hb4:Bw w W4:=by rw[hW4];exact((((brf _ w).alloc (nlr _) _).alloc (by simp) _).alloc (by simp;omega) _).alloc (by simp;omega) _
 have hs4:W4.heap.size=w.heap.size+4:=by rw[hW4];simp
 have u4:W4.cell? (Ad w.heap.size 0)=some (I6 u):=by rw[hW4];simp[go_sem]
 have n4:W4.cell? (Ad (w.heap.size+1) 0)=some (I6 n):=by rw[hW4];simp[go_sem]
 have r4:counted W4 (w.heap.size+2) 0 0 0 0:=by rw[hW4];refine⟨⟨?_,?_,?_,?_⟩,?_,?_,?_,?_⟩<;>simp[go_sem]
 have s4:W4.cell? (Ad (w.heap.size+3) 0)=some (.string (Jah rs)):=by rw[hW4];simp[go_sem]
 rw[←hW4];clear hW4
 refine Jey (gf:=245) (lb:=#[.pointer (some (Ad (w.heap.size+3) 0))]) rfl (enters_of func245 (by kernel_rfl) rfl) (encs:=JfU) (λ_ _=>rfl)
  (It:=Below (w.heap.size+6)) (Kp:=KeepUp (w.heap.size+6)) (Z:=Below w.heap.size w) (S:=λxs=>xs=(scan (Jah rs).data.toList).1) (Sp:=λpre=>∃rest,(scan (Jah rs).data.toList).1=pre++rest)
  ?seq ?its (λh k=>h.trans k) (λA o=>KeepUp.putObj A (.loop o) (by rw[hs4];omega))
  (headI W4 w.heap.size u n rs)
  (λk pre W=>k=.exit 0/\headX W4 w.heap.size u n rs W) ?iz ?ixz ?ii ?ib ?ix ?ixb ?h0 ?round ?done ?stop
 case seq =>
  intro W hs1 hb1;rw[hs4]at hs1 hb1;have:=Jpz (Jah rs) (by omega) w HT.out (w.heap.size+3) W ((zC hb1 (w.heap.size+3) 0 (by show w.heap.size+3<_;omega)).trans s4);rw[hs1]at this;exact this
 case its=>exact λA B h=>Same2.of_below h (by rw[hs4];omega)
 case iz=>exact λpre A h=>hb4.trans (h.1.mono (by omega))
 case ixz=>exact λk pre A h=>hb4.trans (h.2.1.mono (by omega))
 case ii =>
  rintro pre A B ⟨h1,c1,c2,h2,h3,h4,h5⟩ hb;exact⟨h1.trans (hb.mono (by omega)),c1,c2,h2,h3,JaR h4 hb (by omega),h5⟩
 case ib =>
  rintro pre A o ⟨h1,c1,c2,h2,h3,h4,h5⟩;have hb:Below (w.heap.size+5) A (A.putObj (w.heap.size+5) (.loop o)):=(Put1.putObj _ A (.loop o)).below (nlr _);rw[hs4];exact⟨h1.trans (hb.mono (by omega)),c1,c2,h2,h3,JaR h4 hb (by omega),h5⟩
 case ix =>
  rintro k pre A B ⟨h0,h1,hs,c1,c2,h2,h3,h4,h5⟩ hb;exact⟨h0,h1.trans (hb.mono (by omega)),Nat.le_trans hs hb.size,c1,c2,h2,h3,JaR h4 hb (by omega),h5⟩
 case ixb =>
  rintro k pre A o ⟨h0,h1,hs,c1,c2,h2,h3,h4,h5⟩;have hb:Below (w.heap.size+5) A (A.putObj (w.heap.size+5) (.loop o)):=(Put1.putObj _ A (.loop o)).below (nlr _);rw[hs4];exact⟨h0,h1.trans (hb.mono (by omega)),Nat.le_trans hs hb.size,c1,c2,h2,h3,JaR h4 hb (by omega),h5⟩
 case h0=>exact λW hs hb _=>by rw[hs4]at hb;exact⟨hb.mono (by omega),[],rs,rfl,rfl,JaR r4 hb (by omega),λi hi=>absurd hi (Nat.not_lt_zero _)⟩
 case round =>
  rintro l pre x W ⟨hI,c1,c2,hcc,rfl,hcnt,hlow⟩ hlW ⟨rest,hsp⟩;rw[hs4]at hlW ⊢;rw[HSC.out,List.append_assoc,hcc,JcS]at hsp;have hsp2:=List.append_cancel_left hsp;obtain ⟨r,d2,rfl,rfl⟩:∃r d2,c2=r :: d2/\x=(r,(enc r).length):=by
   cases c2 with
   | nil=>simp[wide]at hsp2
   | cons r d2=>simp only[wide,List.map_cons,List.singleton_append,List.cons.injEq]at hsp2;exact⟨r,d2,rfl,hsp2.1.symm⟩
  have HW:Hid (wide c1++[(r,(enc r).length)]=wide (c1++[r])):=by show _=_;rw[JcS];rfl
  have HCC:Hid (rs=(c1++[r])++d2):=by show _=_;rw[hcc];simp
  have HCC0:=hdz hcc;have HLOW:=hdz hlow;have HTC:Hid (rs.take c1.length=c1):=by show _=_;rw[hcc,List.take_left' rfl]
  have hzc:C1 (c1++[r])<=100000000:=by have:=HZ.out;rw[HCC.out]at this;have:=JgF this;omega
  have HP1:=hdz λwx=>JgU c1 [r] (by omega) wx;have HI1:=hdz λwx=>JdH u c1 wx;rw[JhT];clear hsp hsp2 hcc hlow hzc;unfold cntV at HP1 HI1 ⊢;have HCN:=hdz hcnt;clear hcnt;generalize hy1:C1 c1=y1 at *;generalize hy2:C2 c1=y2 at *;generalize hy3:C3 c1=y3 at *;generalize hy4:C4 c1=y4 at *;have HY:Hid (C1 c1=y1/\C2 c1=y2/\C3 c1=y3/\C4 c1=y4):=⟨hy1,hy2,hy3,hy4⟩;clear hy1 hy2 hy3 hy4;generalize C1 [r]=u1 at *;generalize C2 [r]=u2 at *;generalize C3 [r]=u3 at *;generalize C4 [r]=u4' at *
  gi_wp2
  refine⟨(((Same2.refl _ W).alloc (by omega) _).alloc (by rw[wsa];omega) _),((KeepUp.refl _ W).alloc _).alloc _,?_⟩;intro w20 hp _;have hww:Bw W ((W.alloc (Oc #[I6 y1,I6 y2,I6 y3,I6 y4] 78)).alloc (Oc #[I6 u1,I6 u2,I6 u3,I6 u4'] 78)):=((brf _ W).alloc (nlr _) _).alloc (by rw[wsa];exact Nat.le_succ _) _;have hs20:w20.heap.size=W.heap.size+2:=by rw[hp.size,World.size_alloc,World.size_alloc]
  have hWW:Below (w.heap.size+2) W4 w20:=hI.trans ((hww.mono (by omega)).trans (hp.below (by omega)));have hW5:Below (w.heap.size+5) W w20:=(hww.mono (by omega)).trans (hp.below (by omega));have hKU:KeepUp (w.heap.size+6) W w20:=⟨by omega,λk h1 h2=>(hp.block k (by omega)).trans (hww.block k h2)⟩;have u20:=(zC hWW w.heap.size 0 (by show w.heap.size<_;omega)).trans u4;have n20:=(zC hWW (w.heap.size+1) 0 (by show w.heap.size+1<_;omega)).trans n4;have r20:=JaR HCN.out hW5 (by omega);have a20:counted w20 W.heap.size y1 y2 y3 y4:=by
   have h:counted ((W.alloc (Oc #[I6 y1,I6 y2,I6 y3,I6 y4] 78)).alloc (Oc #[I6 u1,I6 u2,I6 u3,I6 u4'] 78)) W.heap.size y1 y2 y3 y4:=Jad (JaK W y1 y2 y3 y4 _) (zA _ _);obtain⟨⟨h0,h1,h2,h3⟩,k0,k1,k2,k3⟩:=h;exact⟨⟨(hp.cell (by omega)).trans h0,(hp.cell (by omega)).trans h1,(hp.cell (by omega)).trans h2,(hp.cell (by omega)).trans h3⟩,(hp.frozen (by omega)).trans k0,(hp.frozen (by omega)).trans k1,(hp.frozen (by omega)).trans k2,(hp.frozen (by omega)).trans k3⟩
  have o20:counted w20 (W.heap.size+1) u1 u2 u3 u4':=by
   have h:counted ((W.alloc (Oc #[I6 y1,I6 y2,I6 y3,I6 y4] 78)).alloc (Oc #[I6 u1,I6 u2,I6 u3,I6 u4'] 78)) (W.heap.size+1) u1 u2 u3 u4':=by have:=JaK (W.alloc (Oc #[I6 y1,I6 y2,I6 y3,I6 y4] 78)) u1 u2 u3 u4' 78;rwa[World.size_alloc]at this
   obtain⟨⟨h0,h1,h2,h3⟩,k0,k1,k2,k3⟩:=h;exact⟨⟨(hp.cell (by omega)).trans h0,(hp.cell (by omega)).trans h1,(hp.cell (by omega)).trans h2,(hp.cell (by omega)).trans h3⟩,(hp.frozen (by omega)).trans k0,(hp.frozen (by omega)).trans k1,(hp.frozen (by omega)).trans k2,(hp.frozen (by omega)).trans k3⟩
  have hSize:w.heap.size+8<=w20.heap.size:=by omega
  clear hp hww u4 n4 r4 s4
  gi_wp2
  refine Je7 5 5 (by kernel_rfl) rfl (by kernel_rfl) ?_;intro w21 hb21;obtain⟨G,hG⟩:=Jas w21;have HR20:=hdz r20;have r21:=Jad r20 hb21;have u21:=(zC hb21 w.heap.size 0 (by show w.heap.size<_;omega)).trans u20;have n21:=(zC hb21 (w.heap.size+1) 0 (by show w.heap.size+1<_;omega)).trans n20;obtain⟨⟨f0,f1,f2,f3⟩,_⟩:=r21;have gf0:=hG.cell f0;have gf1:=hG.cell f1;have gf2:=hG.cell f2;have gf3:=hG.cell f3;have gu:=hG.cell u21;have gn:=hG.cell n21;clear f0 f1 f2 f3 u21 n21;generalize hYY:by_ u c1=YY at *;have HYY:=hdz hYY;clear hYY
  by_cases hge:n<=YY
  all_goals
   (refine Jaa hG (i:=0) rfl (by kernel_rfl) (by kernel_rfl) (by kernel_rfl) (λK hK=>?_);go_simp;refine hK _ ?_;clear hK K)
   (refine Jaa hG (i:=1) rfl (by kernel_rfl) (by kernel_rfl) (by kernel_rfl) (λK hK=>?_);go_simp;refine hK _ ?_;clear hK K)
   (refine Jaa hG (i:=2) rfl (by kernel_rfl) (by kernel_rfl) (by kernel_rfl) (λK hK=>?_);go_simp;apply Exists.intro;refine⟨λ_=>?_,hK _ ?_⟩;exact HI1.out _;clear hK K)
   (refine Jaa hG (i:=3) rfl (by kernel_rfl) (by kernel_rfl) (by kernel_rfl) (λK hK=>?_);go_simp;refine hK _ ?_;clear hK K)
   (refine Jaa hG (i:=4) rfl (by kernel_rfl) (by kernel_rfl) (by kernel_rfl) (λK hK=>?_);go_simp;refine hK _ ?_;clear hK K)
   clear gf0 gf1 gf2 gf3 gu gn hG;refine Jbi (by kernel_rfl) ?_;intro w24 hb24;have hbF:=hb21.trans (hb24.mono hb21.size);have HBF:=hdz hbF;have HWW:=hdz hWW;have HSZ:=hdz hSize;have HA24:=hdz (Jad a20 hbF);have HO24:=hdz (Jad o20 hbF);have HR24:Hid (counted w24 (w.heap.size+2) y1 y2 y3 y4):=Jad HR20.out hbF;clear hb21 hb24 hbF r20 a20 o20 u20 n20
  . gi_wp2
    have hy:=HY.out;exact⟨Same2.of_below HBF.out (by have:=HSZ.out;omega),KeepUp.of_below HBF.out,rfl,HWW.out.trans (HBF.out.mono (by have:=HSZ.out;omega)),by have:=HBF.out.size;have:=HSZ.out;omega,c1,r :: d2,HCC0.out,by rw[HYY.out];exact hge,by rw[hy.1,hy.2.1,hy.2.2.1,hy.2.2.2];exact HR24.out,HLOW.out⟩
  . obtain ⟨⟨a0,a1,a2,a3⟩,_⟩:=HA24.out
    obtain⟨⟨o0,o1,o2,o3⟩,_⟩:=HO24.out;obtain⟨⟨z0,z1,z2,z3⟩,t0,t1,t2,t3⟩:=HR24.out;have HGE:Hid (YY<n):=by show YY<n;omega
    clear hge
    have hnl:∀i,i<(c1++[r]).length->by_ u (rs.take i)<n:=λi hi=>by
     rw[List.length_append,List.length_singleton]at hi
     rcases Nat.lt_or_ge i c1.length with hlt|hge'
     . exact HLOW.out i hlt
     . obtain rfl:i=c1.length:=by omega
       rw[HTC.out,HYY.out];exact HGE.out
    have HNL:=hdz hnl;clear hnl
    gi_wp2
    refine⟨trivial,rfl,?_⟩;refine(CallsIn.inRound l (callsIn_wide.2 (HP1.out _))).mono ?_;rintro e w25 ⟨rfl,hb25⟩;have hr25:=Jad HR24.out hb25;have HR25:=hdz hr25;have hbZ:=HBF.out.trans (hb25.mono HBF.out.size);have HBZ:=hdz hbZ;clear a0 a1 a2 a3 o0 o1 o2 o3 z0 z1 z2 z3 t0 t1 t2 t3 hb25 hbZ;obtain⟨⟨z0,z1,z2,z3⟩,t0,t1,t2,t3⟩:=hr25;generalize hX1:C1 (c1++[r])=X1 at *;generalize hX2:C2 (c1++[r])=X2 at *;generalize hX3:C3 (c1++[r])=X3 at *;generalize hX4:C4 (c1++[r])=X4 at *;have HX:Hid (C1 (c1++[r])=X1/\C2 (c1++[r])=X2/\C3 (c1++[r])=X3/\C4 (c1++[r])=X4):=⟨hX1,hX2,hX3,hX4⟩;clear hX1 hX2 hX3 hX4
    gi_wp2
    have hx:=HX.out;have hkk:KeepUp (w.heap.size+6) w20 w25:=KeepUp.of_below HBZ.out;have hszz:=HSZ.out
    refine ⟨((((Same2.of_below HBZ.out (by omega)).setCell (by show w.heap.size+2≠_;omega) (by show w.heap.size+2≠_;omega) _).setCell (by show w.heap.size+2≠_;omega) (by show w.heap.size+2≠_;omega) _).setCell (by show w.heap.size+2≠_;omega) (by show w.heap.size+2≠_;omega) _).setCell (by show w.heap.size+2≠_;omega) (by show w.heap.size+2≠_;omega) _,
     (((hkk.setCell (by show w.heap.size+2<_;omega) _).setCell (by show w.heap.size+2<_;omega) _).setCell (by show w.heap.size+2<_;omega) _).setCell (by show w.heap.size+2<_;omega) _,?_,c1++[r],d2,HCC.out,HW.out,?_,HNL.out⟩
    . exact Jbn (HWW.out.trans (HBZ.out.mono (by omega))) (by omega) _ _ _ _
    . rw[hx.1,hx.2.1,hx.2.2.1,hx.2.2.2]
      exact JaN HR25.out
 case done =>
  rintro xs W rfl ⟨hI,c1,c2,hcc,hx,hcnt,hlow⟩ hDef;rw[hs4]at hDef ⊢;have hc2:c2=[]:=by
   rw[HSC.out]at hx;have:=congrArg List.length hx;rw[hcc]at this;simp only[wide,List.length_map,List.length_append]at this;exact List.length_eq_zero_iff.1 (by omega)
  have hsW:w.heap.size+5<=W.heap.size:=by
   rcases Nat.lt_or_ge (w.heap.size+4) W.heap.size with h|h
   . omega
   . rw[Array.getElem?_eq_none h]at hDef;cases hDef
  have HFN:Hid _:=FIN.out c1 c2 hcc (.inr hc2) hlow;clear hx hc2;have hu5:=(zC hI w.heap.size 0 (by show w.heap.size<_;omega)).trans u4;have hn5:=(zC hI (w.heap.size+1) 0 (by show w.heap.size+1<_;omega)).trans n4;have hs5:=hI.size;rw[hs4]at hs5;have hbW:Bw w W:=hb4.trans (hI.mono (by omega));have HI1:=hdz λwx=>JdH u c1 wx;unfold cntV at HI1;clear hI u4 n4 r4 s4 hcc hlow;generalize C1 c1=y1 at *;generalize C2 c1=y2 at *;generalize C3 c1=y3 at *;generalize C4 c1=y4 at *
  gi_wp2
  refine wpIn_wide.2 ?_;refine Ja4 9 9 (by kernel_rfl) rfl ?_;intro w41 hb41;obtain⟨G,hG⟩:=Jas w41;obtain⟨⟨f0,f1,f2,f3⟩,_⟩:=Jad hcnt hb41;have u41:=(zC hb41 w.heap.size 0 (by show w.heap.size<_;omega)).trans hu5;have n41:=(zC hb41 (w.heap.size+1) 0 (by show w.heap.size+1<_;omega)).trans hn5;have gf0:=hG.cell f0;have gf1:=hG.cell f1;have gf2:=hG.cell f2;have gf3:=hG.cell f3;have gu:=hG.cell u41;have gn:=hG.cell n41;clear f0 f1 f2 f3 u41 n41 hu5 hn5
  (refine Jaa hG (i:=0) rfl (by kernel_rfl) (by kernel_rfl) (by kernel_rfl) (λK hK=>?_);go_simp;refine hK _ ?_;clear hK K)
  (refine Jaa hG (i:=1) rfl (by kernel_rfl) (by kernel_rfl) (by kernel_rfl) (λK hK=>?_);go_simp;refine hK _ ?_;clear hK K)
  (refine Jaa hG (i:=2) rfl (by kernel_rfl) (by kernel_rfl) (by kernel_rfl) (λK hK=>?_);go_simp;refine hK _ ?_;clear hK K)
  (refine Jaa hG (i:=3) rfl (by kernel_rfl) (by kernel_rfl) (by kernel_rfl) (λK hK=>?_);go_simp;refine hK _ ?_;clear hK K)
  (refine Jaa hG (i:=4) rfl (by kernel_rfl) (by kernel_rfl) (by kernel_rfl) (λK hK=>?_);go_simp;apply Exists.intro;refine⟨λ_=>?_,hK _ ?_⟩;exact HI1.out _;clear hK K)
  (refine Jaa hG (i:=5) rfl (by kernel_rfl) (by kernel_rfl) (by kernel_rfl) (λK hK=>?_);go_simp;refine hK _ ?_;clear hK K)
  (refine Jaa hG (i:=6) rfl (by kernel_rfl) (by kernel_rfl) (by kernel_rfl) (λK hK=>?_);go_simp;refine hK _ ?_;clear hK K)
  (refine Jaa hG (i:=7) rfl (by kernel_rfl) (by kernel_rfl) (by kernel_rfl) (λK hK=>?_);go_simp;refine hK _ ?_;clear hK K)
  (refine Jaa hG (i:=8) rfl (by kernel_rfl) (by kernel_rfl) (by kernel_rfl) (λK hK=>?_);go_simp;refine hK _ ?_;clear hK K)
  clear gf0 gf1 gf2 gf3 gu gn hG;refine Jbi (by kernel_rfl) ?_;intro w44 hb44;have hbF:=hb41.trans (hb44.mono hb41.size)
  gi_wp2
  have hDef':w44.heap[w.heap.size+4]?=some (.deferred (some [])):=(hbF.block _ (by omega)).trans hDef;have hP:=Put1.putObj (w.heap.size+4) w44 (.deferred none);have hFin:Bw w (w44.putObj (w.heap.size+4) (.deferred none)):=(hbW.trans (hbF.mono hbW.size)).trans (hP.below (by omega));refine⟨by simp,.inl ⟨_,_,rfl,run_takeDeferred hDef',?_⟩⟩;refine⟨.tuple #[I6 y1,.bool (by_ u c1==n)],by simp[results,results155,go_sem],?_,hFin⟩;have hf:=HFN.out;rw[hf.1,hf.2];rfl
 case stop =>
  rintro k pre W hsp ⟨rfl,hI,hsW,c1,c2,hcc,hge,hcnt,hlow⟩ hDef;rw[hs4]at hDef ⊢;have HFN:Hid _:=FIN.out c1 c2 hcc (.inl hge) hlow;clear hge;have hu5:=(zC hI w.heap.size 0 (by show w.heap.size<_;omega)).trans u4;have hn5:=(zC hI (w.heap.size+1) 0 (by show w.heap.size+1<_;omega)).trans n4;have hs5:=hI.size;rw[hs4]at hs5;have hbW:Bw w W:=hb4.trans (hI.mono (by omega));have HI1:=hdz λwx=>JdH u c1 wx;unfold cntV at HI1;clear hI u4 n4 r4 s4 hcc hlow;generalize C1 c1=y1 at *;generalize C2 c1=y2 at *;generalize C3 c1=y3 at *;generalize C4 c1=y4 at *
  gi_wp2
  refine wpIn_wide.2 ?_;refine Ja4 9 9 (by kernel_rfl) rfl ?_;intro w41 hb41;obtain⟨G,hG⟩:=Jas w41;obtain⟨⟨f0,f1,f2,f3⟩,_⟩:=Jad hcnt hb41;have u41:=(zC hb41 w.heap.size 0 (by show w.heap.size<_;omega)).trans hu5;have n41:=(zC hb41 (w.heap.size+1) 0 (by show w.heap.size+1<_;omega)).trans hn5;have gf0:=hG.cell f0;have gf1:=hG.cell f1;have gf2:=hG.cell f2;have gf3:=hG.cell f3;have gu:=hG.cell u41;have gn:=hG.cell n41;clear f0 f1 f2 f3 u41 n41 hu5 hn5
  (refine Jaa hG (i:=0) rfl (by kernel_rfl) (by kernel_rfl) (by kernel_rfl) (λK hK=>?_);go_simp;refine hK _ ?_;clear hK K)
  (refine Jaa hG (i:=1) rfl (by kernel_rfl) (by kernel_rfl) (by kernel_rfl) (λK hK=>?_);go_simp;refine hK _ ?_;clear hK K)
  (refine Jaa hG (i:=2) rfl (by kernel_rfl) (by kernel_rfl) (by kernel_rfl) (λK hK=>?_);go_simp;refine hK _ ?_;clear hK K)
  (refine Jaa hG (i:=3) rfl (by kernel_rfl) (by kernel_rfl) (by kernel_rfl) (λK hK=>?_);go_simp;refine hK _ ?_;clear hK K)
  (refine Jaa hG (i:=4) rfl (by kernel_rfl) (by kernel_rfl) (by kernel_rfl) (λK hK=>?_);go_simp;apply Exists.intro;refine⟨λ_=>?_,hK _ ?_⟩;exact HI1.out _;clear hK K)
  (refine Jaa hG (i:=5) rfl (by kernel_rfl) (by kernel_rfl) (by kernel_rfl) (λK hK=>?_);go_simp;refine hK _ ?_;clear hK K)
  (refine Jaa hG (i:=6) rfl (by kernel_rfl) (by kernel_rfl) (by kernel_rfl) (λK hK=>?_);go_simp;refine hK _ ?_;clear hK K)
  (refine Jaa hG (i:=7) rfl (by kernel_rfl) (by kernel_rfl) (by kernel_rfl) (λK hK=>?_);go_simp;refine hK _ ?_;clear hK K)
  (refine Jaa hG (i:=8) rfl (by kernel_rfl) (by kernel_rfl) (by kernel_rfl) (λK hK=>?_);go_simp;refine hK _ ?_;clear hK K)
  clear gf0 gf1 gf2 gf3 gu gn hG;refine Jbi (by kernel_rfl) ?_;intro w44 hb44;have hbF:=hb41.trans (hb44.mono hb41.size)
  gi_wp2
  have hDef':w44.heap[w.heap.size+4]?=some (.deferred (some [])):=(hbF.block _ (by omega)).trans hDef;have hP:=Put1.putObj (w.heap.size+4) w44 (.deferred none);have hFin:Bw w (w44.putObj (w.heap.size+4) (.deferred none)):=(hbW.trans (hbF.mono hbW.size)).trans (hP.below (by omega));refine⟨by simp,.inl ⟨_,_,rfl,run_takeDeferred hDef',?_⟩⟩;refine⟨.tuple #[I6 y1,.bool (by_ u c1==n)],by simp[results,results155,go_sem],?_,hFin⟩;have hf:=HFN.out;rw[hf.1,hf.2];rfl
end
section
attribute [local go_sem] Oper.semAt_some
theorem JsU(q:Pt)(w:World):Cg 97 #[.agg #[I6 q.keep,I6 q.drop,Sx q.put]] w (Rt w (.bool (Jev q))):=by
 unfold Jev;obtain⟨K,D,U⟩:=q;have hz:(ByteArray.mk U.toArray).size=U.length:=by simp[ByteArray.size]
 by_cases h:200<U.length
 . have h1:(200:Int)<(U.length:Int):=by omega
   rw[decide_eq_true h]
   go_enter func97,ntmps97
   go_wp2;go_ret;exact⟨rfl,zA _ _⟩
 . have h1:¬(200:Int)<(U.length:Int):=by omega
   rw[decide_eq_false h]
   go_enter func97,ntmps97
   go_wp2;go_ret;exact⟨rfl,zA _ _⟩
theorem Jvo(v:Value)(ps:List Pt)(w:World)(hr:opAt w v ps)(hl:ps.length<=1000) :
    Cg 154 #[v,.func (.func 97) #[] #[]] w λe w'=>∃i:Int,e=.returned (I6 i)/\(decide (0<=i)=ps.any Jev)/\Bw w w':=by
 obtain⟨p,c,rfl,r1,r2,r3⟩:=hr;have R3:=hdz r3;obtain⟨n,hn⟩:∃n,ps.length=n:=⟨_,rfl⟩;have HN:=hdz hn;rw[hn]at r1 hl ⊢;clear r3 hn;unfold maxLen at r2;have hni:(n:Int)<=1000:=by omega
 go_enter func154,ntmps154
 go_wp2
 go_loopw [8] (λi wr=>∃k:Nat,i=.int .i64 k/\k<=n/\(ps.take k).any Jev=false/\Bw w wr) (λi _=>n - (intOf i).toNat)
 case atStart=>exact⟨0,rfl,Nat.zero_le _,rfl,brf _ _⟩
 case round =>
  obtain⟨k,rfl,hk,hno,hbw⟩:=hrel;have HNO:=hdz hno;have HBW:=hdz hbw;clear hno hbw
  by_cases hlt:k<n
  . have hkr:k<ps.length:=by rw[HN.out];exact hlt
    have hne:ps≠[]:=by intro e;rw[e]at hkr;exact absurd hkr (Nat.not_lt_zero _)
    obtain⟨b,o,rfl,hb,hcell⟩:=R3.out hne;obtain⟨c0,c1,c2⟩:=hcell k ps[k] (lgg hkr);have g0:=(zC HBW.out b (o+k*3) hb).trans c0;have g1:=(zC HBW.out b (o+k*3+1) hb).trans c1;have g2:=(zC HBW.out b (o+k*3+2) hb).trans c2;have hki:(k:Int)<(n:Int):=by omega
    have hts:ps.take (k+1)=ps.take k++[ps[k]]:=List.take_succ_eq_append_getElem hkr;have hin:ps[k]∈ps:=List.getElem_mem hkr;have CM:Hid (∀wx,Cg 97 #[.agg #[I6 ps[k].keep,I6 ps[k].drop,Sx (ps[k].put)]] wx (Rt wx (.bool (Jev ps[k])))):=λwx=>JsU _ wx
    cases hm:Jev ps[k] with
    | true =>
     have HAN:Hid (ps.any Jev=true):=List.any_eq_true.2 ⟨_,hin,hm⟩;rw[hm]at CM;clear hcell c0 c1 c2 hne hts hin hm;generalize ps[k]=q at *;obtain⟨K,D,U⟩:=q;simp only at g0 g1 g2 CM
     go_wp2_with (go_at_call 97;refine(CM.out _).mono ?_;rintro e w2 ⟨rfl,hb2⟩;have HB2:=hdz (HBW.out.trans (hb2.mono HBW.out.size));clear hb2)
     go_ret;exact⟨_,rfl,by rw[HAN.out];exact decide_eq_true (by omega),HB2.out⟩
    | false =>
     have HAN:Hid ((ps.take (k+1)).any Jev=false):=by show _=_;rw[hts,List.any_append,HNO.out];simp[hm]
     rw[hm]at CM;clear hcell c0 c1 c2 hne hts hin hm;generalize ps[k]=q at *;obtain⟨K,D,U⟩:=q;simp only at g0 g1 g2 CM
     go_wp2_with (go_at_call 97;refine(CM.out _).mono ?_;rintro e w2 ⟨rfl,hb2⟩;have HB2:=hdz (HBW.out.trans (hb2.mono HBW.out.size));clear hb2)
     go_roundw
     case rel=>exact⟨k+1,by go_num,by omega,HAN.out,HB2.out⟩
     case measure=>simp[intOf];omega
  . obtain rfl:k=n:=by omega
    have HAN:Hid (ps.any Jev=false):=by
     have:=HNO.out;rw[←HN.out,List.take_length]at this;exact this
    have hki:¬((k:Int)<(k:Int)):=by omega
    go_wp2;go_ret;exact⟨_,rfl,by rw[HAN.out];exact decide_eq_false (by omega),HBW.out⟩
theorem JnJ(v:Value)(ps:List Pt)(w:World)(hr:opAt w v ps)(hl:ps.length<=1000) :
    Cg 98 #[v,.func (.func 97) #[] #[]] w (Rt w (.bool (ps.any Jev))):=by
 have C:Hid _:=Jvo v ps w hr hl;obtain⟨p,c,rfl,_⟩:=hr
 cases hm:ps.any Jev with
 | true =>
  rw[hm]at C
  go_enter func98,ntmps98
  go_wp2_with (go_at_call 154;refine Calls.mono C.out ?_;rintro e w2 ⟨i,rfl,hi,hb2⟩;have hi2:0<=i:=of_decide_eq_true hi;have HB2:=hdz hb2;clear hb2 hi)
  go_ret;exact⟨by simp,HB2.out⟩
 | false =>
  rw[hm]at C
  go_enter func98,ntmps98
  go_wp2_with (go_at_call 154;refine Calls.mono C.out ?_;rintro e w2 ⟨i,rfl,hi,hb2⟩;have hi2:¬0<=i:=of_decide_eq_false hi;have HB2:=hdz hb2;clear hb2 hi)
  go_ret;exact⟨by simp[hi2],HB2.out⟩
def ptV (q:Pt):Value:=.agg #[I6 q.keep,I6 q.drop,Sx q.put]
theorem Js2(q:Pt)(n:Int)(w:World)(hp:q.put.length<=1000000) :
    Cg 156 #[.agg #[I6 q.keep,I6 q.drop,Sx q.put],I6 n] w (Rt w (ptV (Jfc n q))):=by
 obtain⟨K,D,U⟩:=q;have CL:=hdz λwx=>Jgi U (by have:U.length<=1000000:=hp;omega) wx;unfold Jfc ptV;simp only;have hb1:Bw w ((w.alloc (Oc #[I6 K,I6 D,Sx U] 96)).alloc (Oc #[I6 0,I6 0,.string ⟨#[]⟩] 96)):=(zA _ _).alloc (by rw[wsa];omega) _;have HB1:=hdz hb1;clear hb1 hp
 by_cases hK:0<K
 . rw[if_pos hK]
   go_enter func156,ntmps156
   go_wp2;exact bodyPost_ret (v:=.agg #[I6 n,I6 0,.string ⟨#[]⟩]) (by simp[results,results156,go_sem]) rfl ⟨rfl,(zA _ _).alloc (by rw[wsa];omega) _⟩
 . rw [if_neg hK]
   by_cases hD:0<D
   . rw[if_pos hD]
     go_enter func156,ntmps156
     go_wp2;exact bodyPost_ret (v:=.agg #[I6 0,I6 n,.string ⟨#[]⟩]) (by simp[results,results156,go_sem]) rfl ⟨rfl,(zA _ _).alloc (by rw[wsa];omega) _⟩
   . rw [if_neg hD]
     go_enter func156,ntmps156
     go_wp2_with (go_at_call 9999)
     refine(CL.out _).mono ?_;rintro e w2 ⟨rfl,hb2⟩;have hbox:w2.heap[w.heap.size+1]?=some (Oc #[I6 0,I6 0,.string ⟨#[]⟩] 96):=(hb2.block (w.heap.size+1) (by rw[wsa,World.size_alloc];omega)).trans (by have:=heap_alloc_new (w.alloc (Oc #[I6 K,I6 D,Sx U] 96)) (Oc #[I6 0,I6 0,.string ⟨#[]⟩] 96);rwa[World.size_alloc]at this);have y0:=cQ hbox 0 rfl;have y1:=cQ hbox 1 rfl;have y2:=cQ hbox 2 rfl;have z0:=fZ hbox 0;have z1:=fZ hbox 1;have z2:=fZ hbox 2;have HB2:Hid (Bw w w2):=HB1.out.trans (hb2.mono HB1.out.size);clear hb2 hbox;go_wp2;exact bodyPost_ret (v:=.agg #[I6 0,I6 0,Sx U]) (by simp[results,results156,go_sem,y0,y1,y2]) rfl ⟨rfl,((HB2.out.setCell (p:=(Ad (w.heap.size+1) 0)) (Nat.le_succ _) _).setCell (p:=(Ad (w.heap.size+1) 1)) (Nat.le_succ _) _).setCell (p:=(Ad (w.heap.size+1) 2)) (Nat.le_succ _) _⟩
end
section
attribute [local go_sem] Oper.semAt_some
variable {u : Int}
theorem JqQ(hu:JaH u){R:List Nat}{n:Int}(h1:n<=by_ u R)(he:JbL R u n=true) :
    ∃N:Nat,by_ 1 (upTo R u n)=(N:Int)/\N<=(Jah R).size/\(Jah R).extract N (Jah R).size=Jah (Jcc u R n):=by
 obtain⟨e1,e2⟩:=JhG hu h1 he;have e3:encs R=encs (upTo R u n)++encs (Jcc u R n):=by rw[←Jb1];exact congrArg _ e1
 refine⟨(encs (upTo R u n)).length,?_,?_,?_⟩
 . unfold by_;rw[if_pos rfl,Jcb]
 . rw[JaI,e3,List.length_append];omega
 . apply ByteArray.ext
   apply Array.ext';rw[Lib.extract_to_end,JbT,JbT,e3,List.drop_left' rfl]
theorem rest_C1{R:List Nat}{n:Int}:C1 (Jcc u R n)<=C1 R:=by
 have e:R=R.take (upTo R u n).length++Jcc u R n:=(List.take_append_drop _ R).symm;have h:C1 R=C1 (R.take (upTo R u n).length)+C1 (Jcc u R n):=by rw[←Jbc];exact congrArg _ e
 have:=JdN (R.take (upTo R u n).length);omega
theorem JuI(u:Int)(R:List Nat)(q:Pt)(qs:List Pt):okZ u R (q :: qs)=(JbL R u (lenP q) && okZ u (Jcc u R (lenP q)) qs):=rfl
theorem Jvl(u v:Int)(R:List Nat)(q:Pt)(qs:List Pt):inZ u v R (q :: qs)=Jfc (by_ v (upTo R u (lenP q))) q :: inZ u v (Jcc u R (lenP q)) qs:=rfl
structure inI (w:World) (u:Int) (rs:List Nat) (qs:List Pt) (k:Nat) (R:List Nat) (L:List Pt) (v:Value) (wr:World):Prop where
 le:k<=qs.length
 len:L.length=k
 own:wr.ownsRow w.heap.size 96 3 v k (JaM L)
 ok:okZ u rs qs=okZ u R (qs.drop k)
 out:inZ u 1 rs qs=L++inZ u 1 R (qs.drop k)
 long:Jav (qs.drop k)=by_ u R
 rune:∀r∈R,Jbp r
 few:C1 R<=1000000
 low:Bw w wr
theorem inB_chk(rs:List Nat)(hr:∀r∈rs,Jbp r)(hz:C1 rs<=1000000)(u:Int)(qs:List Pt)(val:Value)(w:World)(hu:JaH u)(hT:Lib.Utf8Tabs 3 4 w)(ho:opAt w val qs)(hwf:∀q∈qs,wfP q)(hl:qs.length<=1000)(hc:chkE qs (by_ u rs)≠0) :
    Cg 99 #[val,I6 u,.string (Jah rs)] w (Rt w (.tuple #[.slice none 0 0,errV (chkE qs (by_ u rs))])):=by
 have hby:=Jms rs hz u;have hup:=Jdd u rs;have cC:Hid _:=JiA rs hr (by omega) w hT;have cI:=hdz λwx=>JdH u rs wx;have hV:errV (chkE qs (by_ u rs))=.iface 25 (I6 (chkE qs (by_ u rs))):=by unfold errV;rw[if_neg hc]
 have cK:Hid (∀wx,Bw w wx->Cg 137 #[val,I6 (by_ u rs)] wx (Rt wx (.iface 25 (I6 (chkE qs (by_ u rs)))))):=λwx hb=>by
  have:=Jdl val qs (by_ u rs) wx (Go.Proofs.Utf8Tabs_below hT hb) (JaJ ho hb (nlr _)) hwf (by omega) (by omega);rw[hV]at this;exact this
 rw[hV];obtain⟨p,c,rfl,_⟩:=ho;generalize chkE qs (by_ u rs)=E at *;generalize by_ u rs=Bu at *;unfold cntV at cI;clear hT hwf hc hV hu hz hby hup hr;generalize hS:Jah rs=S at *;clear hS
 go_enter func99,ntmps99
 go_wp2_with (first
  | (go_at_call 47;refine Calls.mono cC.out ?_;rintro e w1 ⟨rfl,hb1⟩;have HB1:Hid (Bw w (w1.alloc (Oc #[I6 (C1 rs),I6 (C2 rs),I6 (C3 rs),I6 (C4 rs)] 78))):=hb1.alloc hb1.size _;clear hb1)
  | (go_at_call 119;refine(cI.out _).mono ?_;rintro e w3 ⟨rfl,hb3⟩;have HB3:=hdz (HB1.out.trans (hb3.mono HB1.out.size));clear hb3)
  | (go_at_call 137;refine(cK.out _ HB3.out).mono ?_;rintro e w4 ⟨rfl,hb4⟩;have HB4:=hdz (HB3.out.trans (hb4.mono HB3.out.size));clear hb4))
 go_ret2
 exact⟨rfl,HB4.out⟩
theorem Jvn(rs:List Nat)(hr:∀r∈rs,Jbp r)(hz:C1 rs<=1000000)(u:Int)(qs:List Pt)(val:Value)(w:World)(hu:JaH u)(hT:Lib.Utf8Tabs 3 4 w)(ho:opAt w val qs)(hwf:∀q∈qs,wfP q)(hpl:∀q∈qs,q.put.length<=1000000)(hl:qs.length<=1000)(hc:chkE qs (by_ u rs)=0) :
    Cg 99 #[val,I6 u,.string (Jah rs)] w λe w'=>∃v',e=.returned (.tuple #[v',errV (if okZ u rs qs then 0 else 10)])/\opN w.heap.size w' v' (if okZ u rs qs then inZ u 1 rs qs else [])/\Bw w w':=by
 have hby:=Jms rs hz u;have hup:=Jdd u rs;obtain⟨hp1,hp2,hp3⟩:=Jgk hc;have cC:Hid _:=JiA rs hr (by omega) w hT;have cI:=hdz λwx=>JdH u rs wx;have cK:Hid (∀wx,Bw w wx->Cg 137 #[val,I6 (by_ u rs)] wx (Rt wx .nilIface)):=λwx hb=>by
  have:=Jdl val qs (by_ u rs) wx (Go.Proofs.Utf8Tabs_below hT hb) (JaJ ho hb (nlr _)) hwf (by omega) (by omega);rw[hc]at this;exact this
 have HOP:=hdz ho;have HT:=hdz hT;have HP1:=hdz hp1;have HP3:=hdz hp3;have HPL:=hdz hpl;have HU:=hdz hu;have H0:Hid (inI w u rs qs 0 rs [] (.slice none 0 0) w):=⟨Nat.zero_le _,rfl,World.ownsRow_nil _ _ _ _,rfl,rfl,hp2,hr,hz,brf _ _⟩;obtain⟨p,c,rfl,r1,r2,r3⟩:=ho;obtain⟨n,hn⟩:∃n,qs.length=n:=⟨_,rfl⟩;have HN:=hdz hn;rw[hn]at r1 hl cK ⊢;obtain⟨i0,hi,hz0,hz1,hz2⟩:=info_parts Jcm;have HI:=hdz hi;have HZ0:=hdz hz0;have HZ1:=hdz hz1;have HZ2:=hdz hz2;generalize by_ u rs=Bu at *;unfold cntV at cI;obtain⟨EV,hEV⟩:∃EV,errV (if okZ u rs qs then 0 else 10)=EV:=⟨_,rfl⟩;obtain⟨OP,hOP⟩:∃OP,(if okZ u rs qs then inZ u 1 rs qs else [])=OP:=⟨_,rfl⟩;have HEV:=hdz hEV.symm;have HOPV:=hdz hOP.symm;rw[hEV,hOP];clear hEV hOP;obtain⟨S,hS⟩:∃S,Jah rs=S:=⟨_,rfl⟩;have HS:=hdz hS.symm;rw[hS]at cC ⊢;clear hT hwf hpl hp1 hp2 hp3 hc hn r3 hS hu hz hby hup hr hi hz0 hz1 hz2;unfold maxLen at r2
 go_enter func99,ntmps99
 go_wp2_with (first
  | (go_at_call 47;refine Calls.mono cC.out ?_;rintro e w1 ⟨rfl,hb1⟩;have HB1:Hid (Bw w (w1.alloc (Oc #[I6 (C1 rs),I6 (C2 rs),I6 (C3 rs),I6 (C4 rs)] 78))):=hb1.alloc hb1.size _;clear hb1)
  | (go_at_call 119;refine(cI.out _).mono ?_;rintro e w3 ⟨rfl,hb3⟩;have HB3:=hdz (HB1.out.trans (hb3.mono HB1.out.size));clear hb3)
  | (go_at_call 137;refine(cK.out _ HB3.out).mono ?_;rintro e w4 ⟨rfl,hb4⟩;have HB4:=hdz (HB3.out.trans (hb4.mono HB3.out.size));clear hb4))
 have H4:Hid (inI w u rs qs 0 rs [] (.slice none 0 0) w4):=⟨Nat.zero_le _,rfl,World.ownsRow_nil _ _ _ _,rfl,rfl,H0.out.long,H0.out.rune,H0.out.few,HB4.out⟩;have hni:(n:Int)<=1000:=by omega
 clear cC cI cK H0 HB1 HB3
 go_loopw [2,11,34] (λv2 v11 i wr=>∃(k:Nat) (R:List Nat) (L:List Pt),i=.int .i64 k/\v2=.string (Jah R)/\inI w u rs qs k R L v11 wr) (λ_ _ i _=>n - (intOf i).toNat)
 case atStart=>exact⟨0,rs,[],rfl,by rw[HS.out],H4.out⟩
 case round =>
  obtain⟨k,R,L,rfl,rfl,hI⟩:=hrel;have HI1:=hdz hI;have hk:k<=n:=by have:=HN.out;have:=hI.le;omega
  have hown:=hI.own;obtain⟨pv,cv,rfl⟩:=Jak hown;clear H4 HS
  by_cases hlt:k<n
  . have hkr:k<qs.length:=by rw[HN.out];exact hlt
    have hne:qs≠[]:=by intro e;rw[e]at hkr;exact absurd hkr (Nat.not_lt_zero _)
    obtain⟨p0,c0,hvv,_,_,hcell⟩:=HOP.out;obtain⟨b0,o,rfl,hb0,hcell⟩:=hcell hne;obtain⟨f0,f1,f2⟩:=hcell k qs[k] (lgg hkr);have g0:=(zC hI.low b0 (o+k*3) hb0).trans f0;have g1:=(zC hI.low b0 (o+k*3+1) hb0).trans f1;have g2:=(zC hI.low b0 (o+k*3+2) hb0).trans f2;obtain rfl:p=some (Ad b0 o):=by injection hvv
    have hqm:qs[k]∈qs:=List.getElem_mem _;have hsnd:=(Jej (HP1.out _ hqm).1).1;have hplq:=HPL.out _ hqm;have hdk:qs.drop k=qs[k] :: qs.drop (k+1):=List.drop_eq_getElem_cons hkr;have hlong:=hI.long;rw[hdk]at hlong;have hl2:Jav (qs[k] :: qs.drop (k+1))=lenP qs[k]+Jav (qs.drop (k+1)):=Jby _ _;have hrest:=JlB λq hq=>HP3.out q (List.mem_of_mem_drop (i:=k+1) hq);have hok:=hI.ok;have hout:=hI.out;rw[hdk,JuI]at hok;rw[hdk,Jvl]at hout;have hle:lenP qs[k]<=by_ u R:=by omega
    have CH:=λ(wx:World) (hb:Bw w wx)=>Jvp R hI.rune (by have:=hI.few;omega) u (lenP qs[k]) HU.out hle wx (Go.Proofs.Utf8Tabs_below HT.out hb);have HLR:Hid (Jav (qs.drop (k+1))=by_ u R - lenP qs[k]):=by show _=_;omega
    have hbs:=Jms R hI.few u;have HLE:=hdz hle;clear hcell hvv f0 f1 f2 hne hqm hl2 hrest hlong hdk;generalize qs[k]=q at *;obtain⟨K,D,U⟩:=q;obtain⟨s1,s2⟩:=hsnd;have s1:0<=K:=s1;have s2:0<=D:=s2;have hld:lenP ⟨K,D,U⟩=K+D:=rfl;rw[hld]at CH hok hout HLR HLE hle;have hw0:IntKind.i64.wrap (K+D)=K+D:=by rw[IntKind.wrap_i64];omega
    have hj:(k:Int)<(n:Int):=by omega
    obtain⟨β,hβ⟩:∃β,wr.heap.size=β:=⟨_,rfl⟩;have HBT:=hdz hβ;have HOW:=hdz hown;have HBW:=hdz hI.low;have HLL:=hdz hI.len;have HRN:=hdz hI.rune;have HFW:=hdz hI.few;clear hI hown HI1
    by_cases hed:JbL R u (K+D)=true
    . obtain ⟨N1,e1,e2,e3⟩:=JqQ HU.out hle hed
      have HED:=hdz hed;rw[e1]at hout;rw[hed,Bool.true_and]at hok;rw[hed,e1]at CH;obtain⟨X,hX⟩:∃X,Jah R=X:=⟨_,rfl⟩;obtain⟨X2,hX2⟩:∃X2,Jah (Jcc u R (K+D))=X2:=⟨_,rfl⟩;rw[hX,hX2]at e3;rw[hX]at e2 CH ⊢;have HX2:=hdz hX2;have HE3:=hdz e3;have hni1:(N1:Int)<=(X.size:Int):=by omega
      have hxs:(X.size:Int)<=1000000:=by rw[←hX,JaI];have:=HFW.out;rw[Jcb]at this;exact this
      have HCH:=hdz CH;have CS:=hdz λwx=>Js2 ⟨K,D,U⟩ N1 wx hplq;generalize hQ:Jfc (N1:Int) ⟨K,D,U⟩=Q1 at *;have HOK:Hid (okZ u rs qs=okZ u (Jcc u R (K+D)) (qs.drop (k+1))):=hok;have HOUT:Hid (inZ u 1 rs qs=(L++[Q1])++inZ u 1 (Jcc u R (K+D)) (qs.drop (k+1))):=by show _=_;rw[hout];simp
      obtain⟨QK,QD,QU⟩:=Q1;unfold ptV at CS;simp only at CS;have HLE2:=hdz hle;clear hed e1 e3 hX hX2 CH hok hout hplq hQ hle hbs HLE
      go_wp2_with (first
       | (go_at_call 155;refine(HCH.out _ (HBW.out.alloc HBW.out.size _)).mono ?_;rintro e w5 ⟨rfl,hb5⟩;have hbox:w5.heap[β]?=some (Oc #[I6 K,I6 D,Sx U] 96):=(hb5.block β (by rw[wsa,HBT.out];omega)).trans (by have:=heap_alloc_new wr (Oc #[I6 K,I6 D,Sx U] 96);rwa[HBT.out]at this);have y0:=cQ hbox 0 rfl;have y1:=cQ hbox 1 rfl;have y2:=cQ hbox 2 rfl;have HB5:Hid (Bw w w5):=(HBW.out.alloc HBW.out.size _).trans (hb5.mono (by rw[wsa];have:=HBW.out.size;omega));have HO5:Hid (w5.ownsRow w.heap.size 96 3 (.slice pv k cv) k (JaM L)):=Jbl (HOW.out.alloc _) hb5;clear hb5 hbox)
       | (go_at_call 156;refine(CS.out _).mono ?_;rintro e w6 ⟨rfl,hb6⟩;have HB6:Hid (Bw w w6):=HB5.out.trans (hb6.mono HB5.out.size);have HO6:=hdz (Jbl HO5.out hb6);have hs6:w.heap.size<=w6.heap.size:=HB6.out.size;clear hb6)
       | (at_builtin;refine wpList_append_own _ rfl _ _ 94 rfl w.heap.size 96 i0 (.agg #[I6 0,I6 0,.string ⟨#[]⟩]) 3 32 underlying94 HI.out HZ0.out HZ1.out HZ2.out rfl (by decide) _ _ _ rfl (HO6.out.alloc _) (Ad w6.heap.size 0) 1 1 (JaL ⟨QK,QD,QU⟩) rfl rfl (JkZ _ _ (by first | rfl | simp) _ _) (Jb2 _) (by unfold maxLen;omega) (by omega) (by first | omega | (simp;omega)) ?_))
      intro v' w' hown' hg' _;obtain⟨p',c',rfl⟩:=Jak hown';have HB9:Hid (Bw w w'):=(HB6.out.alloc HB6.out.size _).grown hg' (by simp;omega) λj hj=>(HO6.out.lt j hj).1;have HO9:=hdz hown';have HLT:=hdz hlt;clear hown' hg';go_wp2
      go_roundw
      case rel =>
       obtain⟨q1,q2⟩:=JhG HU.out HLE2.out HED.out;have q3:by_ u R=by_ u (upTo R u (K+D))+by_ u (Jcc u R (K+D)):=by rw[←Jb9];exact congrArg _ q1
       refine⟨k+1,Jcc u R (K+D),L++[⟨QK,QD,QU⟩],by go_num,by rw[HE3.out,HX2.out],⟨by have:=HN.out;have:=HLT.out;omega,by rw[List.length_append,HLL.out];rfl,?_,HOK.out,HOUT.out,?_,Jje HRN.out,Int.le_trans rest_C1 HFW.out,HB9.out⟩⟩
       . rw[JcZ];exact HO9.out
       . have:=HLR.out;omega
      case measure=>have:=HLT.out;simp[intOf];omega
    . have hed:JbL R u (K+D)=false:=Bool.eq_false_iff.2 hed
      rw[hed]at CH hok;rw[Bool.false_and]at hok;have HOK:Hid (okZ u rs qs=false):=hok;obtain⟨M1,hM1⟩:∃M1,by_ 1 (upTo R u (K+D))=M1:=⟨_,rfl⟩;rw[hM1]at CH;have HCH:=hdz CH;clear hed hM1 CH hok hout hplq hle hbs HLE;generalize Jah R=X at *
      go_wp2_with (go_at_call 155;refine(HCH.out _ (HBW.out.alloc HBW.out.size _)).mono ?_;rintro e w5 ⟨rfl,hb5⟩;have HB5:Hid (Bw w w5):=(HBW.out.alloc HBW.out.size _).trans (hb5.mono (by rw[wsa];have:=HBW.out.size;omega));clear hb5)
      go_ret2
      refine⟨.slice none 0 0,?_,?_,HB5.out⟩
      . rw[HEV.out,HOK.out];rfl
      . rw[HOPV.out,HOK.out];exact Jfl _ _
  . obtain rfl:k=n:=by omega
    have e:qs.drop k=[]:=List.drop_of_length_le (by rw[HN.out];exact nlr _);have hok:=hI.ok;have hout:=hI.out;rw[e]at hok hout;have HOK:Hid (okZ u rs qs=true):=hok;have HOUT:Hid (inZ u 1 rs qs=L):=hout.trans (by simp[inZ]);have HOW:=hdz hown;have HBW:=hdz hI.low;have HLL:=hdz hI.len;have hj:¬((k:Int)<(k:Int)):=by omega
    clear hI HI1 e hok hout hown;generalize Jah R=X at *;go_wp2
    go_ret2
    refine⟨.slice pv k cv,?_,?_,HBW.out⟩
    . rw[HEV.out,HOK.out];rfl
    . rw[HOPV.out,HOK.out,if_pos rfl,HOUT.out]
      have:=HOW.out;rw[←HLL.out]at this ⊢;exact Jg6 (nlr _) this
theorem JoY(rs:List Nat)(hr:∀r∈rs,Jbp r)(hz:C1 rs<=1000000)(u:Int)(qs:List Pt)(val:Value)(w:World)(hu:JaH u)(hT:Lib.Utf8Tabs 3 4 w)(ho:opAt w val qs)(hwf:∀q∈qs,wfP q)(hpl:∀q∈qs,q.put.length<=1000000)(hl:qs.length<=1000) :
    Cg 99 #[val,I6 u,.string (Jah rs)] w λe w'=>∃v',e=.returned (.tuple #[v',errV (tzE rs u 1 qs)])/\opN w.heap.size w' v' (tzO rs u 1 qs)/\Bw w w':=by
 have h1:(uB u && uB 1)=true:=by rw[(Jp0 u).2 hu,(Jp0 1).2 (.inl rfl)];rfl
 unfold tzE tzO;rw[h1,if_pos rfl,if_pos rfl]
 by_cases hc:chkE qs (by_ u rs)=0
 . rw[if_pos hc,if_pos hc]
   obtain⟨_,h2,h3⟩:=Jgk hc;obtain⟨t1,t2⟩:=Jsg hu 1 qs rs h3 (Int.le_of_eq h2);rw[t1,t2];exact Jvn rs hr hz u qs val w hu hT ho hwf hpl hl hc
 . rw[if_neg hc,if_neg hc]
   exact(inB_chk rs hr hz u qs val w hu hT ho hwf hl hc).mono λe w' h=>⟨_,h.1,Jfl _ _,h.2⟩
end
section
attribute [local go_sem] Oper.semAt_some Jaj JaD
variable {lo b : Nat}{w : World}{who u : Int}{S : Cl}
theorem JnL(h:isCl lo w b who u S)(i:Int)(hd:0<=S.drops/\S.drops<=1000000) :
    Cg 168 #[Pd b 0,I6 i] w λe w'=>e=.returned (.tuple #[])/\isCl lo w' b who u (rfS S i)/\keptC w w' b:=by
 have hlt:=Jcq h;have HC:=hdz h;have CP:Hid _:=JbB h
 by_cases hm:S.mine=[]
 . have e:decide (0<S.mine.length)=false:=by rw[hm];rfl
   rw[e]at CP;have HR:Hid (rfS S i=S):=if_neg λh=>h.1 hm;clear h hm e hd
   go_enter func168,ntmps168
   go_wp2_with (go_at_call 67;refine Calls.mono CP.out ?_;rintro e w2 ⟨rfl,hb2⟩;have HB2:=hdz hb2;clear hb2)
   (try simp only[Exit.inBlock,Exit.then]);refine bodyPost_ret (results_none rfl _ _ _) rfl ?_
   rw[HR.out];exact⟨rfl,Jbm HC.out HB2.out,JbG HB2.out hlt⟩
 . have e:decide (0<S.mine.length)=true:=decide_eq_true (List.length_pos_iff.2 hm)
   rw[e]at CP;obtain⟨hlo,vm,h3,h4⟩:=h;obtain⟨p,c,rfl⟩:=Jcf h4;have H3:=hdz h3;have HLO:=hdz hlo
   by_cases hi:i=S.id
   . have HR:Hid (rfS S i = { S with mine:=[],doc:=S.seen,drops:=S.drops+1 }):=if_pos ⟨hm,hi⟩
     have hid1:wrap64 (S.drops+1)=S.drops+1:=Jar (by omega) (by omega);obtain⟨d0,d1⟩:=hd;subst hi;clear h3 h4 hm e hlo;generalize S.mine.length=n at *
     go_enter func168,ntmps168
     go_wp2_with (go_at_call 67;refine Calls.mono CP.out ?_;rintro e w2 ⟨rfl,hb2⟩;have HB2:=hdz hb2;have hbk:=(hb2.block b hlt).trans H3.out;have HBK:=hdz hbk;obtain⟨_,_,_,y3,y4,y5,y6,y7,yf⟩:=Jay hbk;have f4:=yf 4;have f5:=yf 5;have f7:=yf 7;clear hb2 hbk yf)
     go_end0;rw[HR.out];refine⟨rfl,?_⟩;have b1:=heap_setCell_same w2 b 4 _ _ (.slice none 0 0) HBK.out;have b2:=heap_setCell_same _ b 5 _ _ (Sx S.seen) b1;have b3:=heap_setCell_same _ b 7 _ _ (I6 (S.drops+1)) b2;refine JeA HLO.out H3.out b3 (JkH _ _) ?_ λk hk=>by cases hk
     exact(Jai HB2.out _).trans (((Jat (S:=λk=>k=b\/(Value.slice p n c).ownBlock=some k) (.inl rfl)).trans (Jat (S:=λk=>k=b\/(Value.slice p n c).ownBlock=some k) (.inl rfl))).trans (Jat (S:=λk=>k=b\/(Value.slice p n c).ownBlock=some k) (.inl rfl)))
   . have HR:Hid (rfS S i=S):=if_neg λh=>hi h.2
     have hi2:¬i=S.id:=hi;clear h3 h4 hm e hd hlo
     go_enter func168,ntmps168
     go_wp2_with (go_at_call 67;refine Calls.mono CP.out ?_;rintro e w2 ⟨rfl,hb2⟩;have HB2:=hdz hb2;have y6:=(Jay ((hb2.block b hlt).trans H3.out)).2.2.2.2.2.2.1;clear hb2)
     (try simp only[Exit.inBlock,Exit.then]);refine bodyPost_ret (results_none rfl _ _ _) rfl ?_
     rw[HR.out];exact⟨rfl,Jbm HC.out HB2.out,JbG HB2.out hlt⟩
theorem Jpl(h:isCl lo w b who u S)(v:Value)(o:List Pt)(hx:opX lo w v o)(hT:Lib.Utf8Tabs 3 4 w)(htw:S.mine.length<=2)(hid:0<=S.id/\S.id<=1000000)
    (hg:∀m1 m2,S.mine=[m1,m2]->∃t,good m2 t/\good o (Jae m2 t)/\t.length+Jaq m2<1000000/\(Jae m2 t).length+Jaq o<1000000) :
    Cg 102 #[Pd b 0,v] w λe w'=>e=.returned (.tuple #[])/\isCl lo w' b who u { S with mine:=addM o S.mine,id:=if S.mine=[] then S.id+1 else S.id }/\keptC w w' b:=by
 rcases hm:S.mine with _|⟨m1,_|⟨m2,_|⟨m3,ms⟩⟩⟩
 . rw[if_pos rfl]
   exact JvD h hm v o hx hid
 . rw[if_neg (by simp)]
   have:=JvC h (by rw[hm];rfl) v o hx;rw[hm]at this;exact this
 . rw[if_neg (by simp)]
   obtain⟨t,g1,g2,g3,g4⟩:=hg m1 m2 hm;exact JvB h hm v o hx hT g1 g2 g3 g4
 . rw[hm]at htw;simp at htw
end
section
attribute [local go_sem] Oper.semAt_some Jaj JaD
variable {lo b : Nat}{w : World}{who u : Int}{S : Cl}
theorem JjA(h:isCl lo w b who u S)(hu:JaH u)(v:Value)(q:List Pt)(hx:opAt w v q)(hl:q.length<=1000)(hm:60<q.length\/q.any Jev=true) :
    Cg 55 #[Pd b 0,v] w (Rt w (errV 4)):=by
 have hu0:(u==0)=false:=by rcases hu with rfl|rfl|rfl<;>rfl
 have CU:Hid _:=Jdv h;have CF:=hdz λwx (hb:Bw w wx)=>JnJ v q wx (JaJ hx hb (nlr _)) (by omega);rw[show errV 4=.iface 25 (I6 4) from rfl];obtain⟨p,c,rfl,_⟩:=hx
 by_cases h6:60<q.length
 . have h6':(60:Int)<(q.length:Int):=by omega
   clear h hu hm CF
   go_enter func55,ntmps55
   go_wp2_with (first
    | (go_at_call 96;refine Calls.mono CU.out ?_;rintro e w1 ⟨rfl,hb1⟩;have HB1:=hdz hb1;clear hb1)
    | (go_at_call 98;refine(CF.out _ HB1.out).mono ?_;rintro e w2 ⟨rfl,hb2⟩;have HB2:=hdz (HB1.out.trans (hb2.mono HB1.out.size));clear hb2))
   go_ret;exact⟨rfl,HB1.out⟩
 . have h6':¬(60:Int)<(q.length:Int):=by omega
   have ha:q.any Jev=true:=hm.elim (λe=>absurd e h6) id;rw[ha]at CF;clear h hu hm ha
   go_enter func55,ntmps55
   go_wp2_with (first
    | (go_at_call 96;refine Calls.mono CU.out ?_;rintro e w1 ⟨rfl,hb1⟩;have HB1:=hdz hb1;clear hb1)
    | (go_at_call 98;refine(CF.out _ HB1.out).mono ?_;rintro e w2 ⟨rfl,hb2⟩;have HB2:=hdz (HB1.out.trans (hb2.mono HB1.out.size));clear hb2))
   go_ret;exact⟨rfl,HB2.out⟩
theorem Jr8(h:isCl lo w b who u S)(hk:okK 2000 S)(hu:JaH u)(v:Value)(q:List Pt)(hx:opAt w v q)(hwf:∀p∈q,wfP p)(hpl:∀p∈q,p.put.length<=300)(hl:q.length<=100)(hsz:S.seen.length<=100000)(hid:0<=S.id/\S.id<=1000000)(hG:3<lo/\4<lo)(hT:Lib.Utf8Tabs 3 4 w) :
    Cg 55 #[Pd b 0,v] w λe w'=>e=.returned (errV (edE u S q))/\isCl lo w' b who u (edS u S q)/\keptC w w' b:=by
 have hlt:=Jcq h;have same:∀{n:Int},edE u S q=n->n≠0->(Cg 55 #[Pd b 0,v] w (Rt w (errV n)))->Cg 55 #[Pd b 0,v] w λe w'=>e=.returned (errV (edE u S q))/\isCl lo w' b who u (edS u S q)/\keptC w w' b:=λ{n} e1 e2 hc=>by
  refine hc.mono ?_;rintro e w' ⟨rfl,hb⟩;have:edS u S q=S:=if_neg (by rw[e1];exact e2);rw[e1,this];exact⟨rfl,Jbm h hb,JbG hb hlt⟩
 by_cases hm:60<q.length\/q.any Jev=true
 . exact same (if_pos hm) (by decide) (JjA h hu v q hx (by omega) hm)
 have hV:=hk.V;have hrs:encs (Ja0 S.doc)=S.doc:=JbD (Joa hV);have hbs:Jah (Ja0 S.doc)=⟨S.doc.toArray⟩:=by unfold Jah;rw[hrs]
 have hdl:=hk.len;have hC1:C1 (Ja0 S.doc)<=1000000:=by rw[Jcb,hrs];omega
 have h6:¬60<q.length:=λe=>hm (.inl e);have ha:q.any Jev=false:=by
  cases e:q.any Jev with
  | false=>rfl
  | true=>exact absurd (.inr e) hm
 have hu0:(u==0)=false:=by rcases hu with rfl|rfl|rfl<;>rfl
 have CU:Hid _:=Jdv h;have CF:Hid (∀wx,Bw w wx->Cg 98 #[v,.func (.func 97) #[] #[]] wx (Rt wx (.bool false))):=λwx hb=>by
  have:=JnJ v q wx (JaJ hx hb (nlr _)) (by omega);rwa[ha]at this
 have cI:Hid (∀wx,Bw w wx->Cg 99 #[v,I6 u,Sx S.doc] wx λe w'=>∃v',e=.returned (.tuple #[v',errV (tzE (Ja0 S.doc) u 1 q)])/\opN wx.heap.size w' v' (edO u S q)/\Bw wx w'):=λwx hb=>by
  have:=JoY (Ja0 S.doc) (λr hr=>Jd4 hr) hC1 u q v wx hu (Go.Proofs.Utf8Tabs_below hT hb) (JaJ hx hb (nlr _)) hwf (λp hp=>by have:=hpl p hp;omega) (by omega);rwa[hbs]at this
 have h6':¬(60:Int)<(q.length:Int):=by omega
 by_cases ht:tzE (Ja0 S.doc) u 1 q=0
 case neg =>
  refine same (n:=tzE (Ja0 S.doc) u 1 q) (by unfold edE;rw[if_neg hm,if_pos ht]) ht ?_;have hV2:errV (tzE (Ja0 S.doc) u 1 q)=.iface 25 (I6 (tzE (Ja0 S.doc) u 1 q)):=by unfold errV;rw[if_neg ht]
  rw[hV2]at cI ⊢;generalize tzE (Ja0 S.doc) u 1 q=E at *;generalize edO u S q=O at *;have CI:=cI;obtain⟨hlo,vm,h3,h4⟩:=h;obtain⟨p,c,rfl⟩:=Jcf h4;have H3:=hdz h3;obtain⟨p0,c0,rfl,_⟩:=hx;generalize S.mine.length=n at *;clear cI h3 h4 hm ha hk hu hwf hpl hsz hid hG hT same hV hrs hbs hdl hC1 h6 hV2 ht hlo
  go_enter func55,ntmps55
  go_wp2_with (first
   | (go_at_call 96;refine Calls.mono CU.out ?_;rintro e w1 ⟨rfl,hb1⟩;have HB1:=hdz hb1;clear hb1)
   | (go_at_call 98;refine(CF.out _ HB1.out).mono ?_;rintro e w2 ⟨rfl,hb2⟩;have HB2:=hdz (HB1.out.trans (hb2.mono HB1.out.size));clear hb2))
  refine wz (λwx:World=>wx.heap[b]?=some (Oc (Jb7 who u S (.slice p n c)) 90)) 15 ((HB2.out.block b hlt).trans H3.out) wzb λw30 hb30 hz0 G hG=>?_;have hb2A:=HB2.out.trans (hb30.mono HB2.out.size);have y1:∀x,(G x).cell? (Ad b 1)=some (I6 u):=λx=>(Jay (hG.but x)).2.1;have y5:∀x,(G x).cell? (Ad b 5)=some (Sx S.doc):=λx=>(Jay (hG.but x)).2.2.2.2.2.1;(iterate 9 (refine ay hG hz0 λ_ k=>?_;go_simp;apply k;clear k));clear y1 y5;refine aO 9 ⟨_,rfl,?_⟩;intro w31 hb31 K hK
  go_simp
  have hb2B:=hb2A.trans (hb31.mono hb2A.size);refine(CI.out w31 hb2B).mono ?_;rintro e w3 ⟨v',rfl,hn3,hb3⟩;obtain⟨p3,c3,rfl⟩:=Jei hn3;have hz2:w3.heap[b]?=some (Oc (Jb7 who u S (.slice p n c)) 90):=((hb2B.trans (hb3.mono hb2B.size)).block b hlt).trans H3.out;refine⟨_,rfl,hK _ _ (λ_=>hz2) ?_⟩;clear hK K hz0;refine az hG hz2 10 λ_ k=>?_;go_simp;apply k;clear k;refine az hG hz2 11 λ_ k=>?_;go_simp;apply k;clear k;refine az hG hz2 12 λ_ k=>?_;go_simp;apply k;clear k;refine az hG hz2 13 λ_ k=>?_;go_simp;apply k;clear k;refine az hG hz2 14 λ_ k=>?_;go_simp;apply k;clear k;clear hG hz2;refine ae ?_;intro w4 hb4;have hb44:=(hb2B.trans (hb3.mono hb2B.size));have HB4:Hid (Bw w w4):=hb44.trans (hb4.mono hb44.size);have HN4:Hid (opX lo w4 (.slice p3 O.length c3) O):=Ja1 (JbY hn3) hb4;clear hb30 hb31 hb3 hb4 hb44 hb2A hb2B hn3;go_wp2;go_ret;exact⟨rfl,HB4.out⟩
 case pos =>
 have g1:=(Jpf hu hk ht).1;rw[ht,show errV 0=.nilIface from rfl]at cI;have hpu:Jaq (edO u S q)<=30000:=by
  obtain⟨_,_,e3,e4⟩:=Jpf hu hk ht;obtain⟨hp1,_,_⟩:=Jgk e3;rw[e4,Jto q _ λp hp=>(hp1 p hp).1];have:=JpD q hpl;omega
 have hbd:S.doc.length+Jaq (edO u S q)<1000000:=by omega
 have hlens:=(g1.lens hbd).2;have hfl:=(g1.fine hbd).len;have CLn:Hid (∀vv wx,opAt wx vv (edO u S q)->Cg 100 #[vv] wx (Rt wx (.tuple #[I6 (JaS (edO u S q)).1,I6 ((Jae (edO u S q) S.doc).length:Int)]))):=λvv wx ho=>by
  have:=Jct vv (edO u S q) wx ho hfl;rwa[hlens]at this
 have CAp:=hdz λvv wx (hb:Bw w wx) (ho:opAt wx vv (edO u S q))=>Jju vv _ S.doc wx (Go.Proofs.Utf8Tabs_below hT hb) ho g1 hbd
 by_cases hfu:2000<(Jae (edO u S q) S.doc).length
 . refine same (n:=12) (by unfold edE;rw[if_neg hm,if_neg (by simpa using ht),if_pos hfu]) (by decide) ?_
   rw[show errV 12=.iface 25 (I6 12) from rfl];have hfi:(2000:Int)<((Jae (edO u S q) S.doc).length:Int):=by omega
   generalize (JaS (edO u S q)).1=L1 at *;generalize (Jae (edO u S q) S.doc).length=L2 at *;generalize hOO:edO u S q=O at *;have CI:=cI;obtain⟨hlo,vm,h3,h4⟩:=h;obtain⟨p,c,rfl⟩:=Jcf h4;have H3:=hdz h3;obtain⟨p0,c0,rfl,_⟩:=hx;generalize S.mine.length=n at *;clear cI h3 h4 hm ha hk hu hwf hpl hsz hid hG hT same hV hrs hbs hdl hC1 h6 ht hlo g1 hpu hbd hlens hfl hfu CAp hOO
   go_enter func55,ntmps55
   go_wp2_with (first
    | (go_at_call 96;refine Calls.mono CU.out ?_;rintro e w1 ⟨rfl,hb1⟩;have HB1:=hdz hb1;clear hb1)
    | (go_at_call 98;refine(CF.out _ HB1.out).mono ?_;rintro e w2 ⟨rfl,hb2⟩;have HB2:=hdz (HB1.out.trans (hb2.mono HB1.out.size));clear hb2))
   refine wz (λwx:World=>wx.heap[b]?=some (Oc (Jb7 who u S (.slice p n c)) 90)) 15 ((HB2.out.block b hlt).trans H3.out) wzb λw30 hb30 hz0 G hG=>?_;have hb2A:=HB2.out.trans (hb30.mono HB2.out.size);have y1:∀x,(G x).cell? (Ad b 1)=some (I6 u):=λx=>(Jay (hG.but x)).2.1;have y5:∀x,(G x).cell? (Ad b 5)=some (Sx S.doc):=λx=>(Jay (hG.but x)).2.2.2.2.2.1;(iterate 9 (refine ay hG hz0 λ_ k=>?_;go_simp;apply k;clear k));clear y1 y5;refine aO 9 ⟨_,rfl,?_⟩;intro w31 hb31 K hK
   go_simp
   have hb2B:=hb2A.trans (hb31.mono hb2A.size);refine(CI.out w31 hb2B).mono ?_;rintro e w3 ⟨v',rfl,hn3,hb3⟩;obtain⟨p3,c3,rfl⟩:=Jei hn3;have hz2:w3.heap[b]?=some (Oc (Jb7 who u S (.slice p n c)) 90):=((hb2B.trans (hb3.mono hb2B.size)).block b hlt).trans H3.out;refine⟨_,rfl,hK _ _ (λ_=>hz2) ?_⟩;clear hK K hz0;refine az hG hz2 10 λ_ k=>?_;go_simp;apply k;clear k;refine az hG hz2 11 λ_ k=>?_;go_simp;apply k;clear k;refine az hG hz2 12 λ_ k=>?_;go_simp;apply k;clear k;refine az hG hz2 13 λ_ k=>?_;go_simp;apply k;clear k;refine az hG hz2 14 λ_ k=>?_;go_simp;apply k;clear k;clear hG hz2;refine ae ?_;intro w4 hb4;have hb44:=(hb2B.trans (hb3.mono hb2B.size));have HB4:Hid (Bw w w4):=hb44.trans (hb4.mono hb44.size);have HN4:Hid (opX lo w4 (.slice p3 O.length c3) O):=Ja1 (JbY hn3) hb4;clear hb30 hb31 hb3 hb4 hb44 hb2A hb2B hn3
   go_wp2_with (go_at_call 100;refine(CLn.out _ _ HN4.out.1).mono ?_;rintro e w5 ⟨rfl,hb5⟩;have HB5:=hdz (HB4.out.trans (hb5.mono HB4.out.size));clear hb5)
   go_ret;exact⟨rfl,HB5.out⟩
 . have he0:edE u S q=0:=by unfold edE;rw[if_neg hm,if_neg (by simpa using ht),if_neg hfu]
   have HES:Hid (edS u S q = { S with doc:=Jae (edO u S q) S.doc,mine:=addM (edO u S q) S.mine,id:=if S.mine=[] then S.id+1 else S.id }):=if_pos he0;have hfi:¬(2000:Int)<((Jae (edO u S q) S.doc).length:Int):=by omega
   have HQ:Hid (∀m1 m2,S.mine=[m1,m2]->∃t,good m2 t/\good (edO u S q) (Jae m2 t)/\t.length+Jaq m2<1000000/\(Jae m2 t).length+Jaq (edO u S q)<1000000):=λm1 m2 e=>by
    have hal:=hk.all;have hpt:=hk.puts;have hdc:=hk.doc;rw[e]at hal hpt hdc;have g1':=g1;rw[hdc]at g1';have l1:=Jmu hal.1;have p1:=hpt m1 (by simp);have p2:=hpt m2 (by simp);have e2:allM [m1,m2] S.seen=Jae m2 (Jae m1 S.seen):=rfl;rw[e2]at g1';refine⟨Jae m1 S.seen,hal.2.1,g1',by omega,?_⟩;rw[hdc,e2]at hbd;exact hbd
   have HTW:=hdz hk.two;have HID:=hdz hid;have HT:=hdz hT;have HGG:=hdz hG;rw[he0];generalize (JaS (edO u S q)).1=L1 at *;generalize hTX:Jae (edO u S q) S.doc=TX at *;generalize hOO:edO u S q=O at *;have CI:=cI;obtain⟨hlo,vm,h3,h4⟩:=h;have HLO:=hdz hlo;obtain⟨p,c,rfl⟩:=Jcf h4;obtain⟨n,hn⟩:∃n,S.mine.length=n:=⟨_,rfl⟩;rw[hn]at h3 h4;have H3:=hdz h3;have H4:=hdz h4;obtain⟨p0,c0,rfl,_⟩:=hx;have hne5:∀k,(Value.slice p n c).ownBlock=some k->k≠b:=λk hk e=>by
    obtain⟨_,_,cs,hc⟩:=Jci H4.out hk;subst e;have:=JaB H3.out hc;revert this;decide
   have HNE:=hdz hne5;clear cI h3 h4 hm ha hk hu hwf hpl hsz hid hG hT same hV hrs hbs hdl hC1 h6 ht hlo g1 hpu hbd hlens hfl hfu hOO hTX he0 hn hne5
   go_enter func55,ntmps55
   go_wp2_with (first
    | (go_at_call 96;refine Calls.mono CU.out ?_;rintro e w1 ⟨rfl,hb1⟩;have HB1:=hdz hb1;clear hb1)
    | (go_at_call 98;refine(CF.out _ HB1.out).mono ?_;rintro e w2 ⟨rfl,hb2⟩;have HB2:=hdz (HB1.out.trans (hb2.mono HB1.out.size));clear hb2))
   refine wz (λwx:World=>wx.heap[b]?=some (Oc (Jb7 who u S (.slice p n c)) 90)) 15 ((HB2.out.block b hlt).trans H3.out) wzb λw30 hb30 hz0 G hG=>?_;have hb2A:=HB2.out.trans (hb30.mono HB2.out.size);have y1:∀x,(G x).cell? (Ad b 1)=some (I6 u):=λx=>(Jay (hG.but x)).2.1;have y5:∀x,(G x).cell? (Ad b 5)=some (Sx S.doc):=λx=>(Jay (hG.but x)).2.2.2.2.2.1;(iterate 9 (refine ay hG hz0 λ_ k=>?_;go_simp;apply k;clear k));clear y1 y5;refine aO 9 ⟨_,rfl,?_⟩;intro w31 hb31 K hK
   go_simp
   have hb2B:=hb2A.trans (hb31.mono hb2A.size);refine(CI.out w31 hb2B).mono ?_;rintro e w3 ⟨v',rfl,hn3,hb3⟩;obtain⟨p3,c3,rfl⟩:=Jei hn3;have hz2:w3.heap[b]?=some (Oc (Jb7 who u S (.slice p n c)) 90):=((hb2B.trans (hb3.mono hb2B.size)).block b hlt).trans H3.out;refine⟨_,rfl,hK _ _ (λ_=>hz2) ?_⟩;clear hK K hz0;refine az hG hz2 10 λ_ k=>?_;go_simp;apply k;clear k;refine az hG hz2 11 λ_ k=>?_;go_simp;apply k;clear k;refine az hG hz2 12 λ_ k=>?_;go_simp;apply k;clear k;refine az hG hz2 13 λ_ k=>?_;go_simp;apply k;clear k;refine az hG hz2 14 λ_ k=>?_;go_simp;apply k;clear k;clear hG hz2;refine ae ?_;intro w4 hb4;have hb44:=(hb2B.trans (hb3.mono hb2B.size));have HB4:Hid (Bw w w4):=hb44.trans (hb4.mono hb44.size);have HN4:Hid (opX lo w4 (.slice p3 O.length c3) O):=Ja1 (JbY hn3) hb4;clear hb30 hb31 hb3 hb4 hb44 hb2A hb2B hn3;have h4k:=(HB4.out.block b hlt).trans H3.out;have HBK4:=hdz h4k;have hl4:b<w4.heap.size:=(alt h4k);have t5:=(Jay h4k).2.2.2.2.2.1;clear h4k
   go_wp2_with (first
    | (go_at_call 100;refine(CLn.out _ _ HN4.out.1).mono ?_;rintro e w5 ⟨rfl,hb5⟩;have HB5:=hdz hb5;have t5':=(zC hb5 b 5 hl4).trans t5;clear hb5)
    | (go_at_call 101;refine(CAp.out _ _ (HB4.out.trans (HB5.out.mono HB4.out.size)) (Ja1 HN4.out HB5.out).1).mono ?_;rintro e w6 ⟨rfl,hb6⟩;have hb46:=HB5.out.trans (hb6.mono HB5.out.size);have HB6:=hdz hb46;have hk6:=(hb46.block b hl4).trans HBK4.out;have HBK6:=hdz hk6;have t6:=(Jay hk6).2.2.2.2.2.1;have f6:=fZ hk6 5;clear hb6 hb46 hk6)
    | (go_at_call 9999))
   have hbw6:=HB4.out.trans (HB6.out.mono HB4.out.size);have b1:=heap_setCell_same w6 b 5 _ _ (Sx TX) HBK6.out;have hs1:sameBut w6 (w6.setCell (Ad b 5) (Sx TX)) (λk=>k=b):=Jat (S:=λk=>k=b) rfl;obtain⟨hc1,hk1⟩:=JeA (S':={ S with doc:=TX }) HLO.out H3.out b1 (Jds (JbR H4.out hbw6) hs1 (λj _ hj=>by obtain rfl:=hj;exact⟨HLO.out,Ja8 HBK6.out (by decide)⟩) λj hj e=>HNE.out j hj e) (((Jai hbw6 _).comp hs1 λj _ e=>.inl e)) λj hj=>.inl hj;have hT6:Lib.Utf8Tabs 3 4 (w6.setCell (Ad b 5) (Sx TX)):=JgL (Go.Proofs.Utf8Tabs_below HT.out hbw6) hs1 (λe=>by have:=HLO.out;have:=HGG.out.1;omega) (λe=>by have:=HLO.out;have:=HGG.out.2;omega);have hx6:opX lo (w6.setCell (Ad b 5) (Sx TX)) (.slice p3 O.length c3) O:=JbI (Ja1 HN4.out HB6.out) hs1 λj _ hj=>by obtain rfl:=hj;exact⟨HLO.out,Ja8 HBK6.out (by decide)⟩
   refine(Jpl hc1 _ O hx6 hT6 HTW.out HID.out HQ.out).mono ?_;rintro e w7 ⟨rfl,hc7,hk7⟩;have HFIN:Hid (isCl lo w7 b who u (edS u S q)/\keptC w w7 b):=by
    show _/\_;rw[HES.out];exact⟨hc7,hk1.trans hk7⟩
   clear hc7 hk7 hc1 hk1 hs1 b1 hT6 hx6 hbw6;go_wp2;go_ret;exact⟨rfl,HFIN.out⟩
theorem Jpm(h:isCl lo w b who u S)(hk:okK 2000 S)(hu:JaH u)(v:Value)(q:List Pt)(hx:opAt w v q)(hwf:∀p∈q,wfP p)(hl:q.length<=1000)(hsz:S.seen.length<=100000)(hid:0<=S.id/\S.id<=1000000)(hG:3<lo/\4<lo)(hT:Lib.Utf8Tabs 3 4 w) :
    Cg 55 #[Pd b 0,v] w λe w'=>e=.returned (errV (edE u S q))/\isCl lo w' b who u (edS u S q)/\keptC w w' b:=by
 by_cases hm:60<q.length\/q.any Jev=true
 . have e1:edE u S q=4:=if_pos hm
   have e2:edS u S q=S:=if_neg (by rw[e1];decide);rw[e1,e2];refine(JjA h hu v q hx hl hm).mono ?_;rintro e w' ⟨rfl,hb⟩;exact⟨rfl,Jbm h hb,JbG hb (Jcq h)⟩
 . refine Jr8 h hk hu v q hx hwf (λp hp=>?_) (by omega) hsz hid hG hT
   have:Jev p=false:=by
    cases e:Jev p with
    | false=>rfl
    | true=>exact absurd (.inr (List.any_eq_true.2 ⟨p,hp,e⟩)) hm
   unfold Jev at this;have:=of_decide_eq_false this;omega
end
end Go.Proofs.YtbkeomcicobohaaGreatDoor
